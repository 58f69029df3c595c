/- Texts put together: Ev11 EvT D6 D20 B4t B5t B6t D5 D60 D61 D23 D21 D7 D22 D24 D25 D26 D27 D28 D30 D31 D32 D33 D34 D35 D36. -/
import Derived.Test.YtmjjodficjjehaaGreatDoorU4
import Derived.Test.YtmjjodficjjehaaGreatDoorRows
import Derived.LaidSub
import Derived.Lib.LaidTab
import Derived.Lib.TrailingZeros
import Derived.Test.YtmjjodficjjehaaGreatDoorU2
import Derived.BigQuiet
import Derived.Deep.RegionHeld3
set_option linter.unusedVariables false
set_option linter.unusedSectionVars false
set_option linter.unusedSimpArgs false
namespace Go.Proofs.YtmjjodficjjehaaGreatDoor
open Go Go.RowKit
section
variable [Env] [Know]
variable {P : Program} {R : Rho}
theorem Inv.drawn {s : AS} {w : World} {fl b : Nat} (h : Inv R s w fl b) (n : Nat) : Inv R s { w with drawn := n } fl b := h.same rfl
theorem Went.drawn {R' : Rho} {s s' : AS} {w w' : World} {fl b n : Nat} (h : Went R R' s s' { w with drawn := n } w' fl b) : Went R R' s s' w w' fl b :=
  ⟨h.ext, h.old, h.num, h.keep, h.inv, ⟨h.below.os, h.below.tape, h.below.output, h.below.size, h.below.block⟩, h.fresh, h.more, h.wrote, h.other⟩
theorem evalRegion_ok (hK : KnowOk P) {call : CallE} (hcall : CallOk P call) (hm : P.follows .mixedOrders = true) {floor base : Nat} {id : Nat} {ops : Array Oper} {draw : Bool} {f f' : Fr} {s s' : AS} (h : evalRegion P call floor ops draw f s = some (f', s'))
    {w : World} {a : Act} (hI : Inv R s w floor base) (hf : FRel R f a.tmps) {Q : Exit → Act → World → Prop} (hQ : ∀ R' a' w', Went R R' s s' w w' floor base → FRel R' f' a'.tmps → a'.defers = a.defers → Q .normal a' w') :
    (Code.region id ops draw).wp P Q a w := by
  unfold evalRegion at h
  split at h
  · exact wp_region_list (evalSeq_ok hK hcall ops.toList h hI hf hQ)
  · split at h
    · rename_i fs pl hpl
      split at h
      · rename_i hz
        split at h
        · rename_i f1 s1 tf he
          injection h with h
          injection h with h1 h2
          subst h1 h2
          obtain ⟨hns, hp, hfs⟩ := plan_ok hpl
          have hfl : FloOk P ops (fun i => fs.testBit i) := by
            rcases hfs with rfl | rfl
            · intro i hi; simp at hi
            · rw [Bool.or_eq_true] at hz
              rcases hz with hz | hz
              · rw [Nat.eq_of_beq_eq_true hz]; intro i hi; simp at hi
              · exact flo_ok hz
          let Q0 : Exit → Act → World → Prop := fun e a' w' => e = .normal ∧ Q .normal a' w'
          refine wp_mono (Q := Q0) ?_ (fun e a' w' hq => by obtain ⟨rfl, hq⟩ := hq; exact hq)
          refine wp_region_any hm (wpAny_of_U (S := Stands R s { w with drawn := w.drawn + 1 } tf) _ ?_)
          have hI1 := hI.drawn (w.drawn + 1)
          have hdown : Down ops (Array.replicate ops.size false) := fun j o ho hj => by
            have hjs : j < ops.size := (Array.getElem?_eq_some_iff.1 ho).1
            simp [hjs] at hj
          exact evalPlan_ok (Q := Q0) hK hcall hns (fun c a w h => by cases h.1) hfl hI1 (a0 := a) (fun R' a' w' hg hf2 hd => ⟨rfl, hQ R' a' w' hg.drawn hf2 hd⟩) _ pl (T := []) (Nat.le_refl _) hp he
            hdown (by show (Array.replicate ops.size false).toList.count false ≤ ops.size; rw [Array.toList_replicate, List.count_replicate]; simp) (fun t ht => by cases ht) .nil (Went.refl hI1) hf rfl (fun _ _ _ _ => rfl) (fun _ _ _ _ _ _ _ => rfl) (fun p hp => by cases hp)
        · cases h
      · cases h
    · cases h
def AX.out : AX → Exit
  | .normal => .normal
  | .exit id => .exit id
  | .goto l => .goto l
  | .ret => .ret
def FinE (R : Rho) (s : AS) (w : World) (a : Act) (floor base : Nat) (x : AX) (f' : Fr) (s' : AS) (e : Exit) (a' : Act) (w' : World) : Prop :=
  e = x.out ∧ ∃ R', Went R R' s s' w w' floor base ∧ FRel R' f' a'.tmps ∧ a'.defers = a.defers
def CodeOk (P : Program) (code : CodeE) : Prop := ∀ {floor : Nat} {c : Code} {f : Fr} {s : AS} {x : AX} {f' : Fr} {s' : AS}, code floor c f s = some (x, f', s') →
  ∀ {R : Rho} {w : World} {base : Nat} {a : Act}, Inv R s w floor base → FRel R f a.tmps → c.wp P (FinE R s w a floor base x f' s') a w
def LoopOk (P : Program) (code : CodeE) : Prop := ∀ {floor : Nat} {c : Code} {f : Fr} {s : AS} {x : AX} {f' : Fr} {s' : AS}, code floor c f s = some (x, f', s') →
  ∀ {R : Rho} {w : World} {base : Nat} {a : Act}, Inv R s w floor base → FRel R f a.tmps → ∀ (b : Frame) (k : List Item) (cs : List Frame),
    ∃ e a' w', FinE R s w a floor base x f' s' e a' w' ∧ Arrives P (lone (b.at a (.code c :: .inLoop c :: k)) cs w) b k cs e a' w'
def ScopeOk (P : Program) (code : Nat → Code → Code → Fr → AS → Option (AX × Fr × AS)) : Prop := ∀ {floor : Nat} {c cur : Code} {f : Fr} {s : AS} {x : AX} {f' : Fr} {s' : AS}, code floor c cur f s = some (x, f', s') →
  ∀ {R : Rho} {w : World} {base : Nat} {a : Act}, Inv R s w floor base → FRel R f a.tmps → ∀ (b : Frame) (k : List Item) (cs : List Frame),
    ∃ e a' w', FinE R s w a floor base x f' s' e a' w' ∧ Arrives P (lone (b.at a (.code cur :: .inScope c :: k)) cs w) b k cs e a' w'
structure EvOk (P : Program) (E : Ev) : Prop where
  code : CodeOk P E.code
  loop : LoopOk P E.loop
  scope : ScopeOk P E.scope
  call : CallOk P E.call
theorem FinE.trans {R R1 : Rho} {s s1 s2 : AS} {w w1 : World} {a a1 : Act} {fl b : Nat} {x : AX} {f2 : Fr} {e : Exit} {a' : Act} {w' : World} (h : Went R R1 s s1 w w1 fl b) (hd : a1.defers = a.defers) (h2 : FinE R1 s1 w1 a1 fl b x f2 s2 e a' w') :
    FinE R s w a fl b x f2 s2 e a' w' :=
  let ⟨he, R', hg, hf, hd2⟩ := h2
  ⟨he, R', h.trans hg, hf, hd2.trans hd⟩
theorem codeStep_ok (hK : KnowOk P) {E : Ev} (hE : EvOk P E) (hm : P.follows .mixedOrders = true) : CodeOk P (codeStep P E) := by
  intro floor c f s x f' s' h R w base a hI hf
  unfold codeStep at h
  split at h
  · injection h with h; injection h with h1 h; injection h with h2 h3; subst h1 h2 h3
    exact wp_skip ⟨rfl, R, Went.refl hI, hf, rfl⟩
  · injection h with h; injection h with h1 h; injection h with h2 h3; subst h1 h2 h3
    exact wp_label ⟨rfl, R, Went.refl hI, hf, rfl⟩
  · rename_i id ops draw
    unfold codeRegion at h
    split at h
    · rename_i f1 s1 he
      rw [forceF_eq] at h
      injection h with h; injection h with h1 h; injection h with h2 h3; subst h1 h2 h3
      exact evalRegion_ok hK hE.call hm he hI hf fun R' a' w' hg hf2 hd => ⟨rfl, R', hg, hf2, hd⟩
    · cases h
  · rename_i p q
    unfold codeSeq at h
    refine wp_seq ?_
    cases he : E.code floor p f s with
    | none => rw [he] at h; cases h
    | some r =>
      obtain ⟨x1, f1, s1⟩ := r
      rw [he] at h
      refine wp_mono (hE.code he hI hf) fun e a1 w1 hq => ?_
      obtain ⟨hx, R1, hg, hf1, hd⟩ := hq
      subst hx
      cases x1 with
      | normal => exact wp_mono (hE.code h hg.inv hf1) fun e a2 w2 hq2 => FinE.trans hg hd hq2
      | exit id => injection h with h; injection h with h1 h; injection h with h2 h3; subst h1 h2 h3; exact ⟨rfl, R1, hg, hf1, hd⟩
      | goto l => injection h with h; injection h with h1 h; injection h with h2 h3; subst h1 h2 h3; exact ⟨rfl, R1, hg, hf1, hd⟩
      | ret => injection h with h; injection h with h1 h; injection h with h2 h3; subst h1 h2 h3; exact ⟨rfl, R1, hg, hf1, hd⟩
  · rename_i o p q
    unfold codeCond at h
    have hr := opnd_ok hf o
    split at h
    · rename_i e; rw [e] at hr; exact wp_cond_true (lit_inv hr) (hE.code h hI hf)
    · rename_i e; rw [e] at hr; exact wp_cond_false (lit_inv hr) (hE.code h hI hf)
    · cases h
  · rename_i id p
    unfold codeBlock at h
    refine wp_block ?_
    cases he : E.code floor p f s with
    | none => rw [he] at h; cases h
    | some r =>
      obtain ⟨x1, f1, s1⟩ := r
      rw [he] at h
      refine wp_mono (hE.code he hI hf) fun e a1 w1 hq => ?_
      obtain ⟨hx, R1, hg, hf1, hd⟩ := hq
      subst hx
      cases x1 with
      | exit j =>
        simp only at h
        show (if j = id then _ else _)
        split at h
        · rename_i hb
          have hb := Nat.eq_of_beq_eq_true hb
          rw [if_pos hb]
          injection h with h; injection h with h1 h; injection h with h2 h3; subst h1 h2 h3
          exact ⟨rfl, R1, hg, hf1, hd⟩
        · rename_i hb
          have hb := Nat.ne_of_beq_eq_false hb
          rw [if_neg hb]
          injection h with h; injection h with h1 h; injection h with h2 h3; subst h1 h2 h3
          exact ⟨rfl, R1, hg, hf1, hd⟩
      | normal => injection h with h; injection h with h1 h; injection h with h2 h3; subst h1 h2 h3; exact ⟨rfl, R1, hg, hf1, hd⟩
      | goto l => injection h with h; injection h with h1 h; injection h with h2 h3; subst h1 h2 h3; exact ⟨rfl, R1, hg, hf1, hd⟩
      | ret => injection h with h; injection h with h1 h; injection h with h2 h3; subst h1 h2 h3; exact ⟨rfl, R1, hg, hf1, hd⟩
  · rename_i p
    intro b k cs
    obtain ⟨e, a', w', hq, harr⟩ := hE.loop h hI hf b k cs
    exact ⟨e, a', w', hq, .of_steps (.one step_loop) harr⟩
  · rename_i p
    intro b k cs
    obtain ⟨e, a', w', hq, harr⟩ := hE.scope h hI hf b k cs
    exact ⟨e, a', w', hq, .of_steps (.one step_scope) harr⟩
  · injection h with h; injection h with h1 h; injection h with h2 h3; subst h1 h2 h3
    exact wp_exit ⟨rfl, R, Went.refl hI, hf, rfl⟩
  · injection h with h; injection h with h1 h; injection h with h2 h3; subst h1 h2 h3
    exact wp_goto ⟨rfl, R, Went.refl hI, hf, rfl⟩
  · injection h with h; injection h with h1 h; injection h with h2 h3; subst h1 h2 h3
    exact wp_ret ⟨rfl, R, Went.refl hI, hf, rfl⟩
  · cases h
theorem loopStep_ok {E : Ev} (hE : EvOk P E) : LoopOk P (loopStep E) := by
  intro floor c f s x f' s' h R w base a hI hf b k cs
  unfold loopStep at h
  cases he : E.code floor c f s with
  | none => rw [he] at h; cases h
  | some r =>
    obtain ⟨x1, f1, s1⟩ := r
    rw [he] at h
    obtain ⟨e, a1, w1, hq, harr⟩ := hE.code he hI hf b (.inLoop c :: k) cs
    obtain ⟨hx, R1, hg, hf1, hd⟩ := hq
    subst hx
    cases x1 with
    | normal =>
      obtain ⟨e2, a2, w2, hq2, harr2⟩ := hE.loop h hg.inv hf1 b k cs
      exact ⟨e2, a2, w2, FinE.trans hg hd hq2, .of_steps (Steps.trans harr (.one step_inLoop)) harr2⟩
    | exit id =>
      injection h with h; injection h with h1 h; injection h with h2 h3; subst h1 h2 h3
      exact ⟨_, a1, w1, ⟨rfl, R1, hg, hf1, hd⟩, .pass (x := .inLoop c) rfl (fun _ _ => .inl (by simp [AX.out])) harr⟩
    | goto l =>
      injection h with h; injection h with h1 h; injection h with h2 h3; subst h1 h2 h3
      exact ⟨_, a1, w1, ⟨rfl, R1, hg, hf1, hd⟩, .pass (x := .inLoop c) rfl (fun _ _ => .inl (by simp [AX.out])) harr⟩
    | ret =>
      injection h with h; injection h with h1 h; injection h with h2 h3; subst h1 h2 h3
      exact ⟨_, a1, w1, ⟨rfl, R1, hg, hf1, hd⟩, .pass (x := .inLoop c) rfl (fun _ _ => .inl (by simp [AX.out])) harr⟩
theorem scopeStep_ok {E : Ev} (hE : EvOk P E) : ScopeOk P (scopeStep E) := by
  intro floor c cur f s x f' s' h R w base a hI hf b k cs
  unfold scopeStep at h
  cases he : E.code floor cur f s with
  | none => rw [he] at h; cases h
  | some r =>
    obtain ⟨x1, f1, s1⟩ := r
    rw [he] at h
    obtain ⟨e, a1, w1, hq, harr⟩ := hE.code he hI hf b (.inScope c :: k) cs
    obtain ⟨hx, R1, hg, hf1, hd⟩ := hq
    subst hx
    cases x1 with
    | normal =>
      injection h with h; injection h with h1 h; injection h with h2 h3; subst h1 h2 h3
      exact ⟨_, a1, w1, ⟨rfl, R1, hg, hf1, hd⟩, Steps.trans harr (.one step_inScope)⟩
    | exit id =>
      injection h with h; injection h with h1 h; injection h with h2 h3; subst h1 h2 h3
      exact ⟨_, a1, w1, ⟨rfl, R1, hg, hf1, hd⟩, fun k' hk => harr k' (by simp [exitTo, hk])⟩
    | goto l =>
      simp only at h
      cases hl : findLabel c l with
      | some rest =>
        rw [hl] at h
        have hgo : gotoIn l (.inScope c :: k) = some (.code rest :: .inScope c :: k) := by simp [gotoIn, hl]
        obtain ⟨e2, a2, w2, hq2, harr2⟩ := hE.scope h hg.inv hf1 b k cs
        exact ⟨e2, a2, w2, FinE.trans hg hd hq2, .of_steps (harr _ hgo) harr2⟩
      | none =>
        rw [hl] at h
        injection h with h; injection h with h1 h; injection h with h2 h3; subst h1 h2 h3
        exact ⟨_, a1, w1, ⟨rfl, R1, hg, hf1, hd⟩, fun k' hk => harr k' (by simp [gotoIn, hl, hk])⟩
    | ret =>
      injection h with h; injection h with h1 h; injection h with h2 h3; subst h1 h2 h3
      exact ⟨_, a1, w1, ⟨rfl, R1, hg, hf1, hd⟩, harr⟩
def resF (tmps : Array Value) : ResultVar → Sem Value
  | .tmp t => pure (tmps.getD t undef)
  | .cell a t => do loadVar t (← asAddr (tmps.getD a undef))
theorem results_eq (fn : Func) (tmps : Array Value) : results fn tmps = (do let vs ← fn.results.mapM (resF tmps); pure (if h : vs.size = 1 then vs[0] else .tuple vs)) := by
  have : (fun (r : ResultVar) => (match r with
      | .tmp t => pure (tmps.getD t undef)
      | .cell a t => do loadVar t (← asAddr (tmps.getD a undef)) : Sem Value)) = resF tmps := funext fun r => by cases r <;> rfl
  unfold results
  rw [← this]
  rfl
theorem resA_ok {s : AS} {w : World} {fl b : Nat} (hI : Inv R s w fl b) {f : Fr} {tmps : Array Value} (hf : FRel R f tmps) : ∀ {l : List ResultVar} {vs : List AV}, resA P f s l = some vs →
    ∃ xs, VRels R vs xs ∧ (l.mapM (resF tmps)).run P w = .ok xs w
  | [], vs, h => by
    simp only [resA] at h
    injection h with h; subst h
    exact ⟨[], VRels.nil, rfl⟩
  | .tmp t :: r, vs, h => by
    simp only [resA] at h
    split at h
    · rename_i l' hl
      injection h with h; subst h
      obtain ⟨xs, h1, h2⟩ := resA_ok hI hf hl
      have := opnd_ok (a := ⟨tmps, []⟩) hf (.tmp t)
      exact ⟨_, VRels.cons this h1, by rw [List.mapM_cons]; simp only [resF, Sem.run_bind, Sem.run_pure, Result.andThen_ok, h2]; rfl⟩
    · cases h
  | .cell p t :: r, vs, h => by
    simp only [resA] at h
    split at h
    · rename_i k off e1
      split at h
      · rename_i B hB
        split at h
        · rename_i v l' hv hl
          injection h with h; subst h
          obtain ⟨xs, h1, h2⟩ := resA_ok hI hf hl
          have hp := opnd_ok (a := ⟨tmps, []⟩) hf (.tmp p)
          have e1' : opnd f (.tmp p) = .ptr k off := e1
          rw [e1'] at hp
          obtain ⟨b, T, r3, r4⟩ := ptr_inv hp
          have r4' : tmps.getD p undef = .pointer (some ⟨b, off, none⟩) := r4
          obtain ⟨b', T', r5, r6⟩ := hI.rel.blk hB
          obtain ⟨rfl, rfl⟩ := hI.rel.fn r3 r5
          obtain ⟨y, hy, hrun⟩ := load_ok (P := P) hv r6
          have hrun := hrun w rfl
          have : (loadVar t ⟨b, off, none⟩).run P w = .ok y w := by simpa [Instr.loadAt, Instr.sureAddr] using hrun
          refine ⟨_, VRels.cons hy h1, ?_⟩
          have hr1 : (resF tmps (.cell p t)).run P w = .ok y w := by
            simp only [resF, r4', asAddr, Sem.run_bind, Sem.run_pure, Result.andThen_ok, this]
          rw [List.mapM_cons]
          simp only [Sem.run_bind, Sem.run_pure, Result.andThen_ok, hr1, h2]
        · cases h
      · cases h
    · cases h
theorem look_dropNew_lt {j n : Nat} (hj : j < n) : ∀ {h : List (Nat × List AV)}, look j (dropNew n h) = look j h
  | [] => rfl
  | p :: h => by
    rw [dropNew_cons]
    split
    · rw [look_cons, if_neg (by omega), look_dropNew_lt hj]
    · rw [look_cons, look_cons, look_dropNew_lt hj]
theorem Went.end_ {R' : Rho} {s s' : AS} {w w' : World} {fl b : Nat} (hI : Inv R s w fl b) (h : Went R R' ⟨s.n, s.h, [], s.gl⟩ s' w w' fl b) : Went R R' s ⟨s'.n, s'.h, unionW (oldW s.n s'.wr) s.wr, s'.gl⟩ w w' fl b :=
  ⟨h.ext, h.old, h.num, h.keep, h.inv.wr_ _, h.below, h.fresh, fun _ hk => unionW_iff.2 (.inr hk), fun hk r hn => h.wrote hk r (fun hc => hn (unionW_iff.2 (.inl (oldW_iff.2 ⟨hc, (hI.rel.dom r).1⟩)))), h.other⟩
theorem Went.drop {R' : Rho} {s s' : AS} {w w' : World} {fl b : Nat} (hI : Inv R s w fl b) (h : Went R R' ⟨s.n, s.h, [], s.gl⟩ s' w w' fl b) : Went R R' s ⟨s'.n, dropNew s.n s'.h, unionW (oldW s.n s'.wr) s.wr, s'.gl⟩ w w' fl b :=
  have h' := h.end_ hI
  ⟨h'.ext, h'.old, h'.num, fun k hk => (look_dropNew_lt (by have := hI.hf; omega)).trans (h'.keep k hk),
    ⟨⟨h'.inv.rel.fn, h'.inv.rel.dom, fun h1 h2 r1 r2 => h'.inv.rel.inj (look_dropNew_some h1) (look_dropNew_some h2) r1 r2, fun h1 => h'.inv.rel.blk (look_dropNew_some h1)⟩, h'.inv.hb, h'.inv.hf, h'.inv.own, h'.inv.glo, h'.inv.kgl⟩, h'.below, h'.fresh, h'.more,
    fun hk r hn => let ⟨c1, c2⟩ := h'.wrote hk r hn; ⟨c1, (look_dropNew_lt (hI.rel.dom r).1).trans c2⟩, h'.other⟩
theorem callStep_ok {E : Ev} (hE : EvOk P E) : CallOk P (callStep P E) := by
  intro floor g l s v s' h R w base xs hI hl
  unfold callStep at h
  split at h
  · rename_i fn hfn
    split at h
    · rename_i c hc
      have hlen := hl.length
      have hf0 : FRel R (frame fn.ntmps l) (xs.toArray ++ Array.replicate (fn.ntmps - xs.toArray.size) undef) := frame_ok hl
      have body : ∀ {x : AX} {f1 : Fr} {s1 : AS}, E.code floor c (frame fn.ntmps l) ⟨s.n, s.h, [], s.gl⟩ = some (x, f1, s1) → (x = .normal ∨ x = .ret) →
          ∀ {vs : List AV}, resA P f1 s1 fn.results.toList = some vs → ∀ {s2 : AS} {u : AV}, (∀ {R' : Rho} {w' : World}, Went R R' ⟨s.n, s.h, [], s.gl⟩ s1 w w' floor base → Went R R' s s2 w w' floor base) →
          (∀ {R' : Rho} {ys : List Value}, VRels R' vs ys → VRel R' u (if h : ys.toArray.size = 1 then ys.toArray[0] else .tuple ys.toArray)) →
          Calls P g xs.toArray w fun e w' => ∃ R' x, e = .returned x ∧ VRel R' u x ∧ Went R R' s s2 w w' floor base := by
        intro x f1 s1 he hx vs hvs s2 u hs hu
        refine calls_of_wp hfn hc ?_
        refine wp_mono (hE.code he (hI.wr_ []) (a := { tmps := xs.toArray ++ Array.replicate (fn.ntmps - xs.toArray.size) undef, defers := [] }) hf0) fun e a1 w1 hq => ?_
        obtain ⟨hx', R1, hg, hf1, hd⟩ := hq
        obtain ⟨ys, h1, h2⟩ := resA_ok (P := P) hg.inv hf1 hvs
        have hres : (results fn a1.tmps).run P w1 = .ok (if h : ys.toArray.size = 1 then ys.toArray[0] else .tuple ys.toArray) w1 := by
          rw [results_eq, Array.mapM_eq_mapM_toList]
          simp only [Sem.run_bind, Sem.run_map, h2, Result.andThen_ok, Sem.run_pure]
        have fin : a1.defers = [] ∧ ∃ v, (results fn a1.tmps).run P w1 = .ok v w1 ∧ ∃ R' x, Ending.returned v = .returned x ∧ VRel R' u x ∧ Went R R' s s2 w w1 floor base :=
          ⟨hd, _, hres, R1, _, rfl, hu h1, hs hg⟩
        rcases hx with rfl | rfl
        · subst hx'; exact fin
        · subst hx'; exact fin
      have main : ∀ {x : AX} {f1 : Fr} {s1 : AS}, E.code floor c (frame fn.ntmps l) ⟨s.n, s.h, [], s.gl⟩ = some (x, f1, s1) → (x = .normal ∨ x = .ret) →
          (match resA P f1 s1 fn.results.toList with
            | some [v] => match isLit v && allL isLit l with
              | true => some (v, (⟨s1.n, dropNew s.n s1.h, unionW (oldW s.n s1.wr) s.wr, s1.gl⟩ : AS))
              | false => some (v, (⟨s1.n, s1.h, unionW (oldW s.n s1.wr) s.wr, s1.gl⟩ : AS))
            | some vs => match isLit (mkTup vs) && allL isLit l with
              | true => some (mkTup vs, (⟨s1.n, dropNew s.n s1.h, unionW (oldW s.n s1.wr) s.wr, s1.gl⟩ : AS))
              | false => some (mkTup vs, (⟨s1.n, s1.h, unionW (oldW s.n s1.wr) s.wr, s1.gl⟩ : AS))
            | none => none) = some (v, s') → Calls P g xs.toArray w fun e w' => ∃ R' x, e = .returned x ∧ VRel R' v x ∧ Went R R' s s' w w' floor base := by
        intro x f1 s1 he hx h
        split at h
        · rename_i u hvs
          have hu : ∀ {R' : Rho} {ys : List Value}, VRels R' [u] ys → VRel R' u (if h : ys.toArray.size = 1 then ys.toArray[0] else .tuple ys.toArray) := by
            intro R' ys hy
            simp only [VRels] at hy
            obtain ⟨y, ys', rfl, h1, rfl⟩ := hy
            simpa using h1
          split at h
          · injection h with h; injection h with h1 h2; subst h1 h2
            exact body he hx hvs (fun hg => hg.drop hI) hu
          · injection h with h; injection h with h1 h2; subst h1 h2
            exact body he hx hvs (fun hg => hg.end_ hI) hu
        · rename_i vs hne hvs
          have hu : ∀ {R' : Rho} {ys : List Value}, VRels R' vs ys → VRel R' (mkTup vs) (if h : ys.toArray.size = 1 then ys.toArray[0] else .tuple ys.toArray) := by
            intro R' ys hy
            have hl := hy.length
            rw [dif_neg]
            · exact VRel.mkTup hy
            · intro h1
              have h1 : vs.length = 1 := by simp at h1; omega
              obtain ⟨u, rfl⟩ := List.length_eq_one_iff.1 h1
              exact hne u rfl
          split at h
          · injection h with h; injection h with h1 h2; subst h1 h2
            exact body he hx hvs (fun hg => hg.drop hI) hu
          · injection h with h; injection h with h1 h2; subst h1 h2
            exact body he hx hvs (fun hg => hg.end_ hI) hu
        · cases h
      split at h
      · rename_i f1 s1 he; exact main he (.inl rfl) h
      · rename_i f1 s1 he; exact main he (.inr rfl) h
      · cases h
    · cases h
  · cases h
theorem Went.far {s : AS} {w w' : World} {fl b : Nat} (hI : Inv R s w fl b) (hb : Below w.heap.size w w') : Went R R s s w w' fl b :=
  ⟨Ext.refl _, fun r _ => r, Nat.le_refl _, fun _ _ => rfl, ⟨hI.rel.below hb, Nat.le_trans hI.hb hb.size, hI.hf, hI.own, fun hg => hI.glo_below hg (hb.mono hI.hb), hI.kgl⟩, hb.mono hI.hb, fun r => .inl ⟨_, _, r⟩, fun _ h => h,
    fun _ r _ => ⟨hb.block _ (hI.rel.dom r).2, rfl⟩, fun k hk _ => hb.block k hk⟩
theorem knowCall_ok (hK : KnowOk P) {call : CallE} (hcall : CallOk P call) : CallOk P (knowCall call) := by
  intro floor g l s v s' h R w base xs hI hl
  unfold knowCall at h
  split at h
  · rename_i r hr
    injection h with h
    injection h with h1 h2
    subst h1 h2
    obtain ⟨h3, h4⟩ := findC_ok hr
    obtain ⟨h5, h6⟩ := hK.call _ _ _ h3
    rw [mapL_eq] at h3 h4
    rw [mapL_eq] at h6
    exact (h6 w xs hI.globs (flats_ok hI h4 hl)).mono fun e w' ⟨he, hb⟩ => ⟨R, gval r, he, ground_ok h5, Went.far hI hb⟩
  · exact hcall h hI hl
theorem ev_ok (hK : KnowOk P) (hm : P.follows .mixedOrders = true) : ∀ n, EvOk P (ev P n)
  | 0 => ⟨fun h => (by cases h), fun h => (by cases h), fun h => (by cases h), fun h => (by cases h)⟩
  | n + 1 =>
    have hE := ev_ok hK hm n
    ⟨codeStep_ok hK hE hm, loopStep_ok hE, scopeStep_ok hE, knowCall_ok hK (callStep_ok hE)⟩
theorem inv0 {w : World} (hg : Globs Env.gl w) : Inv (fun _ _ _ => False) ⟨0, [], [], Env.gl⟩ w 0 w.heap.size :=
  ⟨⟨fun h => h.elim, fun h => h.elim, (fun h => by cases h), (fun h => by cases h)⟩, Nat.le_refl _, Nat.le_refl _, fun h => h.elim, fun h => hg _ _ h, rfl⟩
theorem sym_ok (hK : KnowOk P) (hm : P.follows .mixedOrders = true) {n : Nat} {g : FuncId} {l : List AV} {v : AV} (h : comes P Env.gl n g l = some v) (hl : l.all ground = true) (hv : ground v = true) {w : World} (hg : Globs Env.gl w) :
    Calls P g (l.map gval).toArray w fun e w' => e = .returned (gval v) ∧ Below w.heap.size w w' := by
  unfold comes at h
  split at h
  · rename_i u s he
    injection h with h
    subst h
    exact ((ev_ok hK hm n).call he (inv0 hg) (grounds_ok hl)).mono fun e w' ⟨R', x, he, hx, hg⟩ => ⟨by rw [he, VRel.uniq hv hx], hg.below⟩
  · cases h
theorem lit_ok (hK : KnowOk P) (hm : P.follows .mixedOrders = true) {n : Nat} {g : FuncId} {l : List Value} {v : Value} {s : AS} (h : (ev P n).call 0 g (l.map .lit) ⟨0, [], [], Env.gl⟩ = some (.lit v, s)) {w : World} (hg : Globs Env.gl w) :
    Calls P g l.toArray w fun e w' => e = .returned v ∧ Below w.heap.size w w' :=
  ((ev_ok hK hm n).call h (inv0 hg) (VRels.lits_ l)).mono fun e w' ⟨R', x, he, hx, hg⟩ => ⟨by rw [he, lit_inv hx], hg.below⟩
end
section
variable {P : Program}
theorem Globs.nil (w : World) : Globs [] w := fun _ _ h => by cases h
@[reducible] noncomputable def noEnv (gl : List (Nat × List AV)) : Env := ⟨fun _ => .int .i64 0, fun _ => rfl, gl⟩
theorem noKnow_ok (gl : List (Nat × List AV)) : @KnowOk (noEnv gl) noKnow P := @KnowOk.mk (noEnv gl) noKnow P (fun _ _ _ h => by cases h) (fun _ _ _ h => by cases h)
theorem closed_ok (hm : P.follows .mixedOrders = true) {n : Nat} {g : FuncId} {l : List Value} {v : Value} {s : AS} {gl : List (Nat × List AV)} (h : (@ev noKnow P n).call 0 g (mapL .lit l) ⟨0, [], [], gl⟩ = some (.lit v, s)) {w : World} (hg : Globs gl w) :
    Calls P g l.toArray w fun e w' => e = .returned v ∧ Below w.heap.size w w' := by
  rw [mapL_eq] at h
  exact @lit_ok (noEnv gl) noKnow P (noKnow_ok gl) hm n g l v s h w hg
theorem closed_with (hm : P.follows .mixedOrders = true) {gl : List (Nat × List AV)} {n : Nat} {g : FuncId} {l : List Value} {b : Bool} (h : saysG P gl n g l b = true) {w : World} (hg : Globs gl w) :
    Calls P g l.toArray w fun e w' => e = .returned (.bool b) ∧ Below w.heap.size w w' := by
  unfold saysG at h
  split at h
  · rename_i c s he
    have e : c = b := by simpa using h
    subst e
    exact closed_ok hm he hg
  · cases h
end
end Go.Proofs.YtmjjodficjjehaaGreatDoor
namespace Go.Proofs.YtmjjodficjjehaaGreatDoor
open Go Go.RowKit
theorem size_of_cell {w : World} {b o : Nat} {v : Value} (h : w.cell? ⟨b, o, none⟩ = some v) : b < w.heap.size := by
  unfold World.cell? at h
  cases hb : w.heap[b]? with
  | none => simp [hb] at h
  | some x => exact (Array.getElem?_eq_some_iff.1 hb).1
theorem gDe : Tryz.prog.globalNamed "math/bits.deBruijn64tab" = some 1 := by kernel_rfl
theorem gDeType : (Tryz.prog.globals[1]?).map (·.type) = some 194 := by kernel_rfl
theorem cDe : Tryz.prog.cellsOf 194 = 64 := by kernel_rfl
theorem cU8 : Tryz.prog.cellsOf 5 = 1 := by kernel_rfl
def glT : List (Nat × List AV) := [(1, Lib.deBruijn64tab.map fun (x : Nat) => AV.lit (.int .u8 (x : Nat)))]
theorem globs_of {W : World} {laid : List (String × DataW Unit)} (hl : laid.filter (fun x => x.1 == "math/bits.deBruijn64tab") = [("math/bits.deBruijn64tab", Rows.laid_math_bits_deBruijn64tab)]) (hL : laidMetH Tryz.prog laid W) : Globs glT W := by
  have h := hL.filter (fun x => x.1 == "math/bits.deBruijn64tab")
  rw [hl] at h
  have h1 : Lib.TabIs Tryz.prog W "math/bits.deBruijn64tab" .u8 (Lib.deBruijn64tab.map Int.ofNat) := Lib.tabIs_of_head (rest := []) gDe gDeType Tryz.underlying194 Tryz.underlying5 cU8 cDe h
  have hlen : Lib.deBruijn64tab.length = 64 := by decide
  have c1 : ∀ j, j < 64 → W.cell? ⟨1, j, none⟩ = some (.int .u8 ((Lib.deBruijn64tab.getD j 0 : Nat) : Int)) := fun j hj => by
    have := h1.cell gDe j (by rw [List.length_map, hlen]; exact hj)
    rw [this]; simp [List.getD]
    cases Lib.deBruijn64tab[j]? <;> rfl
  intro g B hB
  unfold glT at hB
  rw [look_cons] at hB
  split at hB
  · rename_i e
    injection hB with hB
    have e : 1 = g := e
    subst e hB
    refine ⟨size_of_cell (c1 0 (by decide)), fun i v hv => ?_⟩
    have hi : i < 64 := by
      have := (List.getElem?_eq_some_iff.1 hv).1
      rw [List.length_map, hlen] at this; exact this
    rw [List.getElem?_map] at hv
    cases hx : Lib.deBruijn64tab[i]? with
    | none => rw [hx] at hv; cases hv
    | some x =>
      rw [hx] at hv
      injection hv with hv
      refine ⟨_, hv.symm, ?_⟩
      rw [c1 i hi]
      simp [List.getD, hx]
  · cases hB
end Go.Proofs.YtmjjodficjjehaaGreatDoor
namespace Go.Proofs.YtmjjodficjjehaaGreatDoor
open Go Go.RowKit
theorem Globs.below {gl : List (Nat × List AV)} {w w' : World} (h : Globs gl w) {n : Nat} (hb : Below n w w') (hn : w.heap.size ≤ n) : Globs gl w' := fun g B hB => by
  obtain ⟨h1, h2⟩ := h g B hB
  refine ⟨Nat.lt_of_lt_of_le h1 hb.size, fun i v hv => ?_⟩
  obtain ⟨u, e, c⟩ := h2 i v hv
  exact ⟨u, e, (hb.cell (p := ⟨g, i, none⟩) (by show g < n; omega)).trans c⟩
end Go.Proofs.YtmjjodficjjehaaGreatDoor
namespace Go.Proofs.YtmjjodficjjehaaGreatDoor
open Go Go.RowKit Nt
theorem tabs_of {w : World} (h : Globs glT w) : Bt.Tabs w := by
  have hlk : look 1 glT = some (Lib.deBruijn64tab.map fun (x : Nat) => AV.lit (.int .u8 (x : Nat))) := by
    unfold glT; rw [look_cons, if_pos rfl]
  obtain ⟨h1, h2⟩ := h _ _ hlk
  refine ⟨fun j hj => ?_, h1⟩
  obtain ⟨u, e, c⟩ := h2 j (AV.lit (.int .u8 ((Lib.deBruijn64tab[j]'hj : Nat) : Int))) (by rw [List.getElem?_map, List.getElem?_eq_getElem hj]; rfl)
  injection e with e
  rw [c, ← e]
  simp [List.getD, List.getElem?_eq_getElem hj]
theorem pm_small (x : Nat) : Bt.pm x < 18446744073709551616 := Nat.lt_trans (Bt.pm_lt x) (by decide)
theorem tz_low {m : Nat} (h0 : 0 < m) (hm : m < 18446744073709551616) : lowN m = Bt.tz m ∧ odN m = Bt.od m := by
  obtain ⟨h1, h2, _⟩ := Bt.tz_spec h0 hm
  exact od_unique h2 h1.symm
theorem pex_bounds {x : Nat} (hx : x < 18446744073709551616) (hf : Bt.finB x = true) : -1074 ≤ Bt.pex x ∧ Bt.pex x ≤ 971 := by
  have hr := (Bt.finB_true x).1 hf
  by_cases h : Bt.Ff.rung x < 4503599627370496
  · rw [Bt.pex_sub h]; omega
  · rw [Bt.pex_nor h]; omega
theorem float_ok {x : Nat} (hx : x < 18446744073709551616) (hf : Bt.finB x = true) : mkOk3 (Bt.pm x) (Bt.pex x) := by
  by_cases h0 : Bt.pm x = 0
  · exact Or.inl h0
  · have h1 := (Bt.tz_spec (by omega) (pm_small x)).2.2
    have h2 := (tz_low (by omega) (pm_small x)).1
    have h3 := pex_bounds hx hf
    refine Or.inr ⟨?_, by omega, by omega⟩
    exact fits_le (abs_fits (pm_small x)) (odN_le _)
theorem rung_pm {x : Nat} (h : Bt.Ff.rung x = 0) : Bt.pm x = 0 := by rw [Bt.pm_sub (by omega), h]
def FlPost (x : Nat) (w : World) (e : Ending) (w' : World) : Prop := e = .returned (.tuple #[(mkD (Bt.Ff.sgn x) (Bt.pm x) (Bt.pex x)).v, .int .i64 0]) ∧ Below w.heap.size w w'
theorem box_tabs {w : World} {b : Obj} (h : Bt.Tabs w) : Bt.Tabs (w.alloc b) := h.below ((Below.refl _ _).alloc (Nat.le_refl _) _)
set_option maxRecDepth 100000 in
theorem DFloat_no (x : Nat) (hx : x < 18446744073709551616) (hf : Bt.finB x = false) (w : World) :
    Calls Tryz.prog 40 #[.float .f64 x] w fun e w' => e = .returned (.tuple #[.agg #[.bool false, .string ⟨#[]⟩, .int .i64 0], .int .i64 5]) ∧ Below w.heap.size w w' := by
  have K := Lib.hid (fun w => Bt.Parts_no x hx hf w)
  go_enter Tryz.func40, Tryz.ntmps40
  go_wp2_with (go_at_call 77; refine (K.out _).mono ?_; rintro e w1 ⟨rfl, rfl⟩)
  refine bodyPost_ret (v := .tuple #[.agg #[.bool false, .string ⟨#[]⟩, .int .i64 0], .int .i64 5]) (by simp [results, Tryz.results40, go_sem]) rfl ⟨rfl, ?_⟩
  repeat (refine Below.setCell ?_ (by simp) _)
  exact (Below.refl _ _).alloc (Nat.le_refl _) _
set_option maxRecDepth 100000 in
theorem DFloat_c (x : Nat) (hx : x < 18446744073709551616) (hf : Bt.finB x = true) (w : World) (hT : Bt.Tabs w) :
    Calls Tryz.prog 40 #[.float .f64 x] w (FlPost x w) := by
  have K : Hid (∀ b, Calls Tryz.prog 77 #[.float .f64 x] (w.alloc b) fun e w' => e = .returned (.tuple #[.bool (Bt.Ff.sgn x), .int .u64 (Bt.partM x), .int .i64 (Bt.partE x), .bool true]) ∧ w.alloc b = w') := Lib.hid (fun b => Bt.Parts_yes x hx hf (w.alloc b) (box_tabs hT))
  by_cases h0 : Bt.Ff.rung x = 0
  · have hz : Bt.partM x = 0 := by unfold Bt.partM; rw [if_pos h0]
    have hd : mkD (Bt.Ff.sgn x) (Bt.pm x) (Bt.pex x) = Dy.zero := by rw [rung_pm h0, mkD_zero]
    rw [hz] at K
    unfold FlPost
    rw [hd, Dy.zero_v]
    clear hd hz h0 hf
    go_enter Tryz.func40, Tryz.ntmps40
    go_wp2_with (go_at_call 77; refine (K.out _).mono ?_; rintro e w1 ⟨rfl, rfl⟩)
    refine bodyPost_ret (v := .tuple #[.agg #[.bool false, .string ⟨#[]⟩, .int .i64 0], .int .i64 0]) (by simp [results, Tryz.results40, go_sem]) rfl ⟨rfl, ?_⟩
    repeat (refine Below.setCell ?_ (by simp) _)
    exact (Below.refl _ _).alloc (Nat.le_refl _) _
  · have hp := Bt.pm_pos h0
    have h2 := tz_low hp (pm_small x)
    have hd : mkD (Bt.Ff.sgn x) (Bt.pm x) (Bt.pex x) = ⟨Bt.Ff.sgn x, Bt.partM x, Bt.partE x⟩ := by
      rw [mkD_ok (by omega) (float_ok hx hf), h2.1, h2.2, Bt.partM_od h0, Bt.partE_eq h0]; rfl
    have hm : Bt.partM x < 18446744073709551616 := by rw [Bt.partM_od h0]; exact Nat.lt_of_le_of_lt Bt.od_le (pm_small x)
    have hz : ((Bt.partM x : Nat) : Int) ≠ 0 := by have := Bt.od_pos hp (pm_small x); rw [Bt.partM_od h0]; omega
    have hz2 : (((Bt.partM x : Nat) : Int) == 0) = false := by rw [beq_eq_false_iff_ne]; exact hz
    have KO := Lib.hid (fun w => Of_n (Bt.partM x) w hm)
    unfold FlPost
    rw [hd]
    clear hd h0 hf h2 hp hm
    generalize Bt.partM x = m at *
    generalize Bt.partE x = q at *
    generalize Bt.Ff.sgn x = g at *
    unfold Dy.v
    go_enter Tryz.func40, Tryz.ntmps40
    go_wp2_with (first
      | (go_at_call 77; refine (K.out _).mono ?_; rintro e w1 ⟨rfl, rfl⟩)
      | (go_at_call 78; refine (KO.out _).mono ?_; rintro e w1 ⟨rfl, hb⟩; obtain ⟨hcl, hfz⟩ := bcell hb; have hsz := box1 hb))
    refine bodyPost_ret (v := .tuple #[.agg #[.bool g, .string (natS m), .int .i64 q], .int .i64 0]) (by simp [results, Tryz.results40, go_sem, hcl, hsz]) rfl ⟨rfl, ?_⟩
    repeat (refine Below.setCell ?_ (by simp) _)
    exact box_below hb
end Go.Proofs.YtmjjodficjjehaaGreatDoor
namespace Go.Proofs.YtmjjodficjjehaaGreatDoor.Bt
open Go Go.RowKit Ff
@[irreducible] def mkR (q : Nat) (e : Int) : Nat := if e + Lib.bitLen q > -1022 then q * 2 ^ (53 - Lib.bitLen q) - 4503599627370496 + (e + Lib.bitLen q + 1022).toNat * 4503599627370496 else q * 2 ^ (e + 1074).toNat
def mkOk (q : Nat) (e : Int) : Prop := Lib.bitLen q ≤ 53 ∧ -1074 ≤ e ∧ e + Lib.bitLen q - 1 ≤ 1023
instance (q : Nat) (e : Int) : Decidable (mkOk q e) := by unfold mkOk; exact inferInstance
theorem Make_zero (neg : Bool) (e : Int) (w : World) :
    Calls Tryz.prog 142 #[.bool neg, .int .u64 0, .int .i64 e] w fun r w' => r = .returned (.tuple #[.float .f64 (wf neg 0), .bool true]) ∧ w = w' := by
  go_enter Tryz.func142, Tryz.ntmps142
  go_wp2_with (go_at_call 153; refine (signed_b neg 0 (by decide) _).mono ?_; rintro e w' ⟨rfl, rfl⟩)
  go_ret2
  exact ⟨rfl, rfl⟩
theorem Make_far (neg : Bool) (m : Nat) (h0 : m ≠ 0) (e : Int) (he : 1023 < e ∨ e < -1137) (w : World) :
    Calls Tryz.prog 142 #[.bool neg, .int .u64 m, .int .i64 e] w fun r w' => r = .returned (.tuple #[.float .f64 0, .bool false]) ∧ w = w' := by
  have hz : ((m : Int) == 0) = false := by rw [beq_eq_false_iff_ne]; omega
  rcases he with he | he
  · go_enter Tryz.func142, Tryz.ntmps142
    go_wp2
    go_ret2
    exact ⟨rfl, rfl⟩
  · have he2 : ¬ 1023 < e := by omega
    go_enter Tryz.func142, Tryz.ntmps142
    go_wp2
    go_ret2
    exact ⟨rfl, rfl⟩
theorem shr_tz {m : Nat} (h0 : 0 < m) (hm : m < 18446744073709551616) : (m : Int) / 2 ^ Lib.ctz 64 m = (od m : Int) := by
  unfold od tz; norm_cast
theorem mkOk_bits {q : Nat} {e : Int} (h : mkOk q e) : Lib.bitLen q ≤ 53 ∧ -1074 ≤ e ∧ e + Lib.bitLen q - 1 ≤ 1023 := h
theorem Make_bad (neg : Bool) (m : Nat) (h0 : 0 < m) (hm : m < 18446744073709551616) (e : Int) (he1 : e ≤ 1023) (he2 : -1137 ≤ e) (hk : ¬ mkOk (od m) (e + tz m)) (w : World) (ht : Tabs w) :
    Calls Tryz.prog 142 #[.bool neg, .int .u64 m, .int .i64 e] w fun r w' => r = .returned (.tuple #[.float .f64 0, .bool false]) ∧ w = w' := by
  have hz : ((m : Int) == 0) = false := by rw [beq_eq_false_iff_ne]; omega
  have g1 : ¬ 1023 < e := by omega
  have g2 : ¬ e < -1137 := by omega
  have hs := shr_tz h0 hm
  have hk' : Lib.ctz 64 m < 64 := (tz_spec h0 hm).2.2
  have hq1 : od m < 18446744073709551616 := Nat.lt_of_le_of_lt od_le hm
  have hb := bl_le hq1
  unfold mkOk tz at hk
  by_cases c1 : 53 < (Lib.bitLen (od m) : Int)
  · clear hk
    go_enter Tryz.func142, Tryz.ntmps142
    go_wp2_with (first | (go_at_call 120; refine (Tryz.bits_TrailingZeros64 _ (by omega) _ (fun _ => ht.1)).mono ?_; rintro e w' ⟨rfl, rfl⟩) | (go_at_call 129; refine (Tryz.bits_Len64 _ _ (by omega) (by omega)).mono ?_; rintro e w' ⟨rfl, rfl⟩))
    go_ret2
    exact ⟨rfl, rfl⟩
  · by_cases c2 : e + (Lib.ctz 64 m : Int) < -1074
    · clear hk
      go_enter Tryz.func142, Tryz.ntmps142
      go_wp2_with (first | (go_at_call 120; refine (Tryz.bits_TrailingZeros64 _ (by omega) _ (fun _ => ht.1)).mono ?_; rintro e w' ⟨rfl, rfl⟩) | (go_at_call 129; refine (Tryz.bits_Len64 _ _ (by omega) (by omega)).mono ?_; rintro e w' ⟨rfl, rfl⟩))
      go_ret2
      exact ⟨rfl, rfl⟩
    · have c3 : 1023 < e + (Lib.ctz 64 m : Int) + (Lib.bitLen (od m) : Int) - 1 := by omega
      clear hk
      go_enter Tryz.func142, Tryz.ntmps142
      go_wp2_with (first | (go_at_call 120; refine (Tryz.bits_TrailingZeros64 _ (by omega) _ (fun _ => ht.1)).mono ?_; rintro e w' ⟨rfl, rfl⟩) | (go_at_call 129; refine (Tryz.bits_Len64 _ _ (by omega) (by omega)).mono ?_; rintro e w' ⟨rfl, rfl⟩))
      go_ret2
      exact ⟨rfl, rfl⟩
theorem mul_lt_pow {q B k : Nat} (h : q < 2 ^ B) : q * 2 ^ k < 2 ^ (B + k) := by
  rw [Nat.pow_add]; exact Nat.mul_lt_mul_of_pos_right h (Nat.two_pow_pos k)
theorem mkR_sub {q : Nat} {e : Int} (h : ¬ e + Lib.bitLen q > -1022) : mkR q e = q * 2 ^ (e + 1074).toNat := by unfold mkR; rw [if_neg h]
theorem mkR_nor {q : Nat} {e : Int} (h : e + Lib.bitLen q > -1022) : mkR q e = q * 2 ^ (53 - Lib.bitLen q) - 4503599627370496 + (e + Lib.bitLen q + 1022).toNat * 4503599627370496 := by unfold mkR; rw [if_pos h]
theorem sub_small {q : Nat} {e : Int} (hq : q < 18446744073709551616) (h : mkOk q e) (hs : ¬ e + Lib.bitLen q > -1022) : q * 2 ^ (e + 1074).toNat < 4503599627370496 := by
  obtain ⟨h1, h2, h3⟩ := mkOk_bits h
  refine Nat.lt_of_lt_of_le (mul_lt_pow (bl_lt hq)) ?_
  have p := Nat.pow_le_pow_right (n := 2) (by decide) (show Lib.bitLen q + (e + 1074).toNat ≤ 52 by omega)
  exact p
theorem nor_small {q : Nat} {e : Int} (hq0 : 0 < q) (hq : q < 18446744073709551616) (h : mkOk q e) : 4503599627370496 ≤ q * 2 ^ (53 - Lib.bitLen q) ∧ q * 2 ^ (53 - Lib.bitLen q) < 9007199254740992 := by
  obtain ⟨h1, h2, h3⟩ := mkOk_bits h
  constructor
  · have g := bl_ge hq hq0
    have p : 2 ^ Lib.bitLen q * 2 ^ (53 - Lib.bitLen q) = 9007199254740992 := by rw [← Nat.pow_add, show Lib.bitLen q + (53 - Lib.bitLen q) = 53 by omega]
    have := Nat.mul_le_mul_right (2 ^ (53 - Lib.bitLen q)) g
    rw [p, Nat.mul_assoc] at this
    omega
  · have := mul_lt_pow (k := 53 - Lib.bitLen q) (bl_lt hq)
    rw [show Lib.bitLen q + (53 - Lib.bitLen q) = 53 by omega] at this
    exact this
theorem mkR_lt {q : Nat} {e : Int} (hq0 : 0 < q) (hq : q < 18446744073709551616) (h : mkOk q e) : mkR q e < 9218868437227405312 := by
  obtain ⟨h1, h2, h3⟩ := mkOk_bits h
  by_cases c : e + Lib.bitLen q > -1022
  · rw [mkR_nor c]
    have := (nor_small hq0 hq h).2
    omega
  · rw [mkR_sub c]
    have := sub_small hq h c
    omega
theorem cast_mul_pow (a k : Nat) : (a : Int) * 2 ^ k = ((a * 2 ^ k : Nat) : Int) := by rw [Int.natCast_mul, Int.natCast_pow]; rfl
theorem mk_sub {m : Nat} {e : Int} (hq : od m < 18446744073709551616) (h : mkOk (od m) (e + tz m)) (c : ¬ -1023 < e + (Lib.ctz 64 m : Int) + (Lib.bitLen (od m) : Int) - 1) :
    IntKind.u64.wrap ((od m : Int) * 2 ^ (e + (Lib.ctz 64 m : Int) + 1074).toNat) = (mkR (od m) (e + tz m) : Int) := by
  have c' : ¬ e + (tz m : Int) + Lib.bitLen (od m) > -1022 := by unfold tz; omega
  rw [mkR_sub c', IntKind.wrap_u64]
  have := sub_small hq h c'
  unfold tz at this ⊢
  rw [cast_mul_pow]
  omega
theorem mk_nor {m : Nat} {e : Int} (hq0 : 0 < od m) (hq : od m < 18446744073709551616) (h : mkOk (od m) (e + tz m)) (c : -1023 < e + (Lib.ctz 64 m : Int) + (Lib.bitLen (od m) : Int) - 1) :
    bits BinOp.or IntKind.u64 (bits BinOp.and IntKind.u64 (IntKind.u64.wrap ((od m : Int) * 2 ^ (53 - Lib.bitLen (od m)))) 4503599627370495)
      ((e + (Lib.ctz 64 m : Int) + (Lib.bitLen (od m) : Int) - 1 + 1023) * 4503599627370496) = (mkR (od m) (e + tz m) : Int) := by
  have c' : e + (tz m : Int) + Lib.bitLen (od m) > -1022 := by unfold tz; omega
  obtain ⟨n1, n2⟩ := nor_small hq0 hq h
  obtain ⟨h1, h2, h3⟩ := mkOk_bits h
  rw [mkR_nor c']
  have e1 : IntKind.u64.wrap ((od m : Int) * 2 ^ (53 - Lib.bitLen (od m))) = ((od m * 2 ^ (53 - Lib.bitLen (od m)) : Nat) : Int) := by
    rw [IntKind.wrap_u64, cast_mul_pow]; omega
  rw [e1]
  generalize od m * 2 ^ (53 - Lib.bitLen (od m)) = z at n1 n2
  rw [show (4503599627370495 : Int) = ((4503599627370495 : Nat) : Int) from rfl, u64_and_nat z _ (by omega) (by decide)]
  have e2 : z &&& 4503599627370495 = z - 4503599627370496 := by
    rw [show z &&& 4503599627370495 = z % 4503599627370496 from Nat.and_two_pow_sub_one_eq_mod z 52]; omega
  rw [e2]
  obtain ⟨k, hk⟩ : ∃ k : Nat, e + (Lib.ctz 64 m : Int) + (Lib.bitLen (od m) : Int) - 1 + 1023 = (k : Int) := ⟨(e + (Lib.ctz 64 m : Int) + (Lib.bitLen (od m) : Int) - 1 + 1023).toNat, by omega⟩
  have hk2 : (e + (tz m : Int) + (Lib.bitLen (od m) : Int) + 1022).toNat = k := by unfold tz; omega
  have hk3 : k ≤ 2046 := by unfold tz at h3; omega
  rw [hk2, hk, show (k : Int) * 4503599627370496 = ((k * 4503599627370496 : Nat) : Int) by omega, u64_or_nat _ _ (by omega) (by omega), Nat.or_comm]
  congr 1
  rw [nat_join 52 _ _ (by omega) (by omega), Nat.add_comm]
theorem Make_ok (neg : Bool) (m : Nat) (h0 : 0 < m) (hm : m < 18446744073709551616) (e : Int) (he1 : e ≤ 1023) (he2 : -1137 ≤ e) (hk : mkOk (od m) (e + tz m)) (w : World) (ht : Tabs w) :
    Calls Tryz.prog 142 #[.bool neg, .int .u64 m, .int .i64 e] w fun r w' => r = .returned (.tuple #[.float .f64 (wf neg (mkR (od m) (e + tz m))), .bool true]) ∧ w = w' := by
  have hz : ((m : Int) == 0) = false := by rw [beq_eq_false_iff_ne]; omega
  have g1 : ¬ 1023 < e := by omega
  have g2 : ¬ e < -1137 := by omega
  have hs := shr_tz h0 hm
  have hk' : Lib.ctz 64 m < 64 := (tz_spec h0 hm).2.2
  have hq1 : od m < 18446744073709551616 := Nat.lt_of_le_of_lt od_le hm
  have hb := bl_le hq1
  obtain ⟨k1, k2, k3⟩ := mkOk_bits hk
  unfold tz at k2 k3
  have c1 : ¬ 53 < (Lib.bitLen (od m) : Int) := by omega
  have c2 : ¬ e + (Lib.ctz 64 m : Int) < -1074 := by omega
  have c3 : ¬ 1023 < e + (Lib.ctz 64 m : Int) + (Lib.bitLen (od m) : Int) - 1 := by omega
  have hq0 := od_pos h0 hm
  have hlt := mkR_lt hq0 hq1 hk
  by_cases c4 : -1023 < e + (Lib.ctz 64 m : Int) + (Lib.bitLen (od m) : Int) - 1
  case' pos => have hr := mk_nor hq0 hq1 hk c4
  case' neg => have hr := mk_sub hq1 hk c4
  all_goals
    go_enter Tryz.func142, Tryz.ntmps142
    go_wp2_with (first | (go_at_call 120; refine (Tryz.bits_TrailingZeros64 _ (by omega) _ (fun _ => ht.1)).mono ?_; rintro e w' ⟨rfl, rfl⟩) | (go_at_call 129; refine (Tryz.bits_Len64 _ _ (by omega) (by omega)).mono ?_; rintro e w' ⟨rfl, rfl⟩) | (go_at_call 153; refine (signed_b neg _ (by omega) _).mono ?_; rintro e w' ⟨rfl, rfl⟩))
    go_ret2
    exact ⟨rfl, rfl⟩
end Go.Proofs.YtmjjodficjjehaaGreatDoor.Bt
namespace Go.Proofs.YtmjjodficjjehaaGreatDoor.Bt
open Go Go.RowKit Ff
@[irreducible] def shl (q k : Nat) : Nat := q * 2 ^ k
@[irreducible] def shlB (q k : Nat) : Bool := decide (shl q k < 4503599627370496)
theorem shlB_true (q k : Nat) : shlB q k = true ↔ shl q k < 4503599627370496 := by unfold shlB; exact decide_eq_true_iff
@[local go_sem] theorem lt_shl (q k : Nat) : decide ((shl q k : Int) < 4503599627370496) = shlB q k := by
  rw [Bool.eq_iff_iff, decide_eq_true_iff, shlB_true]; omega
end Go.Proofs.YtmjjodficjjehaaGreatDoor.Bt
namespace Go.Proofs.YtmjjodficjjehaaGreatDoor.Bt
open Go Go.RowKit Ff
@[irreducible] def mkB (m : Nat) (e : Int) : Bool := decide (m = 0 ∨ mkOk (od m) (e + tz m))
@[irreducible] def mkF (neg : Bool) (m : Nat) (e : Int) : Nat := if m = 0 then wf neg 0 else if mkOk (od m) (e + tz m) then wf neg (mkR (od m) (e + tz m)) else 0
theorem mkB_zero (e : Int) : mkB 0 e = true := by unfold mkB; simp
theorem mkF_zero (neg : Bool) (e : Int) : mkF neg 0 e = wf neg 0 := by unfold mkF; simp
theorem mkB_ok {m : Nat} {e : Int} (h : mkOk (od m) (e + tz m)) : mkB m e = true := by unfold mkB; simp [h]
theorem mkF_ok {neg : Bool} {m : Nat} {e : Int} (h0 : 0 < m) (h : mkOk (od m) (e + tz m)) : mkF neg m e = wf neg (mkR (od m) (e + tz m)) := by
  unfold mkF; rw [if_neg (by omega), if_pos h]
theorem mkB_no {m : Nat} {e : Int} (h0 : 0 < m) (h : ¬ mkOk (od m) (e + tz m)) : mkB m e = false := by
  unfold mkB; rw [decide_eq_false_iff_not]; intro c; rcases c with c | c
  · omega
  · exact h c
theorem mkF_no {neg : Bool} {m : Nat} {e : Int} (h0 : 0 < m) (h : ¬ mkOk (od m) (e + tz m)) : mkF neg m e = 0 := by
  unfold mkF; rw [if_neg (by omega), if_neg h]
theorem far_no {m : Nat} {e : Int} (h0 : 0 < m) (hm : m < 18446744073709551616) (he : 1023 < e ∨ e < -1137) : ¬ mkOk (od m) (e + tz m) := by
  have h := tz_spec h0 hm
  have hp := bl_pos (od_pos h0 hm)
  intro c
  obtain ⟨c1, c2, c3⟩ := mkOk_bits c
  omega
theorem Make_c (neg : Bool) (m : Nat) (hm : m < 18446744073709551616) (e : Int) (w : World) (ht : Tabs w) :
    Calls Tryz.prog 142 #[.bool neg, .int .u64 m, .int .i64 e] w fun r w' => r = .returned (.tuple #[.float .f64 (mkF neg m e), .bool (mkB m e)]) ∧ w = w' := by
  by_cases h0 : m = 0
  · subst h0; rw [mkF_zero, mkB_zero]; exact Make_zero neg e w
  · by_cases hf : 1023 < e ∨ e < -1137
    · have hn := far_no (by omega) hm hf
      rw [mkF_no (by omega) hn, mkB_no (by omega) hn]; exact Make_far neg m h0 e hf w
    · by_cases hk : mkOk (od m) (e + tz m)
      · rw [mkF_ok (by omega) hk, mkB_ok hk]; exact Make_ok neg m (by omega) hm e (by omega) (by omega) hk w ht
      · rw [mkF_no (by omega) hk, mkB_no (by omega) hk]; exact Make_bad neg m (by omega) hm e (by omega) (by omega) hk w ht
end Go.Proofs.YtmjjodficjjehaaGreatDoor.Bt
namespace Go.Proofs.YtmjjodficjjehaaGreatDoor
open Go Go.RowKit Nt
theorem boxd {w w1 : World} {b : Obj} (hb : Below ((w.alloc b).drew).heap.size ((w.alloc b).drew) w1) : Below w.heap.size w w1 := (((Below.refl _ _).alloc (Nat.le_refl _) _).drew).trans (hb.mono (show w.heap.size ≤ (w.alloc b).heap.size by simp))
set_option maxRecDepth 100000 in
set_option maxHeartbeats 1000000 in
theorem rTop3_num (g : Bool) (n : Nat) (x : Int) (w : World) (hf : fits n) (ho : n ≠ 0) (h1 : -1048576 ≤ x) (h2 : x ≤ 1048576) :
    Calls Tryz.prog 64 #[.agg #[.bool g, .string (natS n), .int .i64 x]] w fun e w' => e = .returned (.tuple #[.int .i64 ((nd 2 n : Nat) - 1 + x), .bool true]) ∧ Below w.heap.size w w' := by
  have hE := natS_full ho
  have hE2 := natS_full2 ho
  have hb2 := bits_131072' hf
  have hL : nd 256 n ≤ 1000000000 := by unfold fits at hf; omega
  have HO := Lib.hid ho
  have hw1 : IntKind.i64.wrap ((nd 2 n : Int) - 1) = (nd 2 n : Int) - 1 := IntWalk.i64_in _ (by omega)
  have hw2 : IntKind.i64.wrap ((nd 2 n : Int) - 1 + x) = (nd 2 n : Int) - 1 + x := IntWalk.i64_in _ (by omega)
  have hw3 : wrap64 ((nd 2 n : Int) - 1) = (nd 2 n : Int) - 1 := IntWalk.wrap64_in _ (by omega)
  have hw4 : wrap64 ((nd 2 n : Int) - 1 + x) = (nd 2 n : Int) - 1 + x := IntWalk.wrap64_in _ (by omega)
  clear ho
  go_enter Tryz.func64, Tryz.ntmps64
  go_upto_region 3 with fail
  go_region_with (first
    | (go_at_call 65; refine (rOf3_c n _ hL).mono ?_; rintro e w1 ⟨v, rfl, hown, hb⟩; obtain ⟨hc, hfz⟩ := bcell hb; obtain ⟨A, c, rfl, hcl⟩ := hown.len; rw [dl_length] at hown ⊢)
    | (go_at_call 96; refine (rBits3_c n _ _ _ _ hL hown).mono ?_; rintro e w2 ⟨rfl, rfl⟩))
  all_goals
    go_wp2
    go_ret2
    first
      | exact ⟨rfl, boxd hb⟩
      | exact ⟨rfl, (boxd hb).drew⟩
      | exact ⟨rfl, box_below hb⟩
      | exact ⟨rfl, (box_below hb).drew⟩
end Go.Proofs.YtmjjodficjjehaaGreatDoor
namespace Go.Proofs.YtmjjodficjjehaaGreatDoor
open Go Go.RowKit Nt
@[irreducible] def pk (m : Nat) (q : Int) : Nat := (q + 1074).toNat * 4503599627370496 + m
theorem pk_eq (m : Nat) (q : Int) : pk m q = (q + 1074).toNat * 4503599627370496 + m := by unfold pk; rfl
theorem pk_top (q : Int) (h : -1074 ≤ q) : pk 9007199254740992 q = pk 4503599627370496 (q + 1) := by rw [pk_eq, pk_eq]; omega
theorem pk_lt {m : Nat} {q : Int} (h1 : m ≤ 9007199254740992) (h2 : q ≤ 971) : pk m q ≤ 9218868437227405312 := by rw [pk_eq]; omega
theorem pow_lt_of {a b : Nat} (h : 2 ^ a < 2 ^ b) : a < b := (Nat.pow_lt_pow_iff_right (by omega)).1 h
theorem mk_pk {m : Nat} {q : Int} (h0 : 0 < m) (h1 : m ≤ 9007199254740992) (hq : -1074 ≤ q) (hq2 : q ≤ 971) (hm : 4503599627370496 ≤ m ∨ q = -1074) (hn : ¬ (m = 9007199254740992 ∧ q = 971)) :
    Bt.mkOk (Bt.od m) (q + Bt.tz m) ∧ Bt.mkR (Bt.od m) (q + Bt.tz m) = pk m q := by
  have h64 : m < 18446744073709551616 := by omega
  obtain ⟨e1, e2, _⟩ := Bt.tz_spec h0 h64
  have ho := Bt.od_pos h0 h64
  have ho64 : Bt.od m < 18446744073709551616 := Nat.lt_of_le_of_lt Bt.od_le h64
  have b1 := Bt.bl_lt ho64
  have b2 := Bt.bl_ge ho64 ho
  rw [pk_eq]
  revert e1 e2 ho b1 b2
  generalize Bt.tz m = z
  unfold Bt.mkOk
  generalize Bt.od m = o
  have Z := @Bt.mkR_nor o (q + z)
  have Y := @Bt.mkR_sub o (q + z)
  revert Z Y
  generalize Lib.bitLen o = B
  intro Z Y e1 e2 ho b1 b2
  have zp := Nat.two_pow_pos z
  have c1 : m < 2 ^ (B + z) := by rw [← e1, Nat.pow_add]; exact Nat.mul_lt_mul_of_pos_right b1 zp
  have c2 : 2 ^ (B + z) ≤ 2 * m := by rw [← e1, Nat.pow_add, ← Nat.mul_assoc]; exact Nat.mul_le_mul_right _ b2
  have p52 : (2 : Nat) ^ 52 = 4503599627370496 := by decide
  have p53 : (2 : Nat) ^ 53 = 9007199254740992 := by decide
  have p54 : (2 : Nat) ^ 54 = 18014398509481984 := by decide
  by_cases hb : m = 9007199254740992
  · have k1 : B + z < 55 := pow_lt_of (by rw [show (2:Nat)^55 = 36028797018963968 by decide]; omega)
    have k2 : 53 < B + z := pow_lt_of (by omega)
    have kz : z ≠ 0 := by rintro rfl; rw [Nat.pow_zero, Nat.mul_one] at e1; omega
    refine ⟨⟨by omega, by omega, by omega⟩, ?_⟩
    rw [Z (by omega), show 53 - B = z - 1 by omega]
    have e3 : o * 2 ^ (z - 1) * 2 = m := by rw [Nat.mul_assoc, ← Nat.pow_succ, show (z - 1).succ = z by omega, e1]
    omega
  · have k1 : B + z < 54 := pow_lt_of (by omega)
    by_cases hs : 4503599627370496 ≤ m
    · have k2 : 52 < B + z := pow_lt_of (by omega)
      refine ⟨⟨by omega, by omega, by omega⟩, ?_⟩
      rw [Z (by omega), show 53 - B = z by omega, e1]
      omega
    · have k2 : B + z < 53 := pow_lt_of (by omega)
      obtain rfl : q = -1074 := by omega
      refine ⟨⟨by omega, by omega, by omega⟩, ?_⟩
      rw [Y (by omega), show (-1074 + (z : Int) + 1074).toNat = z by omega, e1]
      omega
def rT (n : Nat) (x : Int) : Int := (nd 2 n : Int) - 1 + x
@[irreducible] def rQ (n : Nat) (x : Int) : Int := if 1024 ≤ rT n x then 971 else max (rT n x - 52) (-1074)
@[irreducible] def rM (n : Nat) (x : Int) : Nat := if 1024 ≤ rT n x then 9007199254740991 else if rQ n x ≤ x then n * 2 ^ (x - rQ n x).toNat else n / 2 ^ (rQ n x - x).toNat
@[irreducible] def rW (n : Nat) (x : Int) : Int := if 1024 ≤ rT n x then 3 else if rQ n x ≤ x then 0 else 2 + cmpN (n % 2 ^ (rQ n x - x).toNat * 2) (2 ^ (rQ n x - x).toNat)
theorem rQ_far {n : Nat} {x : Int} (h : 1024 ≤ rT n x) : rQ n x = 971 ∧ rM n x = 9007199254740991 ∧ rW n x = 3 := by
  unfold rM rW rQ; simp only [if_pos h]; exact ⟨trivial, trivial, trivial⟩
theorem rQ_near {n : Nat} {x : Int} (h : ¬ 1024 ≤ rT n x) : rQ n x = max (rT n x - 52) (-1074) := by unfold rQ; rw [if_neg h]
theorem rM_up {n : Nat} {x : Int} (h : ¬ 1024 ≤ rT n x) (hq : rQ n x ≤ x) : rM n x = n * 2 ^ (x - rQ n x).toNat ∧ rW n x = 0 := by
  unfold rM rW; rw [if_neg h, if_neg h, if_pos hq, if_pos hq]; exact ⟨rfl, rfl⟩
theorem rM_dn {n : Nat} {x : Int} (h : ¬ 1024 ≤ rT n x) (hq : ¬ rQ n x ≤ x) : rM n x = n / 2 ^ (rQ n x - x).toNat ∧ rW n x = 2 + cmpN (n % 2 ^ (rQ n x - x).toNat * 2) (2 ^ (rQ n x - x).toNat) := by
  unfold rM rW; rw [if_neg h, if_neg h, if_neg hq, if_neg hq]; exact ⟨rfl, rfl⟩
theorem rQ_b (n : Nat) (x : Int) : -1074 ≤ rQ n x ∧ rQ n x ≤ 971 := by
  unfold rQ; split <;> omega
theorem rM_b {n : Nat} {x : Int} (h0 : n ≠ 0) : rM n x < 9007199254740992 ∧ (4503599627370496 ≤ rM n x ∨ rQ n x = -1074) := by
  by_cases h : 1024 ≤ rT n x
  · obtain ⟨e1, e2, _⟩ := rQ_far h
    rw [e2]; exact ⟨by omega, Or.inl (by omega)⟩
  · have hq := rQ_near h
    have l1 := lt_nd (b := 2) (n := n) (by omega)
    have hnd : nd 2 n ≠ 0 := fun c => h0 ((nd_eq_zero (by omega)).1 c)
    have l2 : 2 ^ (nd 2 n - 1) ≤ n := (pow_le_iff (b := 2) (by omega) _ _).2 (by omega)
    have ht : rT n x = (nd 2 n : Int) - 1 + x := rfl
    have p52 : (2 : Nat) ^ 52 = 4503599627370496 := by decide
    have p53 : (2 : Nat) ^ 53 = 9007199254740992 := by decide
    by_cases hu : rQ n x ≤ x
    · rw [(rM_up h hu).1]
      revert hq hu
      generalize rQ n x = q
      intro hq hu
      have kp := Nat.two_pow_pos (x - q).toNat
      refine ⟨?_, ?_⟩
      · have a1 : n * 2 ^ (x - q).toNat < 2 ^ (nd 2 n + (x - q).toNat) := by rw [Nat.pow_add]; exact Nat.mul_lt_mul_of_pos_right l1 kp
        have a2 : 2 ^ (nd 2 n + (x - q).toNat) ≤ 2 ^ 53 := Nat.pow_le_pow_right (by omega) (by omega)
        omega
      · by_cases hs : q = -1074
        · exact Or.inr hs
        · left
          have a1 : 2 ^ (nd 2 n - 1 + (x - q).toNat) ≤ n * 2 ^ (x - q).toNat := by rw [Nat.pow_add]; exact Nat.mul_le_mul_right _ l2
          have a2 : 2 ^ 52 ≤ 2 ^ (nd 2 n - 1 + (x - q).toNat) := Nat.pow_le_pow_right (by omega) (by omega)
          omega
    · rw [(rM_dn h hu).1]
      revert hq hu
      generalize rQ n x = q
      intro hq hu
      have kp := Nat.two_pow_pos (q - x).toNat
      refine ⟨?_, ?_⟩
      · rw [Nat.div_lt_iff_lt_mul kp]
        have a2 : 2 ^ nd 2 n ≤ 2 ^ (53 + (q - x).toNat) := Nat.pow_le_pow_right (by omega) (by omega)
        rw [Nat.pow_add] at a2
        generalize 2 ^ (q - x).toNat = K at *
        generalize 2 ^ nd 2 n = J at *
        rw [p53] at a2
        omega
      · by_cases hs : q = -1074
        · exact Or.inr hs
        · left
          rw [Nat.le_div_iff_mul_le kp]
          have a2 : 2 ^ (52 + (q - x).toNat) ≤ 2 ^ (nd 2 n - 1) := Nat.pow_le_pow_right (by omega) (by omega)
          rw [Nat.pow_add] at a2
          generalize 2 ^ (q - x).toNat = K at *
          generalize 2 ^ (nd 2 n - 1) = J at *
          rw [p52] at a2
          omega
@[irreducible] def rnd (g : Bool) (n : Nat) (x : Int) (up : Bool) : Nat := Bt.wf g (pk (if up then rM n x + 1 else rM n x) (rQ n x))
theorem rnd_t (g : Bool) (n : Nat) (x : Int) : rnd g n x true = Bt.wf g (pk (rM n x + 1) (rQ n x)) := by unfold rnd; rw [if_pos rfl]
theorem rnd_f (g : Bool) (n : Nat) (x : Int) : rnd g n x false = Bt.wf g (pk (rM n x) (rQ n x)) := by unfold rnd; rw [if_neg (by decide)]
theorem rest_bits {n k : Nat} (ho : n % 2 = 1) (hk : 0 < k) : 2 + cmpN (n % 2 ^ k * 2) (2 ^ k) = if dgt 2 n (k - 1) = 0 then 1 else if k = 1 then 2 else 3 := by
  obtain ⟨j, rfl⟩ : ∃ j, k = j + 1 := ⟨k - 1, by omega⟩
  rw [Nat.add_sub_cancel, dgt_def]
  have kp := Nat.two_pow_pos j
  have e1 : n % 2 ^ (j + 1) = n % 2 ^ j + 2 ^ j * (n / 2 ^ j % 2) := by
    rw [Nat.pow_succ, Nat.mod_mul]
  have e2 : n % 2 ^ j < 2 ^ j := Nat.mod_lt _ kp
  rw [e1, Nat.pow_succ]
  by_cases hb : n / 2 ^ j % 2 = 0
  · rw [if_pos hb, hb, cmpN_lt (by omega)]; rfl
  · have hb1 : n / 2 ^ j % 2 = 1 := by omega
    rw [if_neg hb, hb1, Nat.mul_one]
    by_cases hj : j = 0
    · subst hj
      rw [if_pos rfl, Nat.pow_zero, Nat.mod_one]
      rw [show (0 + 1) * 2 = 1 * 2 by rfl, cmpN_eq]; rfl
    · rw [if_neg (by omega)]
      have e3 : n % 2 ^ j % 2 = 1 := by
        rw [show j = (j - 1) + 1 by omega, Nat.pow_succ, Nat.mul_comm, Nat.mod_mul_right_mod, ho]
      rw [cmpN_gt (by omega)]; rfl
end Go.Proofs.YtmjjodficjjehaaGreatDoor
namespace Go.Proofs.YtmjjodficjjehaaGreatDoor
open Go Go.RowKit Nt
set_option maxRecDepth 100000 in
theorem rPacked_c (m : Nat) (q : Int) (w : World) (h1 : m ≤ 9007199254740992) (hq : -1074 ≤ q) (hq2 : q ≤ 971) (hm : 4503599627370496 ≤ m ∨ q = -1074) :
    Calls Tryz.prog 100 #[.bool false, .int .u64 m, .int .i64 q] w fun e w' => e = .returned (.float .f64 (pk m q)) ∧ w = w' := by
  have hx := Bt.ext_from
  by_cases c1 : m = 9007199254740992
  · subst c1
    rw [pk_top q hq]
    clear hm
    by_cases c2 : q = 971
    · subst c2
      rw [show pk 4503599627370496 (971 + 1) = 9218868437227405312 by rw [pk_eq]; rfl]
      have hx3 : ∀ w, (callFunc 35 #[.int .u64 9218868437227405312]).run Tryz.prog w = .ok (.value (.float .f64 9218868437227405312)) w := fun w => hx 9218868437227405312 w
      go_enter Tryz.func100, Tryz.ntmps100
      go_wp2
      go_ret
      exact ⟨rfl, rfl⟩
    · have K : (q + 1 + 1075) * 4503599627370496 = (pk 4503599627370496 (q + 1) : Int) := by rw [pk_eq]; omega
      have c3 : ¬ q + 1 + 1075 ≥ 2047 := by omega
      have hx2 := fun w => hx (pk 4503599627370496 (q + 1)) w
      rw [← K] at hx2
      have KK2 := Lib.hid K
      clear K hx
      go_enter Tryz.func100, Tryz.ntmps100
      go_wp2
      go_ret
      exact ⟨rfl, rfl⟩
  · have hz : ((m : Int) == 9007199254740992) = false := by rw [beq_eq_false_iff_ne]; omega
    by_cases c2 : 4503599627370496 ≤ m
    · have K : (q + 1075) * 4503599627370496 + (m : Int) - 4503599627370496 = (pk m q : Int) := by rw [pk_eq]; omega
      have c4 : (4503599627370496 : Int) ≤ (m : Int) := by omega
      have c3 : ¬ q + 1075 ≥ 2047 := by omega
      have hx2 := fun w => hx (pk m q) w
      rw [← K] at hx2
      clear K hx
      go_enter Tryz.func100, Tryz.ntmps100
      go_wp2
      go_ret
      exact ⟨rfl, rfl⟩
    · have K := Lib.hid (show pk m q = m by rw [pk_eq]; omega)
      have c4 : ¬ (4503599627370496 : Int) ≤ (m : Int) := by omega
      go_enter Tryz.func100, Tryz.ntmps100
      go_wp2
      go_ret
      exact ⟨by rw [K.out]; rfl, rfl⟩
set_option maxRecDepth 100000 in
theorem rSigned3_c (g : Bool) (x : Nat) (w : World) (h : x < 9223372036854775808) :
    Calls Tryz.prog 71 #[.bool g, .float .f64 x] w fun e w' => e = .returned (.float .f64 (Bt.wf g x)) ∧ w = w' := by
  have hx := Bt.ext_from
  have hy := Bt.ext_bits
  cases g with
  | false =>
    have K := Lib.hid (show Bt.wf false x = x by unfold Bt.wf; simp)
    go_enter Tryz.func71, Tryz.ntmps71
    go_wp2
    go_ret
    exact ⟨by rw [K.out]; rfl, rfl⟩
  | true =>
    have ho : IntKind.u64.wrap ((x : Int) + 9223372036854775808) = ((Bt.topped x : Nat) : Int) := by
      rw [Bt.topped_eq, IntKind.wrap_u64]; omega
    have K := Lib.hid (show Bt.wf true x = Bt.topped x by rw [Bt.wf_eq, if_pos rfl])
    clear h
    go_enter Tryz.func71, Tryz.ntmps71
    go_wp2
    go_ret
    exact ⟨by rw [K.out]; rfl, rfl⟩
end Go.Proofs.YtmjjodficjjehaaGreatDoor
namespace Go.Proofs.YtmjjodficjjehaaGreatDoor
open Go Go.RowKit Nt
structure Dt where
  g : Bool
  s : ByteArray
  x : Int
def Dt.v (t : Dt) : Value := .agg #[.bool t.g, .string t.s, .int .i64 t.x]
def Dt.Ok (t : Dt) : Prop := DOk t.g t.s t.x
theorem Dt.small {t : Dt} (h : t.Ok) : t.s.size ≤ 16384 := by
  rcases h with ⟨h, _⟩ | ⟨n, hf, _, h, _⟩
  · rw [h]; decide
  · rw [h, natS_size]; exact hf
open Classical in
@[irreducible] noncomputable def dE (l : List Dt) : Int := if ∀ t ∈ l, t.Ok then 0 else 2
theorem dE_ok {l : List Dt} (h : ∀ t ∈ l, t.Ok) : dE l = 0 := by unfold dE; rw [if_pos h]
theorem dE_no {l : List Dt} {t : Dt} (h : t ∈ l) (hn : ¬ t.Ok) : dE l = 2 := by unfold dE; rw [if_neg (fun c => hn (c t h))]
theorem DCheck_c (t : Dt) (w : World) (hs : t.s.size ≤ 9223372036854775807) : Calls Tryz.prog 72 #[.agg #[.bool t.g, .string t.s, .int .i64 t.x]] w fun e w' => e = .returned (.int .i64 (dE [t])) ∧ Below w.heap.size w w' := by
  by_cases h : t.Ok
  · rw [dE_ok (fun u hu => by rw [List.mem_singleton.1 hu]; exact h)]
    rcases h with ⟨e1, e2, e3⟩ | ⟨n, hf, ho, e1, h1, h2⟩
    · rw [e1, e2, e3]; exact DCheck_zero w
    · rw [e1]; exact DCheck_num t.g n t.x w hf ho h1 h2
  · rw [dE_no (List.mem_singleton.2 rfl) h]
    exact DCheck_bad t.g t.s t.x w hs h
def Dts (w : World) (A : Option Addr) (l : List Dt) : Prop := 0 < l.length → ∃ ad, A = some ad ∧ ad.block < w.heap.size ∧ ∀ j (h : j < l.length), w.cell? (ad.add (j * 3)) = some (.bool l[j].g) ∧ w.cell? ⟨(ad.add (j * 3)).block, (ad.add (j * 3)).off + 1, none⟩ = some (.string l[j].s) ∧ w.cell? ⟨(ad.add (j * 3)).block, (ad.add (j * 3)).off + 2, none⟩ = some (.int .i64 l[j].x)
theorem Dts.below {w w' : World} {A : Option Addr} {l : List Dt} (h : Dts w A l) (hb : Below w.heap.size w w') : Dts w' A l := fun h0 => by
  obtain ⟨ad, e, hl, hc⟩ := h h0
  refine ⟨ad, e, Nat.lt_of_lt_of_le hl hb.size, fun j hj => ?_⟩
  obtain ⟨c1, c2, c3⟩ := hc j hj
  exact ⟨(hb.cell (p := ad.add (j * 3)) (by rw [block_of_add']; exact hl)).trans c1, (hb.cell (p := ⟨(ad.add (j * 3)).block, (ad.add (j * 3)).off + 1, none⟩) (by show (ad.add (j * 3)).block < _; rw [block_of_add']; exact hl)).trans c2, (hb.cell (p := ⟨(ad.add (j * 3)).block, (ad.add (j * 3)).off + 2, none⟩) (by show (ad.add (j * 3)).block < _; rw [block_of_add']; exact hl)).trans c3⟩
set_option maxRecDepth 100000 in
set_option maxHeartbeats 1000000 in
theorem Dall_c (A : Option Addr) (c : Nat) (l : List Dt) (w : World) (hl : l.length ≤ 9223372036854775807) (hs : ∀ t ∈ l, t.s.size ≤ 9223372036854775807) (h : Dts w A l) :
    Calls Tryz.prog 83 #[.slice A l.length c] w fun e w' => e = .returned (.int .i64 (dE l)) ∧ Below w.heap.size w w' := by
  have HD := Lib.hid h
  have HS := Lib.hid hs
  clear h hs
  go_enter Tryz.func83, Tryz.ntmps83
  go_wp2
  go_loopw [8] (fun i wr => ∃ k : Nat, k ≤ l.length ∧ i = .int .i64 k ∧ Hid (∀ j (h : j < l.length), j < k → l[j].Ok) ∧ Below w.heap.size w wr) (fun i _ => l.length - (intOf i).toNat)
  case atStart => exact ⟨0, Nat.zero_le _, rfl, Lib.hid (fun j _ h => by omega), Below.refl _ _⟩
  case round =>
    obtain ⟨k, hk, rfl, hok, hb⟩ := hrel
    by_cases hlt : k < l.length
    · obtain ⟨ad, rfl, hadb, hc⟩ := (HD.out.below hb) (by omega)
      obtain ⟨c1, c2, c3⟩ := hc k hlt
      have K := Lib.hid (fun w => DCheck_c l[k] w (HS.out _ (List.getElem_mem hlt)))
      by_cases hok1 : l[k].Ok
      · have e0 := dE_ok (l := [l[k]]) (fun u hu => by rw [List.mem_singleton.1 hu]; exact hok1)
        rw [e0] at K
        have HOK := Lib.hid (show ∀ j (h : j < l.length), j < k + 1 → l[j].Ok from fun j hj h2 => by
          rcases Nat.lt_or_ge j k with h3 | h3
          · exact hok.out j hj h3
          · obtain rfl : j = k := by omega
            exact hok1)
        clear e0 hok1 hc
        go_wp2_with fail
        refine (K.out _).mono ?_
        rintro e w2 ⟨rfl, hb2⟩
        have hb3 := below_chain hb (box_below hb2)
        clear hb2
        go_wp2_with fail
        go_roundw
        case rel => exact ⟨k + 1, by omega, by go_num, HOK, hb3⟩
        case measure => simp [intOf]; omega
      · have e0 := dE_no (l := [l[k]]) (List.mem_singleton.2 rfl) hok1
        have e1 := dE_no (l := l) (List.getElem_mem hlt) hok1
        rw [e0] at K
        have HE := Lib.hid e1
        clear e0 e1 hok1 hc
        go_wp2_with fail
        refine (K.out _).mono ?_
        rintro e w2 ⟨rfl, hb2⟩
        have hb3 := below_chain hb (box_below hb2)
        clear hb2
        go_wp2_with fail
        go_ret
        exact ⟨by rw [HE.out]; rfl, hb3⟩
    · have e1 := dE_ok (l := l) (fun t ht => by
        obtain ⟨j, hj, rfl⟩ := List.getElem_of_mem ht
        exact hok.out j hj (by omega))
      have HE := Lib.hid e1
      clear e1
      go_wp2_with fail
      go_ret
      exact ⟨by rw [HE.out]; rfl, hb⟩
end Go.Proofs.YtmjjodficjjehaaGreatDoor
namespace Go.Proofs.YtmjjodficjjehaaGreatDoor
open Go Go.RowKit Nt
theorem ff_exp (x : Nat) (hx : x < 18446744073709551616) : bits BinOp.and IntKind.u64 ((x : Int) / 4503599627370496) 2047 = ((Bt.Ff.rung x / 4503599627370496 : Nat) : Int) := by
  have h := u64_and_nat (x / 4503599627370496) 2047 (by omega) (by decide)
  rw [show ((2047 : Nat) : Int) = 2047 from rfl, Int.natCast_ediv] at h
  rw [show ((4503599627370496 : Nat) : Int) = 4503599627370496 from rfl] at h
  rw [h]
  congr 1
  have h2 := Nat.and_two_pow_sub_one_eq_mod (x / 4503599627370496) 11
  rw [show (2 : Nat) ^ 11 - 1 = 2047 from rfl, show (2 : Nat) ^ 11 = 2048 from rfl] at h2
  rw [h2]
  unfold Bt.Ff.rung
  omega
theorem ff_man (x : Nat) (hx : x < 18446744073709551616) : bits BinOp.and IntKind.u64 (x : Int) 4503599627370495 = (Bt.frac x : Int) := by
  rw [show (4503599627370495 : Int) = ((4503599627370495 : Nat) : Int) from rfl, u64_and_nat x _ hx (by decide), Bt.frac_eq]
  congr 1
  have h2 := Nat.and_two_pow_sub_one_eq_mod x 52
  rw [show (2 : Nat) ^ 52 - 1 = 4503599627370495 from rfl, show (2 : Nat) ^ 52 = 4503599627370496 from rfl] at h2
  rw [h2]
  unfold Bt.Ff.rung
  omega
theorem ff_sgn (x : Nat) (hx : x < 18446744073709551616) : ((x : Int) / 9223372036854775808 == 1) = Bt.Ff.sgn x := by
  unfold Bt.Ff.sgn
  rw [Bool.eq_iff_iff, beq_iff_eq, beq_iff_eq]; omega
set_option maxRecDepth 100000 in
theorem rFrom3_no (x : Nat) (hx : x < 18446744073709551616) (hf : Bt.finB x = false) (w : World) :
    Calls Tryz.prog 59 #[.float .f64 x] w fun e w' => e = .returned (.tuple #[.agg #[.bool false, .string ⟨#[]⟩, .int .i64 0], .int .i64 5]) ∧ Below w.heap.size w w' := by
  have h44 := Bt.ext_bits
  have hr := (Bt.finB_false x).1 hf
  have h1 := ff_exp x hx
  have hE : Bt.Ff.rung x / 4503599627370496 = 2047 := by have : Bt.Ff.rung x < 9223372036854775808 := by unfold Bt.Ff.rung; omega
                                                         omega
  rw [hE] at h1
  have h2 := ff_man x hx
  have h1' : bits BinOp.and IntKind.u64 ((x : Int) / 4503599627370496) 2047 = 2047 := h1
  generalize Bt.frac x = m at *
  clear h1 hE hr hf
  go_enter Tryz.func59, Tryz.ntmps59
  go_wp2
  refine bodyPost_ret (v := .tuple #[.agg #[.bool false, .string ⟨#[]⟩, .int .i64 0], .int .i64 5]) (by simp [results, Tryz.results59, go_sem]) rfl ⟨rfl, ?_⟩
  repeat (refine Below.setCell ?_ (by simp) _)
  exact (Below.refl _ _).alloc (Nat.le_refl _) _
set_option maxRecDepth 100000 in
set_option maxHeartbeats 1000000 in
theorem rFrom3_c (x : Nat) (hx : x < 18446744073709551616) (hf : Bt.finB x = true) (w : World) :
    Calls Tryz.prog 59 #[.float .f64 x] w (FlPost x w) := by
  have h44 := Bt.ext_bits
  have hr := (Bt.finB_true x).1 hf
  have h1 := ff_exp x hx
  have h2 := ff_man x hx
  have h3 := ff_sgn x hx
  have hok := mkE_ok (float_ok hx hf)
  have hpb := pex_bounds hx hf
  have hpm := pm_small x
  have KO := Lib.hid (fun w => rOf_c (Bt.pm x) w hpm)
  have KM : Hid (∀ (g : Bool) (w : World), Calls Tryz.prog 92 #[.bool g, .string (natS (Bt.pm x)), .int .i64 (Bt.pex x)] w fun e w' => e = .returned (.tuple #[(mkD g (Bt.pm x) (Bt.pex x)).v, .int .i64 0]) ∧ Below w.heap.size w w') := Lib.hid fun g w => (rMake3_c g (Bt.pm x) (Bt.pex x) w (abs_fits hpm) (by omega)).mono fun e w' h => ⟨by rw [h.1, hok], h.2⟩
  by_cases hn : Bt.Ff.rung x < 4503599627370496
  · have hE : Bt.Ff.rung x / 4503599627370496 = 0 := by omega
    rw [hE] at h1
    have h1' : bits BinOp.and IntKind.u64 ((x : Int) / 4503599627370496) 2047 = 0 := h1
    have h2' : bits BinOp.and IntKind.u64 (x : Int) 4503599627370495 = (Bt.pm x : Int) := by rw [h2, Bt.frac_sub hn]
    have hp := Bt.pex_sub hn
    rw [hp] at KM
    unfold FlPost
    rw [hp]
    clear h1 h2 hE hr hf hn hp hpb hok hpm
    generalize Bt.pm x = m at *
    generalize Bt.Ff.sgn x = g at *
    unfold Dy.v
    go_enter Tryz.func59, Tryz.ntmps59
    go_wp2_with (first
      | (go_at_call 93; refine (KO.out _).mono ?_; rintro e w1 ⟨rfl, hb⟩)
      | (go_at_call 92; refine (KM.out _ _).mono ?_; rintro e w2 ⟨rfl, hb2⟩; have hb12 := hb.trans (hb2.mono hb.size); obtain ⟨hcl, hfz⟩ := bcell hb12; have hsz := box1 hb12; unfold Dy.v))
    refine bodyPost_ret (v := .tuple #[(mkD g m (-1074)).v, .int .i64 0]) (by simp [results, Tryz.results59, go_sem, hcl, hsz, Dy.v]) rfl ⟨rfl, ?_⟩
    repeat (refine Below.setCell ?_ (by simp) _)
    exact box_below hb12
  · obtain ⟨E, hE⟩ : ∃ E, E = Bt.Ff.rung x / 4503599627370496 := ⟨_, rfl⟩
    have hp := Bt.pex_nor hn
    rw [← hE] at hp h1
    have hE1 : 1 ≤ E ∧ E ≤ 2046 := by omega
    have hp2 : (E : Int) - 1075 = Bt.pex x := by rw [hp]; omega
    have h5 : (Bt.frac x : Int) + 4503599627370496 = (Bt.pm x : Int) := by rw [Bt.pm_nor hn]; omega
    have e1 : ((E : Int) == 2047) = false := by rw [beq_eq_false_iff_ne]; omega
    have e2 : ((E : Int) == 0) = false := by rw [beq_eq_false_iff_ne]; omega
    have e3 : ¬ (E : Int) = 2047 := by omega
    have e4 : ¬ (E : Int) = 0 := by omega
    have h6 : IntKind.u64.wrap (Bt.pm x : Int) = (Bt.pm x : Int) := by rw [IntKind.wrap_u64]; omega
    unfold FlPost
    clear hE hr hf hn hp hok
    generalize Bt.frac x = f at *
    generalize Bt.pm x = m at *
    generalize Bt.Ff.sgn x = g at *
    generalize Bt.pex x = q at *
    have hw1 : wrap64 q = q := IntWalk.wrap64_in _ (by omega)
    have hw2 : IntKind.i64.wrap (E : Int) = (E : Int) := IntWalk.i64_in _ (by omega)
    clear hpb hpm
    unfold Dy.v
    go_enter Tryz.func59, Tryz.ntmps59
    go_wp2_with (first
      | (go_at_call 93; refine (KO.out _).mono ?_; rintro e w1 ⟨rfl, hb⟩)
      | (go_at_call 92; refine (KM.out _ _).mono ?_; rintro e w2 ⟨rfl, hb2⟩; have hb12 := hb.trans (hb2.mono hb.size); obtain ⟨hcl, hfz⟩ := bcell hb12; have hsz := box1 hb12; unfold Dy.v))
    refine bodyPost_ret (v := .tuple #[(mkD g m q).v, .int .i64 0]) (by simp [results, Tryz.results59, go_sem, hcl, hsz, Dy.v]) rfl ⟨rfl, ?_⟩
    repeat (refine Below.setCell ?_ (by simp) _)
    exact box_below hb12
end Go.Proofs.YtmjjodficjjehaaGreatDoor
namespace Go.Proofs.YtmjjodficjjehaaGreatDoor
open Go Go.RowKit Nt
def BoxAt (w : World) (B : Nat) (g : Bool) (s : ByteArray) (x : Int) : Prop := B < w.heap.size ∧ w.cell? ⟨B, 0, none⟩ = some (.bool g) ∧ w.cell? ⟨B, 1, none⟩ = some (.string s) ∧ w.cell? ⟨B, 2, none⟩ = some (.int .i64 x)
theorem BoxAt.step {w w' : World} {B : Nat} {g : Bool} {s : ByteArray} {x : Int} (h : BoxAt w B g s x) (hb : Below w.heap.size w w') : BoxAt w' B g s x := by
  obtain ⟨h0, h1, h2, h3⟩ := h
  exact ⟨Nat.lt_of_lt_of_le h0 hb.size, (hb.cell (p := ⟨B, 0, none⟩) h0).trans h1, (hb.cell (p := ⟨B, 1, none⟩) h0).trans h2, (hb.cell (p := ⟨B, 2, none⟩) h0).trans h3⟩
theorem BoxAt.new (w : World) (g : Bool) (s : ByteArray) (x : Int) (T : TypeId) : BoxAt (w.alloc (.cells #[.bool g, .string s, .int .i64 x] T)) w.heap.size g s x :=
  ⟨by simp, (World.cell?_alloc_at _ _ _ _ rfl).trans rfl, (World.cell?_alloc_at _ _ _ _ rfl).trans rfl, (World.cell?_alloc_at _ _ _ _ rfl).trans rfl⟩
def On1 (w : World) (g : Bool) (s : ByteArray) (x : Int) (wc : World) : Prop := Below w.heap.size w wc ∧ BoxAt wc w.heap.size g s x
theorem On1.step {w : World} {g : Bool} {s : ByteArray} {x : Int} {wc w' : World} (h : On1 w g s x wc) (hb : Below wc.heap.size wc w') : On1 w g s x w' := ⟨below_chain h.1 hb, h.2.step hb⟩
theorem On1.new (w : World) (g : Bool) (s : ByteArray) (x : Int) (T : TypeId) : On1 w g s x (w.alloc (.cells #[.bool g, .string s, .int .i64 x] T)) := ⟨(Below.refl _ _).alloc (Nat.le_refl _) _, BoxAt.new w g s x T⟩
def On2 (w : World) (g : Bool) (s : ByteArray) (x : Int) (B : Nat) (wc : World) : Prop := On1 w g s x wc ∧ BoxAt wc B false s x
theorem On2.step {w : World} {g : Bool} {s : ByteArray} {x : Int} {B : Nat} {wc w' : World} (h : On2 w g s x B wc) (hb : Below wc.heap.size wc w') : On2 w g s x B w' := ⟨h.1.step hb, h.2.step hb⟩
theorem On2.start {w : World} {g : Bool} {s : ByteArray} {x : Int} {w1 : World} {T : TypeId} (h : On1 w g s x w1) : On2 w g s x w1.heap.size ((w1.alloc (.cells #[.bool false, .string s, .int .i64 x] T)).drew) := by
  have e : Below w1.heap.size w1 (w1.alloc (.cells #[.bool false, .string s, .int .i64 x] T)) := (Below.refl _ _).alloc (Nat.le_refl _) _
  exact ⟨h.step e.drew, (BoxAt.new w1 false s x T).step (Below.refl _ _).drew⟩
end Go.Proofs.YtmjjodficjjehaaGreatDoor
namespace Go.Proofs.YtmjjodficjjehaaGreatDoor
open Go Go.RowKit Nt
def Box3 (w : World) (B : Nat) (a b c : Value) : Prop := Blk w B 24 #[a, b, c]
theorem Box3.facts {w : World} {B : Nat} {a b c : Value} (h : Box3 w B a b c) : B < w.heap.size ∧ w.cell? ⟨B, 0, none⟩ = some a ∧ w.cell? ⟨B, 1, none⟩ = some b ∧ w.cell? ⟨B, 2, none⟩ = some c ∧ w.frozen? ⟨B, 0, none⟩ = false ∧ w.frozen? ⟨B, 1, none⟩ = false ∧ w.frozen? ⟨B, 2, none⟩ = false :=
  ⟨Blk.lt h, (Blk.cell h 0).trans rfl, (Blk.cell h 1).trans rfl, (Blk.cell h 2).trans rfl, Blk.frozen h 0, Blk.frozen h 1, Blk.frozen h 2⟩
theorem Box3.step {w w' : World} {B : Nat} {a b c : Value} (h : Box3 w B a b c) (hb : Below w.heap.size w w') : Box3 w' B a b c := Blk.below h hb (Blk.lt h)
theorem Box3.new (w : World) (a b c : Value) : Box3 (w.alloc (.cells #[a, b, c] 24)) w.heap.size a b c := Blk.new w _ _
theorem Box3.more {w : World} {B : Nat} {a b c : Value} (h : Box3 w B a b c) (o : Obj) : Box3 (w.alloc o) B a b c := Blk.alloc h o
theorem Box3.put {w : World} {B : Nat} {a b c : Value} (h : Box3 w B a b c) (a' b' c' : Value) : Box3 (((w.setCell ⟨B, 0, none⟩ a').setCell ⟨B, 1, none⟩ b').setCell ⟨B, 2, none⟩ c') B a' b' c' := by
  have := ((Blk.set_ h 0 a').set_ 1 b').set_ 2 c'
  unfold Box3
  simpa using this
theorem Box3.far {w : World} {B C : Nat} {a b c : Value} (h : Box3 w B a b c) (hne : B ≠ C) (a' b' c' : Value) : Box3 (((w.setCell ⟨C, 0, none⟩ a').setCell ⟨C, 1, none⟩ b').setCell ⟨C, 2, none⟩ c') B a b c :=
  Blk.far (Blk.far (Blk.far h (p := ⟨C, 0, none⟩) hne a') (p := ⟨C, 1, none⟩) hne b') (p := ⟨C, 2, none⟩) hne c'
theorem below_put {n : Nat} {w W : World} {A : Nat} (hb : Below n w W) (hA : n ≤ A) (a' b' c' : Value) : Below n w (((W.setCell ⟨A, 0, none⟩ a').setCell ⟨A, 1, none⟩ b').setCell ⟨A, 2, none⟩ c') :=
  ((hb.setCell (p := ⟨A, 0, none⟩) hA a').setCell (p := ⟨A, 1, none⟩) hA b').setCell (p := ⟨A, 2, none⟩) hA c'
theorem below_then {a b c : World} (h1 : Below a.heap.size a b) (h2 : Below b.heap.size b c) : Below a.heap.size a c := h1.trans (h2.mono h1.size)
end Go.Proofs.YtmjjodficjjehaaGreatDoor
namespace Go.Proofs.YtmjjodficjjehaaGreatDoor
open Go Go.RowKit Nt
def TB (w : World) (a b : Dt) (W : World) : Prop := Below w.heap.size w W ∧ Box3 W w.heap.size (.bool a.g) (.string a.s) (.int .i64 a.x) ∧ Box3 W (w.heap.size + 1) (.bool b.g) (.string b.s) (.int .i64 b.x)
theorem TB.start (w : World) (a b : Dt) : TB w a b ((w.alloc (.cells #[.bool a.g, .string a.s, .int .i64 a.x] 24)).alloc (.cells #[.bool b.g, .string b.s, .int .i64 b.x] 24)) := by
  have e : (w.alloc (.cells #[.bool a.g, .string a.s, .int .i64 a.x] 24)).heap.size = w.heap.size + 1 := by simp
  refine ⟨((Below.refl _ _).alloc (Nat.le_refl _) _).alloc (by simp) _, (Box3.new w _ _ _).more _, ?_⟩
  rw [← e]
  exact Box3.new _ _ _ _
theorem TB.step {w : World} {a b : Dt} {W W' : World} (h : TB w a b W) (hb : Below W.heap.size W W') : TB w a b W' := ⟨below_then h.1 hb, h.2.1.step hb, h.2.2.step hb⟩
theorem TB.more {w : World} {a b : Dt} {W : World} (h : TB w a b W) (o : Obj) : TB w a b (W.alloc o) := h.step ((Below.refl _ _).alloc (Nat.le_refl _) _)
theorem TB.drawn {w : World} {a b : Dt} {W : World} (h : TB w a b W) (n : Nat) : TB w a b (W.drewN n) := h.step (below_drewN (Below.refl _ _) n)
theorem TB.drew {w : World} {a b : Dt} {W : World} (h : TB w a b W) : TB w a b W.drew := h.step (Below.refl _ _).drew
@[irreducible] def topD (d : Dy) : Int := (nd 2 d.n : Nat) - 1 + d.x
theorem topD_eq (d : Dy) : topD d = (nd 2 d.n : Nat) - 1 + d.x := by unfold topD; rfl
@[irreducible] def upN (a b : Dy) : Nat := a.n * 2 ^ (a.x - b.x).toNat
theorem upN_eq (a b : Dy) : upN a b = a.n * 2 ^ (a.x - b.x).toNat := by unfold upN; rfl
@[irreducible] def magC (a b : Dy) : Int := if topD a < topD b then -1 else if topD b < topD a then 1 else cmpN (upN a b) (upN b a)
theorem magC_lt {a b : Dy} (h : topD a < topD b) : magC a b = -1 := by unfold magC; rw [if_pos h]
theorem magC_gt {a b : Dy} (h : topD b < topD a) : magC a b = 1 := by unfold magC; rw [if_neg (by omega), if_pos h]
theorem magC_eq {a b : Dy} (h : topD a = topD b) : magC a b = cmpN (upN a b) (upN b a) := by unfold magC; rw [if_neg (by omega), if_neg (by omega)]
def Dy.t (d : Dy) : Dt := ⟨d.g, natS d.n, d.x⟩
theorem Dy.t_ok {d : Dy} (h : d.Num) : d.t.Ok := Or.inr ⟨d.n, h.1, h.2.1, rfl, h.2.2.1, h.2.2.2⟩
theorem up_fits {a b : Dy} (ha : a.Num) (hb : b.Num) (h : topD a = topD b) (hx : b.x < a.x) : fits (a.n * 2 ^ (a.x - b.x).toNat) ∧ upN a b = a.n * 2 ^ (a.x - b.x).toNat ∧ upN b a = b.n := by
  refine ⟨(fits_shift (odd_ne ha.2.1)).2 ?_, upN_eq a b, ?_⟩
  · have h1 := bits_131072' hb.1
    rw [topD_eq, topD_eq] at h
    omega
  · rw [upN_eq, show (b.x - a.x).toNat = 0 by omega, Nat.pow_zero, Nat.mul_one]
set_option maxRecDepth 100000 in
set_option maxHeartbeats 2000000 in
theorem Dmag_c (a b : Dy) (w : World) (ha : a.Num) (hb : b.Num) :
    Calls Tryz.prog 85 #[.agg #[.bool a.g, .string (natS a.n), .int .i64 a.x], .agg #[.bool b.g, .string (natS b.n), .int .i64 b.x]] w fun e w' => e = .returned (.int .i64 (magC a b)) ∧ Below w.heap.size w w' := by
  have KA := Lib.hid (fun w => DTop_num a.g a.n a.x w ha.1 ha.2.1 ha.2.2.1 ha.2.2.2)
  have KB := Lib.hid (fun w => DTop_num b.g b.n b.x w hb.1 hb.2.1 hb.2.2.1 hb.2.2.2)
  rw [← topD_eq] at KA KB
  have HA := Lib.hid ha
  have HB := Lib.hid hb
  have hxa := ha.2.2
  have hxb := hb.2.2
  have T0 := TB.start w a.t b.t
  unfold Dy.t at T0
  have hcase : topD a < topD b ∨ topD b < topD a ∨ (topD a = topD b ∧ b.x < a.x) ∨ (topD a = topD b ∧ a.x < b.x) ∨ (topD a = topD b ∧ a.x = b.x) := by omega
  clear ha hb
  rcases hcase with h | h | ⟨h, hx⟩ | ⟨h, hx⟩ | ⟨h, hx⟩
  · have HE := Lib.hid (magC_lt h)
    generalize topD a = ta at *
    generalize topD b = tb at *
    go_enter Tryz.func85, Tryz.ntmps85
    go_wp2_with fail
    refine (KA.out _).mono ?_
    rintro e w1 ⟨rfl, hb⟩
    replace T0 := T0.step hb
    obtain ⟨p0, p1, p2, p3, p4, p5, p6⟩ := T0.2.1.facts
    obtain ⟨q0, q1, q2, q3, q4, q5, q6⟩ := T0.2.2.facts
    clear hb
    go_wp2_with fail
    refine (KB.out _).mono ?_
    rintro e w2 ⟨rfl, hb⟩
    replace T0 := T0.step hb
    clear hb p0 p1 p2 p3 p4 p5 p6 q0 q1 q2 q3 q4 q5 q6
    go_wp2_with fail
    go_ret
    exact ⟨by rw [HE.out]; rfl, T0.1⟩
  · have HE := Lib.hid (magC_gt h)
    generalize topD a = ta at *
    generalize topD b = tb at *
    go_enter Tryz.func85, Tryz.ntmps85
    go_wp2_with fail
    refine (KA.out _).mono ?_
    rintro e w1 ⟨rfl, hb⟩
    replace T0 := T0.step hb
    obtain ⟨p0, p1, p2, p3, p4, p5, p6⟩ := T0.2.1.facts
    obtain ⟨q0, q1, q2, q3, q4, q5, q6⟩ := T0.2.2.facts
    clear hb
    go_wp2_with fail
    refine (KB.out _).mono ?_
    rintro e w2 ⟨rfl, hb⟩
    replace T0 := T0.step hb
    clear hb p0 p1 p2 p3 p4 p5 p6 q0 q1 q2 q3 q4 q5 q6
    go_wp2_with fail
    go_ret
    exact ⟨by rw [HE.out]; rfl, T0.1⟩
  · obtain ⟨hf, hu, hv⟩ := up_fits HA.out HB.out h hx
    obtain ⟨j, hj⟩ : ∃ j, j = (a.x - b.x).toNat := ⟨_, rfl⟩
    rw [← hj] at hf hu
    have KS := Lib.hid (fun w => NShift_up a.n j w HA.out.1 (odd_ne HA.out.2.1) (by omega) hf)
    have KC : Hid (∀ w, Calls Tryz.prog 123 #[.string (natS (a.n * 2 ^ j)), .string (natS b.n)] w (IntPost (magC a b) 0 w)) := Lib.hid fun w => by
      rw [magC_eq h]
      rw [hu, hv]
      exact NCmp_c _ _ w hf HB.out.1
    have hjx : a.x - b.x = (j : Int) := by omega
    have hj0 : (0 : Int) < (j : Int) := by omega
    obtain ⟨z, hz⟩ : ∃ z, z = a.n * 2 ^ j := ⟨_, rfl⟩
    rw [← hz] at KS KC
    clear hf hu hv hj hx hz
    rw [h] at KA
    clear h
    generalize topD b = tb at *
    go_enter Tryz.func85, Tryz.ntmps85
    go_wp2_with fail
    refine (KA.out _).mono ?_
    rintro e w1 ⟨rfl, hb⟩
    replace T0 := T0.step hb
    obtain ⟨p0, p1, p2, p3, p4, p5, p6⟩ := T0.2.1.facts
    obtain ⟨q0, q1, q2, q3, q4, q5, q6⟩ := T0.2.2.facts
    clear hb
    go_wp2_with fail
    refine (KB.out _).mono ?_
    rintro e w2 ⟨rfl, hb⟩
    replace T0 := T0.step hb
    clear hb p0 p1 p2 p3 p4 p5 p6 q0 q1 q2 q3 q4 q5 q6
    obtain ⟨p0, p1, p2, p3, p4, p5, p6⟩ := T0.2.1.facts
    obtain ⟨q0, q1, q2, q3, q4, q5, q6⟩ := T0.2.2.facts
    go_wp2_with fail
    go_quiet (fail)
    rename_i nq
    replace T0 := T0.drawn nq
    generalize w2.drewN nq = w3 at *
    clear p0 p1 p2 p3 p4 p5 p6 q0 q1 q2 q3 q4 q5 q6
    obtain ⟨p0, p1, p2, p3, p4, p5, p6⟩ := T0.2.1.facts
    obtain ⟨q0, q1, q2, q3, q4, q5, q6⟩ := T0.2.2.facts
    go_wp2_with (first
      | (go_at_call 115; refine (KS.out _).mono ?_; rintro e w4 ⟨rfl, hb⟩; replace T0 := T0.step hb; clear hb)
      | (go_at_call 123; refine (KC.out _).mono ?_; rintro e w5 ⟨rfl, hb⟩; replace T0 := T0.step hb; clear hb))
    go_ret
    exact ⟨rfl, T0.1⟩
  · obtain ⟨hf, hu, hv⟩ := up_fits HB.out HA.out h.symm hx
    obtain ⟨j, hj⟩ : ∃ j, j = (b.x - a.x).toNat := ⟨_, rfl⟩
    rw [← hj] at hf hu
    have KS := Lib.hid (fun w => NShift_up b.n j w HB.out.1 (odd_ne HB.out.2.1) (by omega) hf)
    have KC : Hid (∀ w, Calls Tryz.prog 123 #[.string (natS a.n), .string (natS (b.n * 2 ^ j))] w (IntPost (magC a b) 0 w)) := Lib.hid fun w => by
      rw [magC_eq h]
      rw [hv, hu]
      exact NCmp_c _ _ w HA.out.1 hf
    have hjx : b.x - a.x = (j : Int) := by omega
    have hj0 : (0 : Int) < (j : Int) := by omega
    obtain ⟨z, hz⟩ : ∃ z, z = b.n * 2 ^ j := ⟨_, rfl⟩
    rw [← hz] at KS KC
    have hjn : a.x - b.x = -(j : Int) := by omega
    have hjm : ¬ (0 : Int) < -(j : Int) := by omega
    clear hf hu hv hj hx hz hjx
    rw [h] at KA
    clear h
    generalize topD b = tb at *
    go_enter Tryz.func85, Tryz.ntmps85
    go_wp2_with fail
    refine (KA.out _).mono ?_
    rintro e w1 ⟨rfl, hb⟩
    replace T0 := T0.step hb
    obtain ⟨p0, p1, p2, p3, p4, p5, p6⟩ := T0.2.1.facts
    obtain ⟨q0, q1, q2, q3, q4, q5, q6⟩ := T0.2.2.facts
    clear hb
    go_wp2_with fail
    refine (KB.out _).mono ?_
    rintro e w2 ⟨rfl, hb⟩
    replace T0 := T0.step hb
    clear hb p0 p1 p2 p3 p4 p5 p6 q0 q1 q2 q3 q4 q5 q6
    obtain ⟨p0, p1, p2, p3, p4, p5, p6⟩ := T0.2.1.facts
    obtain ⟨q0, q1, q2, q3, q4, q5, q6⟩ := T0.2.2.facts
    go_wp2_with fail
    go_quiet (fail)
    rename_i nq
    replace T0 := T0.drawn nq
    generalize w2.drewN nq = w3 at *
    clear p0 p1 p2 p3 p4 p5 p6 q0 q1 q2 q3 q4 q5 q6
    obtain ⟨p0, p1, p2, p3, p4, p5, p6⟩ := T0.2.1.facts
    obtain ⟨q0, q1, q2, q3, q4, q5, q6⟩ := T0.2.2.facts
    go_wp2_with (first
      | (go_at_call 115; refine (KS.out _).mono ?_; rintro e w4 ⟨rfl, hb⟩; replace T0 := T0.step hb; clear hb)
      | (go_at_call 123; refine (KC.out _).mono ?_; rintro e w5 ⟨rfl, hb⟩; replace T0 := T0.step hb; clear hb))
    go_ret
    exact ⟨rfl, T0.1⟩
  · have KS := Lib.hid (fun w => NShift_stay b.n w HB.out.1 (odd_ne HB.out.2.1))
    have KC : Hid (∀ w, Calls Tryz.prog 123 #[.string (natS a.n), .string (natS b.n)] w (IntPost (magC a b) 0 w)) := Lib.hid fun w => by
      rw [magC_eq h, upN_eq, upN_eq, show (a.x - b.x).toNat = 0 by omega, show (b.x - a.x).toNat = 0 by omega, Nat.pow_zero, Nat.mul_one, Nat.mul_one]
      exact NCmp_c _ _ w HA.out.1 HB.out.1
    have hjn : a.x - b.x = 0 := by omega
    rw [h] at KA
    clear h hx
    generalize topD b = tb at *
    go_enter Tryz.func85, Tryz.ntmps85
    go_wp2_with fail
    refine (KA.out _).mono ?_
    rintro e w1 ⟨rfl, hb⟩
    replace T0 := T0.step hb
    obtain ⟨p0, p1, p2, p3, p4, p5, p6⟩ := T0.2.1.facts
    obtain ⟨q0, q1, q2, q3, q4, q5, q6⟩ := T0.2.2.facts
    clear hb
    go_wp2_with fail
    refine (KB.out _).mono ?_
    rintro e w2 ⟨rfl, hb⟩
    replace T0 := T0.step hb
    clear hb p0 p1 p2 p3 p4 p5 p6 q0 q1 q2 q3 q4 q5 q6
    obtain ⟨p0, p1, p2, p3, p4, p5, p6⟩ := T0.2.1.facts
    obtain ⟨q0, q1, q2, q3, q4, q5, q6⟩ := T0.2.2.facts
    go_wp2_with fail
    go_quiet (fail)
    rename_i nq
    replace T0 := T0.drawn nq
    generalize w2.drewN nq = w3 at *
    clear p0 p1 p2 p3 p4 p5 p6 q0 q1 q2 q3 q4 q5 q6
    obtain ⟨p0, p1, p2, p3, p4, p5, p6⟩ := T0.2.1.facts
    obtain ⟨q0, q1, q2, q3, q4, q5, q6⟩ := T0.2.2.facts
    go_wp2_with (first
      | (go_at_call 115; refine (KS.out _).mono ?_; rintro e w4 ⟨rfl, hb⟩; replace T0 := T0.step hb; clear hb)
      | (go_at_call 123; refine (KC.out _).mono ?_; rintro e w5 ⟨rfl, hb⟩; replace T0 := T0.step hb; clear hb))
    go_ret
    exact ⟨rfl, T0.1⟩
end Go.Proofs.YtmjjodficjjehaaGreatDoor
namespace Go.Proofs.YtmjjodficjjehaaGreatDoor
open Go Go.RowKit Nt
@[irreducible] def sgD (d : Dy) : Int := if d.n = 0 then 0 else sgnI d.g
theorem sgD_zero : sgD Dy.zero = 0 := by unfold sgD Dy.zero; rfl
theorem sgD_num {d : Dy} (h : d.n ≠ 0) : sgD d = sgnI d.g := by unfold sgD; rw [if_neg h]
theorem sgD_ne {d : Dy} (h : d.n ≠ 0) : sgD d ≠ 0 := by rw [sgD_num h]; exact sgn_ne2 d.g
theorem Dy.num_of {d : Dy} (h : d.Ok) (hs : sgD d ≠ 0) : d.Num := by
  rcases h with rfl | h
  · exact absurd sgD_zero hs
  · exact h
theorem Dy.zero_of {d : Dy} (h : d.Ok) (hs : sgD d = 0) : d = Dy.zero := by
  rcases h with rfl | h
  · rfl
  · exact absurd hs (sgD_ne (odd_ne h.2.1))
theorem sgD_b (d : Dy) : sgD d = -1 ∨ sgD d = 0 ∨ sgD d = 1 := by
  unfold sgD
  by_cases h : d.n = 0
  · rw [if_pos h]; exact Or.inr (Or.inl rfl)
  · rw [if_neg h]
    cases d.g
    · exact Or.inr (Or.inr sgn_f)
    · exact Or.inl sgn_t
theorem Dy.ok_t {d : Dy} (h : d.Ok) : d.t.Ok := by
  rcases h with rfl | h
  · exact Or.inl ⟨natS_zero, rfl, rfl⟩
  · exact Dy.t_ok h
theorem Dy.small {d : Dy} (h : d.Ok) : (natS d.n).size ≤ 16384 := Dt.small (Dy.ok_t h)
theorem DSign_c (d : Dy) (h : d.Ok) (w : World) : Calls Tryz.prog 84 #[.agg #[.bool d.g, .string (natS d.n), .int .i64 d.x]] w fun e w' => e = .returned (.int .i64 (sgD d)) ∧ Below w.heap.size w w' := by
  rcases h with rfl | h
  · rw [sgD_zero]
    show Calls _ _ #[.agg #[.bool false, .string (natS 0), .int .i64 0]] _ _
    rw [natS_zero]; exact DSign_zero w
  · rw [sgD_num (odd_ne h.2.1)]
    exact DSign_num d.g d.n d.x w h.1 h.2.1 h.2.2.1 h.2.2.2
@[irreducible] def cmpD (a b : Dy) : Int := if sgD a < sgD b then -1 else if sgD b < sgD a then 1 else if sgD a = 0 then 0 else sgD a * magC a b
theorem cmpD_lt {a b : Dy} (h : sgD a < sgD b) : cmpD a b = -1 := by unfold cmpD; rw [if_pos h]
theorem cmpD_gt {a b : Dy} (h : sgD b < sgD a) : cmpD a b = 1 := by unfold cmpD; rw [if_neg (by omega), if_pos h]
theorem cmpD_zero {a b : Dy} (h : sgD a = sgD b) (h0 : sgD a = 0) : cmpD a b = 0 := by unfold cmpD; rw [if_neg (by omega), if_neg (by omega), if_pos h0]
theorem cmpD_eq {a b : Dy} (h : sgD a = sgD b) (h0 : sgD a ≠ 0) : cmpD a b = sgD a * magC a b := by unfold cmpD; rw [if_neg (by omega), if_neg (by omega), if_neg h0]
theorem cmpD_self (a : Dy) : cmpD a a = 0 := by
  by_cases h : sgD a = 0
  · exact cmpD_zero rfl h
  · rw [cmpD_eq rfl h, magC_eq rfl, cmpN_eq, Int.mul_zero]
theorem magC_b (a b : Dy) : magC a b = -1 ∨ magC a b = 0 ∨ magC a b = 1 := by
  unfold magC cmpN
  split
  · exact Or.inl rfl
  · split
    · exact Or.inr (Or.inr rfl)
    · split
      · exact Or.inl rfl
      · split
        · exact Or.inr (Or.inl rfl)
        · exact Or.inr (Or.inr rfl)
theorem dts2 (W : World) (a b : Dt) (T : TypeId) : Dts (W.alloc (.cells #[.bool a.g, .string a.s, .int .i64 a.x, .bool b.g, .string b.s, .int .i64 b.x] T)) (some ⟨W.heap.size, 0, none⟩) [a, b] := fun _ => by
  refine ⟨_, rfl, by simp, fun j hj => ?_⟩
  have hc : ∀ o, (W.alloc (.cells #[.bool a.g, .string a.s, .int .i64 a.x, .bool b.g, .string b.s, .int .i64 b.x] T)).cell? ⟨W.heap.size, o, none⟩ = #[.bool a.g, .string a.s, .int .i64 a.x, .bool b.g, .string b.s, .int .i64 b.x][o]? := fun o => (Blk.new W T _).cell o
  have hj2 : j = 0 ∨ j = 1 := by simp at hj; omega
  rcases hj2 with rfl | rfl
  · refine ⟨?_, ?_, ?_⟩
    · rw [Nat.zero_mul, add_plain0, hc]; rfl
    · rw [Nat.zero_mul, add_plain0, hc]; rfl
    · rw [Nat.zero_mul, add_plain0, hc]; rfl
  · refine ⟨?_, ?_, ?_⟩
    · rw [Nat.one_mul, add_plain0, hc]; rfl
    · rw [Nat.one_mul, add_plain0, hc]; rfl
    · rw [Nat.one_mul, add_plain0, hc]; rfl
theorem Dall2 (a b : Dt) (W : World) (T : TypeId) (A : Nat) (hA : A = W.heap.size) (ha : a.s.size ≤ 9223372036854775807) (hb : b.s.size ≤ 9223372036854775807) :
    Calls Tryz.prog 83 #[.slice (some ⟨A, 0, none⟩) 2 2] (W.alloc (.cells #[.bool a.g, .string a.s, .int .i64 a.x, .bool b.g, .string b.s, .int .i64 b.x] T)) fun e w' => e = .returned (.int .i64 (dE [a, b])) ∧ Below (W.alloc (.cells #[.bool a.g, .string a.s, .int .i64 a.x, .bool b.g, .string b.s, .int .i64 b.x] T)).heap.size (W.alloc (.cells #[.bool a.g, .string a.s, .int .i64 a.x, .bool b.g, .string b.s, .int .i64 b.x] T)) w' := by
  subst hA
  exact Dall_c _ 2 [a, b] _ (by simp) (fun t ht => by
    rcases List.mem_cons.1 ht with rfl | ht
    · exact ha
    · rw [List.mem_singleton.1 ht]; exact hb) (dts2 W a b T)
set_option maxRecDepth 100000 in
set_option maxHeartbeats 2000000 in
theorem DCmp_same (a : Dy) (w : World) (ha : a.Ok) :
    Calls Tryz.prog 46 #[.agg #[.bool a.g, .string (natS a.n), .int .i64 a.x], .agg #[.bool a.g, .string (natS a.n), .int .i64 a.x]] w fun e w' => e = .returned (.tuple #[.int .i64 (cmpD a a), .int .i64 0]) ∧ Below w.heap.size w w' := by
  have he : dE [a.t, a.t] = 0 := dE_ok fun t ht => by
    rcases List.mem_cons.1 ht with rfl | ht
    · exact Dy.ok_t ha
    · rw [List.mem_singleton.1 ht]; exact Dy.ok_t ha
  have KA := Lib.hid (fun W T A hA => Dall2 a.t a.t W T A hA (by have := Dy.small ha; show (natS a.n).size ≤ _; omega) (by have := Dy.small ha; show (natS a.n).size ≤ _; omega))
  rw [he] at KA
  have T0 := TB.start w a.t a.t
  unfold Dy.t at T0 KA
  have HC := Lib.hid (cmpD_self a)
  clear he
  go_enter Tryz.func46, Tryz.ntmps46
  go_wp2_with fail
  refine (KA.out _ _ _ (by simp)).mono ?_
  rintro e w1 ⟨rfl, hb⟩
  replace T0 := (T0.more _).step hb
  clear hb
  obtain ⟨p0, p1, p2, p3, p4, p5, p6⟩ := T0.2.1.facts
  obtain ⟨q0, q1, q2, q3, q4, q5, q6⟩ := T0.2.2.facts
  go_wp2_with fail
  go_ret2
  exact ⟨by rw [HC.out]; rfl, T0.1⟩
theorem ne_toList {m n : Nat} (h : m ≠ n) : ¬ (natS m).toList = (natS n).toList := fun c => h ((natS_list_eq m n).1 c)
theorem sm_wrap {s m : Int} (hs : s = -1 ∨ s = 0 ∨ s = 1) (hm : m = -1 ∨ m = 0 ∨ m = 1) : wrap64 (s * m) = s * m := by
  rcases hs with rfl | rfl | rfl <;> rcases hm with rfl | rfl | rfl <;> exact IntWalk.wrap64_in _ (by decide)
set_option maxRecDepth 100000 in
set_option maxHeartbeats 2000000 in
theorem DCmp_walk (g1 g2 : Bool) (n1 n2 : Nat) (x1 x2 s t m : Int) (w : World)
    (KA : Hid (∀ (W : World) (T : TypeId) (A : Nat), A = W.heap.size → Calls Tryz.prog 83 #[.slice (some ⟨A, 0, none⟩) 2 2] (W.alloc (.cells #[.bool g1, .string (natS n1), .int .i64 x1, .bool g2, .string (natS n2), .int .i64 x2] T)) fun e w' => e = .returned (.int .i64 0) ∧ Below (W.alloc (.cells #[.bool g1, .string (natS n1), .int .i64 x1, .bool g2, .string (natS n2), .int .i64 x2] T)).heap.size (W.alloc (.cells #[.bool g1, .string (natS n1), .int .i64 x1, .bool g2, .string (natS n2), .int .i64 x2] T)) w'))
    (SA : Hid (∀ w, Calls Tryz.prog 84 #[.agg #[.bool g1, .string (natS n1), .int .i64 x1]] w fun e w' => e = .returned (.int .i64 s) ∧ Below w.heap.size w w'))
    (SB : Hid (∀ w, Calls Tryz.prog 84 #[.agg #[.bool g2, .string (natS n2), .int .i64 x2]] w fun e w' => e = .returned (.int .i64 t) ∧ Below w.heap.size w w'))
    (KM : Hid (s = t → ∀ w, Calls Tryz.prog 85 #[.agg #[.bool g1, .string (natS n1), .int .i64 x1], .agg #[.bool g2, .string (natS n2), .int .i64 x2]] w fun e w' => e = .returned (.int .i64 m) ∧ Below w.heap.size w w'))
    (hsm : wrap64 (s * m) = s * m) (hne : ¬ g1 = g2 ∨ (g1 = g2 ∧ n1 ≠ n2) ∨ (g1 = g2 ∧ n1 = n2 ∧ ¬ x1 = x2)) :
    Calls Tryz.prog 46 #[.agg #[.bool g1, .string (natS n1), .int .i64 x1], .agg #[.bool g2, .string (natS n2), .int .i64 x2]] w fun e w' => e = .returned (.tuple #[.int .i64 (if s < t then -1 else if t < s then 1 else s * m), .int .i64 0]) ∧ Below w.heap.size w w' := by
  have T0 := TB.start w ⟨g1, natS n1, x1⟩ ⟨g2, natS n2, x2⟩
  have HSM := Lib.hid hsm
  clear hsm
  have go : ∀ (r : Int), (s < t ∧ r = -1) ∨ (¬ s < t ∧ t < s ∧ r = 1) ∨ (s = t ∧ r = s * m) → Calls Tryz.prog 46 #[.agg #[.bool g1, .string (natS n1), .int .i64 x1], .agg #[.bool g2, .string (natS n2), .int .i64 x2]] w fun e w' => e = .returned (.tuple #[.int .i64 r, .int .i64 0]) ∧ Below w.heap.size w w' := by
    intro r hr
    rcases hne with hg | ⟨hg, hn⟩ | ⟨hg, hn, hx⟩
    · skip
      rcases hr with ⟨h1, rfl⟩ | ⟨h0, h1, rfl⟩ | ⟨rfl, rfl⟩
      · go_enter Tryz.func46, Tryz.ntmps46
        go_wp2_with fail
        refine (KA.out _ _ _ (by simp)).mono ?_
        rintro e w1 ⟨rfl, hb⟩
        replace T0 := (T0.more _).step hb
        clear hb
        obtain ⟨p0, p1, p2, p3, p4, p5, p6⟩ := T0.2.1.facts
        obtain ⟨q0, q1, q2, q3, q4, q5, q6⟩ := T0.2.2.facts
        go_wp2_with fail
        clear p0 p1 p2 p3 p4 p5 p6 q0 q1 q2 q3 q4 q5 q6
        have L0 := fun W (h : TB w ⟨g1, natS n1, x1⟩ ⟨g2, natS n2, x2⟩ W) => h.2.1.facts.2.1
        have L1 := fun W (h : TB w ⟨g1, natS n1, x1⟩ ⟨g2, natS n2, x2⟩ W) => h.2.1.facts.2.2.1
        have L2 := fun W (h : TB w ⟨g1, natS n1, x1⟩ ⟨g2, natS n2, x2⟩ W) => h.2.1.facts.2.2.2.1
        have L3 := fun W (h : TB w ⟨g1, natS n1, x1⟩ ⟨g2, natS n2, x2⟩ W) => h.2.2.facts.2.1
        have L4 := fun W (h : TB w ⟨g1, natS n1, x1⟩ ⟨g2, natS n2, x2⟩ W) => h.2.2.facts.2.2.1
        have L5 := fun W (h : TB w ⟨g1, natS n1, x1⟩ ⟨g2, natS n2, x2⟩ W) => h.2.2.facts.2.2.2.1
        go_region_held3 (TB w ⟨g1, natS n1, x1⟩ ⟨g2, natS n2, x2⟩) (first | assumption | exact TB.step (by assumption) (by assumption) | exact TB.drew (by assumption) | exact TB.drawn (by assumption) _)
          (first
            | (go_at_call 84; with_reducible refine (SA.out _).mono ?_; rintro e w' ⟨rfl, hb7⟩)
            | (go_at_call 84; with_reducible refine (SB.out _).mono ?_; rintro e w' ⟨rfl, hb7⟩))
        rename_i hHeld
        clear T0 L0 L1 L2 L3 L4 L5
        obtain ⟨p0, p1, p2, p3, p4, p5, p6⟩ := hHeld.2.1.facts
        obtain ⟨q0, q1, q2, q3, q4, q5, q6⟩ := hHeld.2.2.facts
        go_wp2_with fail
        go_ret2
        exact ⟨rfl, hHeld.1⟩
      · go_enter Tryz.func46, Tryz.ntmps46
        go_wp2_with fail
        refine (KA.out _ _ _ (by simp)).mono ?_
        rintro e w1 ⟨rfl, hb⟩
        replace T0 := (T0.more _).step hb
        clear hb
        obtain ⟨p0, p1, p2, p3, p4, p5, p6⟩ := T0.2.1.facts
        obtain ⟨q0, q1, q2, q3, q4, q5, q6⟩ := T0.2.2.facts
        go_wp2_with fail
        clear p0 p1 p2 p3 p4 p5 p6 q0 q1 q2 q3 q4 q5 q6
        have L0 := fun W (h : TB w ⟨g1, natS n1, x1⟩ ⟨g2, natS n2, x2⟩ W) => h.2.1.facts.2.1
        have L1 := fun W (h : TB w ⟨g1, natS n1, x1⟩ ⟨g2, natS n2, x2⟩ W) => h.2.1.facts.2.2.1
        have L2 := fun W (h : TB w ⟨g1, natS n1, x1⟩ ⟨g2, natS n2, x2⟩ W) => h.2.1.facts.2.2.2.1
        have L3 := fun W (h : TB w ⟨g1, natS n1, x1⟩ ⟨g2, natS n2, x2⟩ W) => h.2.2.facts.2.1
        have L4 := fun W (h : TB w ⟨g1, natS n1, x1⟩ ⟨g2, natS n2, x2⟩ W) => h.2.2.facts.2.2.1
        have L5 := fun W (h : TB w ⟨g1, natS n1, x1⟩ ⟨g2, natS n2, x2⟩ W) => h.2.2.facts.2.2.2.1
        go_region_held3 (TB w ⟨g1, natS n1, x1⟩ ⟨g2, natS n2, x2⟩) (first | assumption | exact TB.step (by assumption) (by assumption) | exact TB.drew (by assumption) | exact TB.drawn (by assumption) _)
          (first
            | (go_at_call 84; with_reducible refine (SA.out _).mono ?_; rintro e w' ⟨rfl, hb7⟩)
            | (go_at_call 84; with_reducible refine (SB.out _).mono ?_; rintro e w' ⟨rfl, hb7⟩))
        rename_i hHeld
        clear T0 L0 L1 L2 L3 L4 L5
        obtain ⟨p0, p1, p2, p3, p4, p5, p6⟩ := hHeld.2.1.facts
        obtain ⟨q0, q1, q2, q3, q4, q5, q6⟩ := hHeld.2.2.facts
        go_wp2_with fail
        go_ret2
        exact ⟨rfl, hHeld.1⟩
      · have KG := Lib.hid (KM.out rfl)
        go_enter Tryz.func46, Tryz.ntmps46
        go_wp2_with fail
        refine (KA.out _ _ _ (by simp)).mono ?_
        rintro e w1 ⟨rfl, hb⟩
        replace T0 := (T0.more _).step hb
        clear hb
        obtain ⟨p0, p1, p2, p3, p4, p5, p6⟩ := T0.2.1.facts
        obtain ⟨q0, q1, q2, q3, q4, q5, q6⟩ := T0.2.2.facts
        go_wp2_with fail
        clear p0 p1 p2 p3 p4 p5 p6 q0 q1 q2 q3 q4 q5 q6
        have L0 := fun W (h : TB w ⟨g1, natS n1, x1⟩ ⟨g2, natS n2, x2⟩ W) => h.2.1.facts.2.1
        have L1 := fun W (h : TB w ⟨g1, natS n1, x1⟩ ⟨g2, natS n2, x2⟩ W) => h.2.1.facts.2.2.1
        have L2 := fun W (h : TB w ⟨g1, natS n1, x1⟩ ⟨g2, natS n2, x2⟩ W) => h.2.1.facts.2.2.2.1
        have L3 := fun W (h : TB w ⟨g1, natS n1, x1⟩ ⟨g2, natS n2, x2⟩ W) => h.2.2.facts.2.1
        have L4 := fun W (h : TB w ⟨g1, natS n1, x1⟩ ⟨g2, natS n2, x2⟩ W) => h.2.2.facts.2.2.1
        have L5 := fun W (h : TB w ⟨g1, natS n1, x1⟩ ⟨g2, natS n2, x2⟩ W) => h.2.2.facts.2.2.2.1
        go_region_held3 (TB w ⟨g1, natS n1, x1⟩ ⟨g2, natS n2, x2⟩) (first | assumption | exact TB.step (by assumption) (by assumption) | exact TB.drew (by assumption) | exact TB.drawn (by assumption) _)
          (first
            | (go_at_call 84; with_reducible refine (SA.out _).mono ?_; rintro e w' ⟨rfl, hb7⟩)
            | (go_at_call 84; with_reducible refine (SB.out _).mono ?_; rintro e w' ⟨rfl, hb7⟩))
        rename_i hHeld
        clear T0 L0 L1 L2 L3 L4 L5
        obtain ⟨p0, p1, p2, p3, p4, p5, p6⟩ := hHeld.2.1.facts
        obtain ⟨q0, q1, q2, q3, q4, q5, q6⟩ := hHeld.2.2.facts
        go_wp2_with fail
        refine (KG.out _).mono ?_
        rintro e w2 ⟨rfl, hb⟩
        go_wp2_with fail
        go_ret2
        refine ⟨?_, (hHeld.step hb).1⟩
        show Ending.returned (.tuple #[.int .i64 (wrap64 (s * m)), .int .i64 0]) = _
        rw [HSM.out]
    · subst hg
      have hl := ne_toList hn
      rcases hr with ⟨h1, rfl⟩ | ⟨h0, h1, rfl⟩ | ⟨rfl, rfl⟩
      · go_enter Tryz.func46, Tryz.ntmps46
        go_wp2_with fail
        refine (KA.out _ _ _ (by simp)).mono ?_
        rintro e w1 ⟨rfl, hb⟩
        replace T0 := (T0.more _).step hb
        clear hb
        obtain ⟨p0, p1, p2, p3, p4, p5, p6⟩ := T0.2.1.facts
        obtain ⟨q0, q1, q2, q3, q4, q5, q6⟩ := T0.2.2.facts
        go_wp2_with fail
        clear p0 p1 p2 p3 p4 p5 p6 q0 q1 q2 q3 q4 q5 q6
        have L0 := fun W (h : TB w ⟨g1, natS n1, x1⟩ ⟨g1, natS n2, x2⟩ W) => h.2.1.facts.2.1
        have L1 := fun W (h : TB w ⟨g1, natS n1, x1⟩ ⟨g1, natS n2, x2⟩ W) => h.2.1.facts.2.2.1
        have L2 := fun W (h : TB w ⟨g1, natS n1, x1⟩ ⟨g1, natS n2, x2⟩ W) => h.2.1.facts.2.2.2.1
        have L3 := fun W (h : TB w ⟨g1, natS n1, x1⟩ ⟨g1, natS n2, x2⟩ W) => h.2.2.facts.2.1
        have L4 := fun W (h : TB w ⟨g1, natS n1, x1⟩ ⟨g1, natS n2, x2⟩ W) => h.2.2.facts.2.2.1
        have L5 := fun W (h : TB w ⟨g1, natS n1, x1⟩ ⟨g1, natS n2, x2⟩ W) => h.2.2.facts.2.2.2.1
        go_region_held3 (TB w ⟨g1, natS n1, x1⟩ ⟨g1, natS n2, x2⟩) (first | assumption | exact TB.step (by assumption) (by assumption) | exact TB.drew (by assumption) | exact TB.drawn (by assumption) _)
          (first
            | (go_at_call 84; with_reducible refine (SA.out _).mono ?_; rintro e w' ⟨rfl, hb7⟩)
            | (go_at_call 84; with_reducible refine (SB.out _).mono ?_; rintro e w' ⟨rfl, hb7⟩))
        rename_i hHeld
        clear T0 L0 L1 L2 L3 L4 L5
        obtain ⟨p0, p1, p2, p3, p4, p5, p6⟩ := hHeld.2.1.facts
        obtain ⟨q0, q1, q2, q3, q4, q5, q6⟩ := hHeld.2.2.facts
        go_wp2_with fail
        go_ret2
        exact ⟨rfl, hHeld.1⟩
      · go_enter Tryz.func46, Tryz.ntmps46
        go_wp2_with fail
        refine (KA.out _ _ _ (by simp)).mono ?_
        rintro e w1 ⟨rfl, hb⟩
        replace T0 := (T0.more _).step hb
        clear hb
        obtain ⟨p0, p1, p2, p3, p4, p5, p6⟩ := T0.2.1.facts
        obtain ⟨q0, q1, q2, q3, q4, q5, q6⟩ := T0.2.2.facts
        go_wp2_with fail
        clear p0 p1 p2 p3 p4 p5 p6 q0 q1 q2 q3 q4 q5 q6
        have L0 := fun W (h : TB w ⟨g1, natS n1, x1⟩ ⟨g1, natS n2, x2⟩ W) => h.2.1.facts.2.1
        have L1 := fun W (h : TB w ⟨g1, natS n1, x1⟩ ⟨g1, natS n2, x2⟩ W) => h.2.1.facts.2.2.1
        have L2 := fun W (h : TB w ⟨g1, natS n1, x1⟩ ⟨g1, natS n2, x2⟩ W) => h.2.1.facts.2.2.2.1
        have L3 := fun W (h : TB w ⟨g1, natS n1, x1⟩ ⟨g1, natS n2, x2⟩ W) => h.2.2.facts.2.1
        have L4 := fun W (h : TB w ⟨g1, natS n1, x1⟩ ⟨g1, natS n2, x2⟩ W) => h.2.2.facts.2.2.1
        have L5 := fun W (h : TB w ⟨g1, natS n1, x1⟩ ⟨g1, natS n2, x2⟩ W) => h.2.2.facts.2.2.2.1
        go_region_held3 (TB w ⟨g1, natS n1, x1⟩ ⟨g1, natS n2, x2⟩) (first | assumption | exact TB.step (by assumption) (by assumption) | exact TB.drew (by assumption) | exact TB.drawn (by assumption) _)
          (first
            | (go_at_call 84; with_reducible refine (SA.out _).mono ?_; rintro e w' ⟨rfl, hb7⟩)
            | (go_at_call 84; with_reducible refine (SB.out _).mono ?_; rintro e w' ⟨rfl, hb7⟩))
        rename_i hHeld
        clear T0 L0 L1 L2 L3 L4 L5
        obtain ⟨p0, p1, p2, p3, p4, p5, p6⟩ := hHeld.2.1.facts
        obtain ⟨q0, q1, q2, q3, q4, q5, q6⟩ := hHeld.2.2.facts
        go_wp2_with fail
        go_ret2
        exact ⟨rfl, hHeld.1⟩
      · have KG := Lib.hid (KM.out rfl)
        go_enter Tryz.func46, Tryz.ntmps46
        go_wp2_with fail
        refine (KA.out _ _ _ (by simp)).mono ?_
        rintro e w1 ⟨rfl, hb⟩
        replace T0 := (T0.more _).step hb
        clear hb
        obtain ⟨p0, p1, p2, p3, p4, p5, p6⟩ := T0.2.1.facts
        obtain ⟨q0, q1, q2, q3, q4, q5, q6⟩ := T0.2.2.facts
        go_wp2_with fail
        clear p0 p1 p2 p3 p4 p5 p6 q0 q1 q2 q3 q4 q5 q6
        have L0 := fun W (h : TB w ⟨g1, natS n1, x1⟩ ⟨g1, natS n2, x2⟩ W) => h.2.1.facts.2.1
        have L1 := fun W (h : TB w ⟨g1, natS n1, x1⟩ ⟨g1, natS n2, x2⟩ W) => h.2.1.facts.2.2.1
        have L2 := fun W (h : TB w ⟨g1, natS n1, x1⟩ ⟨g1, natS n2, x2⟩ W) => h.2.1.facts.2.2.2.1
        have L3 := fun W (h : TB w ⟨g1, natS n1, x1⟩ ⟨g1, natS n2, x2⟩ W) => h.2.2.facts.2.1
        have L4 := fun W (h : TB w ⟨g1, natS n1, x1⟩ ⟨g1, natS n2, x2⟩ W) => h.2.2.facts.2.2.1
        have L5 := fun W (h : TB w ⟨g1, natS n1, x1⟩ ⟨g1, natS n2, x2⟩ W) => h.2.2.facts.2.2.2.1
        go_region_held3 (TB w ⟨g1, natS n1, x1⟩ ⟨g1, natS n2, x2⟩) (first | assumption | exact TB.step (by assumption) (by assumption) | exact TB.drew (by assumption) | exact TB.drawn (by assumption) _)
          (first
            | (go_at_call 84; with_reducible refine (SA.out _).mono ?_; rintro e w' ⟨rfl, hb7⟩)
            | (go_at_call 84; with_reducible refine (SB.out _).mono ?_; rintro e w' ⟨rfl, hb7⟩))
        rename_i hHeld
        clear T0 L0 L1 L2 L3 L4 L5
        obtain ⟨p0, p1, p2, p3, p4, p5, p6⟩ := hHeld.2.1.facts
        obtain ⟨q0, q1, q2, q3, q4, q5, q6⟩ := hHeld.2.2.facts
        go_wp2_with fail
        refine (KG.out _).mono ?_
        rintro e w2 ⟨rfl, hb⟩
        go_wp2_with fail
        go_ret2
        refine ⟨?_, (hHeld.step hb).1⟩
        show Ending.returned (.tuple #[.int .i64 (wrap64 (s * m)), .int .i64 0]) = _
        rw [HSM.out]
    · subst hg hn
      rcases hr with ⟨h1, rfl⟩ | ⟨h0, h1, rfl⟩ | ⟨rfl, rfl⟩
      · go_enter Tryz.func46, Tryz.ntmps46
        go_wp2_with fail
        refine (KA.out _ _ _ (by simp)).mono ?_
        rintro e w1 ⟨rfl, hb⟩
        replace T0 := (T0.more _).step hb
        clear hb
        obtain ⟨p0, p1, p2, p3, p4, p5, p6⟩ := T0.2.1.facts
        obtain ⟨q0, q1, q2, q3, q4, q5, q6⟩ := T0.2.2.facts
        go_wp2_with fail
        clear p0 p1 p2 p3 p4 p5 p6 q0 q1 q2 q3 q4 q5 q6
        have L0 := fun W (h : TB w ⟨g1, natS n1, x1⟩ ⟨g1, natS n1, x2⟩ W) => h.2.1.facts.2.1
        have L1 := fun W (h : TB w ⟨g1, natS n1, x1⟩ ⟨g1, natS n1, x2⟩ W) => h.2.1.facts.2.2.1
        have L2 := fun W (h : TB w ⟨g1, natS n1, x1⟩ ⟨g1, natS n1, x2⟩ W) => h.2.1.facts.2.2.2.1
        have L3 := fun W (h : TB w ⟨g1, natS n1, x1⟩ ⟨g1, natS n1, x2⟩ W) => h.2.2.facts.2.1
        have L4 := fun W (h : TB w ⟨g1, natS n1, x1⟩ ⟨g1, natS n1, x2⟩ W) => h.2.2.facts.2.2.1
        have L5 := fun W (h : TB w ⟨g1, natS n1, x1⟩ ⟨g1, natS n1, x2⟩ W) => h.2.2.facts.2.2.2.1
        go_region_held3 (TB w ⟨g1, natS n1, x1⟩ ⟨g1, natS n1, x2⟩) (first | assumption | exact TB.step (by assumption) (by assumption) | exact TB.drew (by assumption) | exact TB.drawn (by assumption) _)
          (first
            | (go_at_call 84; with_reducible refine (SA.out _).mono ?_; rintro e w' ⟨rfl, hb7⟩)
            | (go_at_call 84; with_reducible refine (SB.out _).mono ?_; rintro e w' ⟨rfl, hb7⟩))
        rename_i hHeld
        clear T0 L0 L1 L2 L3 L4 L5
        obtain ⟨p0, p1, p2, p3, p4, p5, p6⟩ := hHeld.2.1.facts
        obtain ⟨q0, q1, q2, q3, q4, q5, q6⟩ := hHeld.2.2.facts
        go_wp2_with fail
        go_ret2
        exact ⟨rfl, hHeld.1⟩
      · go_enter Tryz.func46, Tryz.ntmps46
        go_wp2_with fail
        refine (KA.out _ _ _ (by simp)).mono ?_
        rintro e w1 ⟨rfl, hb⟩
        replace T0 := (T0.more _).step hb
        clear hb
        obtain ⟨p0, p1, p2, p3, p4, p5, p6⟩ := T0.2.1.facts
        obtain ⟨q0, q1, q2, q3, q4, q5, q6⟩ := T0.2.2.facts
        go_wp2_with fail
        clear p0 p1 p2 p3 p4 p5 p6 q0 q1 q2 q3 q4 q5 q6
        have L0 := fun W (h : TB w ⟨g1, natS n1, x1⟩ ⟨g1, natS n1, x2⟩ W) => h.2.1.facts.2.1
        have L1 := fun W (h : TB w ⟨g1, natS n1, x1⟩ ⟨g1, natS n1, x2⟩ W) => h.2.1.facts.2.2.1
        have L2 := fun W (h : TB w ⟨g1, natS n1, x1⟩ ⟨g1, natS n1, x2⟩ W) => h.2.1.facts.2.2.2.1
        have L3 := fun W (h : TB w ⟨g1, natS n1, x1⟩ ⟨g1, natS n1, x2⟩ W) => h.2.2.facts.2.1
        have L4 := fun W (h : TB w ⟨g1, natS n1, x1⟩ ⟨g1, natS n1, x2⟩ W) => h.2.2.facts.2.2.1
        have L5 := fun W (h : TB w ⟨g1, natS n1, x1⟩ ⟨g1, natS n1, x2⟩ W) => h.2.2.facts.2.2.2.1
        go_region_held3 (TB w ⟨g1, natS n1, x1⟩ ⟨g1, natS n1, x2⟩) (first | assumption | exact TB.step (by assumption) (by assumption) | exact TB.drew (by assumption) | exact TB.drawn (by assumption) _)
          (first
            | (go_at_call 84; with_reducible refine (SA.out _).mono ?_; rintro e w' ⟨rfl, hb7⟩)
            | (go_at_call 84; with_reducible refine (SB.out _).mono ?_; rintro e w' ⟨rfl, hb7⟩))
        rename_i hHeld
        clear T0 L0 L1 L2 L3 L4 L5
        obtain ⟨p0, p1, p2, p3, p4, p5, p6⟩ := hHeld.2.1.facts
        obtain ⟨q0, q1, q2, q3, q4, q5, q6⟩ := hHeld.2.2.facts
        go_wp2_with fail
        go_ret2
        exact ⟨rfl, hHeld.1⟩
      · have KG := Lib.hid (KM.out rfl)
        go_enter Tryz.func46, Tryz.ntmps46
        go_wp2_with fail
        refine (KA.out _ _ _ (by simp)).mono ?_
        rintro e w1 ⟨rfl, hb⟩
        replace T0 := (T0.more _).step hb
        clear hb
        obtain ⟨p0, p1, p2, p3, p4, p5, p6⟩ := T0.2.1.facts
        obtain ⟨q0, q1, q2, q3, q4, q5, q6⟩ := T0.2.2.facts
        go_wp2_with fail
        clear p0 p1 p2 p3 p4 p5 p6 q0 q1 q2 q3 q4 q5 q6
        have L0 := fun W (h : TB w ⟨g1, natS n1, x1⟩ ⟨g1, natS n1, x2⟩ W) => h.2.1.facts.2.1
        have L1 := fun W (h : TB w ⟨g1, natS n1, x1⟩ ⟨g1, natS n1, x2⟩ W) => h.2.1.facts.2.2.1
        have L2 := fun W (h : TB w ⟨g1, natS n1, x1⟩ ⟨g1, natS n1, x2⟩ W) => h.2.1.facts.2.2.2.1
        have L3 := fun W (h : TB w ⟨g1, natS n1, x1⟩ ⟨g1, natS n1, x2⟩ W) => h.2.2.facts.2.1
        have L4 := fun W (h : TB w ⟨g1, natS n1, x1⟩ ⟨g1, natS n1, x2⟩ W) => h.2.2.facts.2.2.1
        have L5 := fun W (h : TB w ⟨g1, natS n1, x1⟩ ⟨g1, natS n1, x2⟩ W) => h.2.2.facts.2.2.2.1
        go_region_held3 (TB w ⟨g1, natS n1, x1⟩ ⟨g1, natS n1, x2⟩) (first | assumption | exact TB.step (by assumption) (by assumption) | exact TB.drew (by assumption) | exact TB.drawn (by assumption) _)
          (first
            | (go_at_call 84; with_reducible refine (SA.out _).mono ?_; rintro e w' ⟨rfl, hb7⟩)
            | (go_at_call 84; with_reducible refine (SB.out _).mono ?_; rintro e w' ⟨rfl, hb7⟩))
        rename_i hHeld
        clear T0 L0 L1 L2 L3 L4 L5
        obtain ⟨p0, p1, p2, p3, p4, p5, p6⟩ := hHeld.2.1.facts
        obtain ⟨q0, q1, q2, q3, q4, q5, q6⟩ := hHeld.2.2.facts
        go_wp2_with fail
        refine (KG.out _).mono ?_
        rintro e w2 ⟨rfl, hb⟩
        go_wp2_with fail
        go_ret2
        refine ⟨?_, (hHeld.step hb).1⟩
        show Ending.returned (.tuple #[.int .i64 (wrap64 (s * m)), .int .i64 0]) = _
        rw [HSM.out]
  by_cases h1 : s < t
  · rw [if_pos h1]; exact go _ (Or.inl ⟨h1, rfl⟩)
  · rw [if_neg h1]
    by_cases h2 : t < s
    · rw [if_pos h2]; exact go _ (Or.inr (Or.inl ⟨h1, h2, rfl⟩))
    · rw [if_neg h2]; exact go _ (Or.inr (Or.inr ⟨by omega, rfl⟩))
theorem DCmp_c (a b : Dy) (w : World) (ha : a.Ok) (hb : b.Ok) :
    Calls Tryz.prog 46 #[.agg #[.bool a.g, .string (natS a.n), .int .i64 a.x], .agg #[.bool b.g, .string (natS b.n), .int .i64 b.x]] w fun e w' => e = .returned (.tuple #[.int .i64 (cmpD a b), .int .i64 0]) ∧ Below w.heap.size w w' := by
  by_cases hab : a = b
  · subst hab; exact DCmp_same a w ha
  · have he : dE [a.t, b.t] = 0 := dE_ok fun t ht => by
      rcases List.mem_cons.1 ht with rfl | ht
      · exact Dy.ok_t ha
      · rw [List.mem_singleton.1 ht]; exact Dy.ok_t hb
    have KA := Lib.hid (fun W T A hA => Dall2 a.t b.t W T A hA (by have := Dy.small ha; show (natS a.n).size ≤ _; omega) (by have := Dy.small hb; show (natS b.n).size ≤ _; omega))
    rw [he] at KA
    have hsb := sgD_b a
    have hmb := magC_b a b
    have hdis : ¬ a.g = b.g ∨ (a.g = b.g ∧ a.n ≠ b.n) ∨ (a.g = b.g ∧ a.n = b.n ∧ ¬ a.x = b.x) := by
      by_cases h1 : a.g = b.g
      · by_cases h2 : a.n = b.n
        · refine Or.inr (Or.inr ⟨h1, h2, fun h3 => hab ?_⟩)
          obtain ⟨g, n, x⟩ := a
          obtain ⟨g', n', x'⟩ := b
          simp only at h1 h2 h3
          rw [h1, h2, h3]
        · exact Or.inr (Or.inl ⟨h1, h2⟩)
      · exact Or.inl h1
    have K := DCmp_walk a.g b.g a.n b.n a.x b.x (sgD a) (sgD b) (if sgD a = 0 then 0 else magC a b) w KA (Lib.hid fun w => DSign_c a ha w) (Lib.hid fun w => DSign_c b hb w)
      (Lib.hid fun h w => by
        by_cases h0 : sgD a = 0
        · exfalso
          apply hab
          rw [Dy.zero_of ha h0, Dy.zero_of hb (h ▸ h0)]
        · rw [if_neg h0]
          exact Dmag_c a b w (Dy.num_of ha h0) (Dy.num_of hb (h ▸ h0)))
      (sm_wrap hsb (by split <;> omega)) hdis
    have e : (if sgD a < sgD b then -1 else if sgD b < sgD a then 1 else sgD a * (if sgD a = 0 then 0 else magC a b)) = cmpD a b := by
      by_cases h1 : sgD a < sgD b
      · rw [if_pos h1, cmpD_lt h1]
      · rw [if_neg h1]
        by_cases h2 : sgD b < sgD a
        · rw [if_pos h2, cmpD_gt h2]
        · rw [if_neg h2]
          by_cases h3 : sgD a = 0
          · rw [if_pos h3, h3, Int.mul_zero, cmpD_zero (by omega) h3]
          · rw [if_neg h3, cmpD_eq (by omega) h3]
    rw [e] at K
    exact K
end Go.Proofs.YtmjjodficjjehaaGreatDoor
namespace Go.Proofs.YtmjjodficjjehaaGreatDoor
open Go Go.RowKit Nt
theorem rSignD3_c (d : Dy) (h : d.Ok) (w : World) : Calls Tryz.prog 63 #[.agg #[.bool d.g, .string (natS d.n), .int .i64 d.x]] w fun e w' => e = .returned (.int .i64 (sgD d)) ∧ Below w.heap.size w w' := by
  rcases h with rfl | h
  · rw [sgD_zero]
    show Calls _ _ #[.agg #[.bool false, .string (natS 0), .int .i64 0]] _ _
    rw [natS_zero]; exact rSign3_zero w
  · rw [sgD_num (odd_ne h.2.1)]
    exact rSign3_num d.g d.n d.x w (odd_ne h.2.1)
theorem rCmpD3_sgn (a b : Dy) (w : World) (ha : a.Ok) (hb : b.Ok) (r : Int) (hr : (sgD a < sgD b ∧ r = -1) ∨ (¬ sgD a < sgD b ∧ sgD b < sgD a ∧ r = 1) ∨ (sgD a = 0 ∧ sgD b = 0 ∧ r = 0)) :
    Calls Tryz.prog 30 #[.agg #[.bool a.g, .string (natS a.n), .int .i64 a.x], .agg #[.bool b.g, .string (natS b.n), .int .i64 b.x]] w fun e w' => e = .returned (.int .i64 r) ∧ Below w.heap.size w w' := by
  have T0 := TB.start w a.t b.t
  have SA := Lib.hid (fun w => rSignD3_c a ha w)
  have SB := Lib.hid (fun w => rSignD3_c b hb w)
  have hr2 : (((sgD a : Int) != sgD b) = true ∧ ((sgD a < sgD b ∧ r = -1) ∨ (¬ sgD a < sgD b ∧ sgD b < sgD a ∧ r = 1))) ∨ (sgD a = 0 ∧ sgD b = 0 ∧ r = 0) := by
    rcases hr with ⟨h1, h2⟩ | ⟨h1, h2, h3⟩ | h
    · exact Or.inl ⟨by rw [bne_iff_ne]; omega, Or.inl ⟨h1, h2⟩⟩
    · exact Or.inl ⟨by rw [bne_iff_ne]; omega, Or.inr ⟨h1, h2, h3⟩⟩
    · exact Or.inr h
  clear hr ha hb
  obtain ⟨g1, n1, x1⟩ := a
  obtain ⟨g2, n2, x2⟩ := b
  simp only [Dy.t] at T0 SA SB ⊢
  generalize sgD ⟨g1, n1, x1⟩ = s at *
  generalize sgD ⟨g2, n2, x2⟩ = t at *
  rcases hr2 with ⟨h0, ⟨h1, rfl⟩ | ⟨h1, h2, rfl⟩⟩ | ⟨rfl, rfl, rfl⟩
  all_goals
    go_enter Tryz.func30, Tryz.ntmps30
    go_wp2_with fail
    have L0 := fun W (h : TB w ⟨g1, natS n1, x1⟩ ⟨g2, natS n2, x2⟩ W) => h.2.1.facts.2.1
    have L1 := fun W (h : TB w ⟨g1, natS n1, x1⟩ ⟨g2, natS n2, x2⟩ W) => h.2.1.facts.2.2.1
    have L2 := fun W (h : TB w ⟨g1, natS n1, x1⟩ ⟨g2, natS n2, x2⟩ W) => h.2.1.facts.2.2.2.1
    have L3 := fun W (h : TB w ⟨g1, natS n1, x1⟩ ⟨g2, natS n2, x2⟩ W) => h.2.2.facts.2.1
    have L4 := fun W (h : TB w ⟨g1, natS n1, x1⟩ ⟨g2, natS n2, x2⟩ W) => h.2.2.facts.2.2.1
    have L5 := fun W (h : TB w ⟨g1, natS n1, x1⟩ ⟨g2, natS n2, x2⟩ W) => h.2.2.facts.2.2.2.1
    go_region_held3 (TB w ⟨g1, natS n1, x1⟩ ⟨g2, natS n2, x2⟩) (first | assumption | exact TB.step (by assumption) (by assumption) | exact TB.drew (by assumption) | exact TB.drawn (by assumption) _)
      (first
        | (go_at_call 63; with_reducible refine (SA.out _).mono ?_; rintro e w' ⟨rfl, hb7⟩)
        | (go_at_call 63; with_reducible refine (SB.out _).mono ?_; rintro e w' ⟨rfl, hb7⟩))
    rename_i hHeld
    clear T0 L0 L1 L2 L3 L4 L5
    go_wp2_with fail
    go_ret
    exact ⟨rfl, hHeld.1⟩
theorem neg_sgn {s : Int} (h : s = -1 ∨ s = 0 ∨ s = 1) : wrap64 (-s) = -s := by rcases h with rfl | rfl | rfl <;> exact IntWalk.wrap64_in _ (by decide)
set_option maxRecDepth 100000 in
set_option maxHeartbeats 2000000 in
theorem rCmpD3_num (a b : Dy) (w : World) (ha : a.Num) (hb : b.Num) (hs : sgD a = sgD b) :
    Calls Tryz.prog 30 #[.agg #[.bool a.g, .string (natS a.n), .int .i64 a.x], .agg #[.bool b.g, .string (natS b.n), .int .i64 b.x]] w fun e w' => e = .returned (.int .i64 (sgD a * magC a b)) ∧ Below w.heap.size w w' := by
  have hna := odd_ne ha.2.1
  have hnb := odd_ne hb.2.1
  have T0 := TB.start w a.t b.t
  have SA := Lib.hid (fun w => rSignD3_c a (Or.inr ha) w)
  have SB := Lib.hid (fun w => rSignD3_c b (Or.inr hb) w)
  rw [← hs] at SB
  have hs0 := sgD_ne hna
  have hs1 : ((sgD a : Int) == 0) = false := by rw [beq_eq_false_iff_ne]; exact hs0
  have KA := Lib.hid (fun w => rTop3_num a.g a.n a.x w ha.1 hna ha.2.2.1 ha.2.2.2)
  have KB := Lib.hid (fun w => rTop3_num b.g b.n b.x w hb.1 hnb hb.2.2.1 hb.2.2.2)
  rw [← topD_eq] at KA KB
  have HSB := Lib.hid (neg_sgn (sgD_b a))
  have HSM := Lib.hid (sm_wrap (sgD_b a) (magC_b a b))
  have hfa : nd 256 a.n ≤ 16384 := ha.1
  have hfb : nd 256 b.n ≤ 16384 := hb.1
  have KO := Lib.hid (fun w => rOf3_c a.n w (by omega))
  have KP := Lib.hid (fun w => rOf3_c b.n w (by omega))
  have hxa := ha.2.2
  have hxb := hb.2.2
  have hcase : (topD a < topD b ∧ Hid (magC a b = -1)) ∨ (¬ topD a < topD b ∧ topD b < topD a ∧ Hid (magC a b = 1)) ∨
      (topD a = topD b ∧ ∃ j : Nat, j ≤ 2097152 ∧ b.x < a.x ∧ a.x - b.x = (j : Int) ∧ Hid (fits (a.n * 2 ^ j) ∧ magC a b = cmpN (a.n * 2 ^ j) b.n)) ∨
      (topD a = topD b ∧ ∃ j : Nat, j ≤ 2097152 ∧ ¬ b.x < a.x ∧ b.x - a.x = (j : Int) ∧ Hid (fits (b.n * 2 ^ j) ∧ magC a b = cmpN a.n (b.n * 2 ^ j))) := by
    rcases Int.lt_trichotomy (topD a) (topD b) with h | h | h
    · exact Or.inl ⟨h, Lib.hid (magC_lt h)⟩
    · by_cases hx : b.x < a.x
      · obtain ⟨h1, h2, h3⟩ := up_fits ha hb h hx
        refine Or.inr (Or.inr (Or.inl ⟨h, (a.x - b.x).toNat, by omega, hx, by omega, Lib.hid ⟨h1, ?_⟩⟩))
        rw [magC_eq h, h2, h3]
      · refine Or.inr (Or.inr (Or.inr ⟨h, (b.x - a.x).toNat, by omega, hx, by omega, Lib.hid ?_⟩))
        by_cases hx2 : a.x < b.x
        · obtain ⟨h1, h2, h3⟩ := up_fits hb ha h.symm hx2
          exact ⟨h1, by rw [magC_eq h, h2, h3]⟩
        · have e1 : (b.x - a.x).toNat = 0 := by omega
          have e2 : (a.x - b.x).toNat = 0 := by omega
          rw [e1, Nat.pow_zero, Nat.mul_one, magC_eq h, upN_eq, upN_eq, e1, e2, Nat.pow_zero, Nat.mul_one, Nat.mul_one]
          exact ⟨hb.1, rfl⟩
    · exact Or.inr (Or.inl ⟨by omega, h, Lib.hid (magC_gt h)⟩)
  clear ha hb hs
  obtain ⟨g1, n1, x1⟩ := a
  obtain ⟨g2, n2, x2⟩ := b
  simp only [Dy.t] at T0 SA SB KA KB KO KP hcase hxa hxb hfa hfb HSM HSB ⊢
  generalize sgD ⟨g1, n1, x1⟩ = s at *
  generalize topD ⟨g1, n1, x1⟩ = ta at *
  generalize topD ⟨g2, n2, x2⟩ = tb at *
  generalize magC ⟨g1, n1, x1⟩ ⟨g2, n2, x2⟩ = mg at *
  clear hna hnb
  rcases hcase with ⟨h1, hm⟩ | ⟨h0, h1, hm⟩ | ⟨h1, j, hj, hx, hjx, hm⟩ | ⟨h1, j, hj, hx, hjx, hm⟩
  · have h2 : ((ta : Int) != tb) = true := by rw [bne_iff_ne]; omega
    go_enter Tryz.func30, Tryz.ntmps30
    go_wp2_with fail
    have L0 := fun W (h : TB w ⟨g1, natS n1, x1⟩ ⟨g2, natS n2, x2⟩ W) => h.2.1.facts.2.1
    have L1 := fun W (h : TB w ⟨g1, natS n1, x1⟩ ⟨g2, natS n2, x2⟩ W) => h.2.1.facts.2.2.1
    have L2 := fun W (h : TB w ⟨g1, natS n1, x1⟩ ⟨g2, natS n2, x2⟩ W) => h.2.1.facts.2.2.2.1
    have L3 := fun W (h : TB w ⟨g1, natS n1, x1⟩ ⟨g2, natS n2, x2⟩ W) => h.2.2.facts.2.1
    have L4 := fun W (h : TB w ⟨g1, natS n1, x1⟩ ⟨g2, natS n2, x2⟩ W) => h.2.2.facts.2.2.1
    have L5 := fun W (h : TB w ⟨g1, natS n1, x1⟩ ⟨g2, natS n2, x2⟩ W) => h.2.2.facts.2.2.2.1
    go_region_held3 (TB w ⟨g1, natS n1, x1⟩ ⟨g2, natS n2, x2⟩) (first | assumption | exact TB.step (by assumption) (by assumption) | exact TB.drew (by assumption) | exact TB.drawn (by assumption) _)
      (first
        | (go_at_call 63; with_reducible refine (SA.out _).mono ?_; rintro e w' ⟨rfl, hb7⟩)
        | (go_at_call 63; with_reducible refine (SB.out _).mono ?_; rintro e w' ⟨rfl, hb7⟩))
    rename_i hHeld
    clear T0 L0 L1 L2 L3 L4 L5
    have T0 := hHeld
    clear hHeld
    obtain ⟨p0, p1, p2, p3, p4, p5, p6⟩ := T0.2.1.facts
    obtain ⟨q0, q1, q2, q3, q4, q5, q6⟩ := T0.2.2.facts
    go_wp2_with fail
    refine (KA.out _).mono ?_
    rintro e w1 ⟨rfl, hb⟩
    replace T0 := T0.step hb
    clear hb p0 p1 p2 p3 p4 p5 p6 q0 q1 q2 q3 q4 q5 q6
    obtain ⟨p0, p1, p2, p3, p4, p5, p6⟩ := T0.2.1.facts
    obtain ⟨q0, q1, q2, q3, q4, q5, q6⟩ := T0.2.2.facts
    go_wp2_with fail
    refine (KB.out _).mono ?_
    rintro e w2 ⟨rfl, hb⟩
    replace T0 := T0.step hb
    clear hb p0 p1 p2 p3 p4 p5 p6 q0 q1 q2 q3 q4 q5 q6
    obtain ⟨p0, p1, p2, p3, p4, p5, p6⟩ := T0.2.1.facts
    obtain ⟨q0, q1, q2, q3, q4, q5, q6⟩ := T0.2.2.facts
    go_wp2_with fail
    go_ret
    refine ⟨?_, T0.1⟩
    show Ending.returned (.int .i64 (wrap64 (-s))) = _
    rw [HSB.out, hm.out, Int.mul_neg, Int.mul_one]
  · have h2 : ((ta : Int) != tb) = true := by rw [bne_iff_ne]; omega
    go_enter Tryz.func30, Tryz.ntmps30
    go_wp2_with fail
    have L0 := fun W (h : TB w ⟨g1, natS n1, x1⟩ ⟨g2, natS n2, x2⟩ W) => h.2.1.facts.2.1
    have L1 := fun W (h : TB w ⟨g1, natS n1, x1⟩ ⟨g2, natS n2, x2⟩ W) => h.2.1.facts.2.2.1
    have L2 := fun W (h : TB w ⟨g1, natS n1, x1⟩ ⟨g2, natS n2, x2⟩ W) => h.2.1.facts.2.2.2.1
    have L3 := fun W (h : TB w ⟨g1, natS n1, x1⟩ ⟨g2, natS n2, x2⟩ W) => h.2.2.facts.2.1
    have L4 := fun W (h : TB w ⟨g1, natS n1, x1⟩ ⟨g2, natS n2, x2⟩ W) => h.2.2.facts.2.2.1
    have L5 := fun W (h : TB w ⟨g1, natS n1, x1⟩ ⟨g2, natS n2, x2⟩ W) => h.2.2.facts.2.2.2.1
    go_region_held3 (TB w ⟨g1, natS n1, x1⟩ ⟨g2, natS n2, x2⟩) (first | assumption | exact TB.step (by assumption) (by assumption) | exact TB.drew (by assumption) | exact TB.drawn (by assumption) _)
      (first
        | (go_at_call 63; with_reducible refine (SA.out _).mono ?_; rintro e w' ⟨rfl, hb7⟩)
        | (go_at_call 63; with_reducible refine (SB.out _).mono ?_; rintro e w' ⟨rfl, hb7⟩))
    rename_i hHeld
    clear T0 L0 L1 L2 L3 L4 L5
    have T0 := hHeld
    clear hHeld
    obtain ⟨p0, p1, p2, p3, p4, p5, p6⟩ := T0.2.1.facts
    obtain ⟨q0, q1, q2, q3, q4, q5, q6⟩ := T0.2.2.facts
    go_wp2_with fail
    refine (KA.out _).mono ?_
    rintro e w1 ⟨rfl, hb⟩
    replace T0 := T0.step hb
    clear hb p0 p1 p2 p3 p4 p5 p6 q0 q1 q2 q3 q4 q5 q6
    obtain ⟨p0, p1, p2, p3, p4, p5, p6⟩ := T0.2.1.facts
    obtain ⟨q0, q1, q2, q3, q4, q5, q6⟩ := T0.2.2.facts
    go_wp2_with fail
    refine (KB.out _).mono ?_
    rintro e w2 ⟨rfl, hb⟩
    replace T0 := T0.step hb
    clear hb p0 p1 p2 p3 p4 p5 p6 q0 q1 q2 q3 q4 q5 q6
    obtain ⟨p0, p1, p2, p3, p4, p5, p6⟩ := T0.2.1.facts
    obtain ⟨q0, q1, q2, q3, q4, q5, q6⟩ := T0.2.2.facts
    go_wp2_with fail
    go_ret
    exact ⟨by rw [hm.out, Int.mul_one]; rfl, T0.1⟩
  · subst h1
    go_enter Tryz.func30, Tryz.ntmps30
    go_wp2_with fail
    have L0 := fun W (h : TB w ⟨g1, natS n1, x1⟩ ⟨g2, natS n2, x2⟩ W) => h.2.1.facts.2.1
    have L1 := fun W (h : TB w ⟨g1, natS n1, x1⟩ ⟨g2, natS n2, x2⟩ W) => h.2.1.facts.2.2.1
    have L2 := fun W (h : TB w ⟨g1, natS n1, x1⟩ ⟨g2, natS n2, x2⟩ W) => h.2.1.facts.2.2.2.1
    have L3 := fun W (h : TB w ⟨g1, natS n1, x1⟩ ⟨g2, natS n2, x2⟩ W) => h.2.2.facts.2.1
    have L4 := fun W (h : TB w ⟨g1, natS n1, x1⟩ ⟨g2, natS n2, x2⟩ W) => h.2.2.facts.2.2.1
    have L5 := fun W (h : TB w ⟨g1, natS n1, x1⟩ ⟨g2, natS n2, x2⟩ W) => h.2.2.facts.2.2.2.1
    go_region_held3 (TB w ⟨g1, natS n1, x1⟩ ⟨g2, natS n2, x2⟩) (first | assumption | exact TB.step (by assumption) (by assumption) | exact TB.drew (by assumption) | exact TB.drawn (by assumption) _)
      (first
        | (go_at_call 63; with_reducible refine (SA.out _).mono ?_; rintro e w' ⟨rfl, hb7⟩)
        | (go_at_call 63; with_reducible refine (SB.out _).mono ?_; rintro e w' ⟨rfl, hb7⟩))
    rename_i hHeld
    clear T0 L0 L1 L2 L3 L4 L5
    have T0 := hHeld
    clear hHeld
    obtain ⟨p0, p1, p2, p3, p4, p5, p6⟩ := T0.2.1.facts
    obtain ⟨q0, q1, q2, q3, q4, q5, q6⟩ := T0.2.2.facts
    go_wp2_with fail
    refine (KA.out _).mono ?_
    rintro e w1 ⟨rfl, hb⟩
    replace T0 := T0.step hb
    clear hb p0 p1 p2 p3 p4 p5 p6 q0 q1 q2 q3 q4 q5 q6
    obtain ⟨p0, p1, p2, p3, p4, p5, p6⟩ := T0.2.1.facts
    obtain ⟨q0, q1, q2, q3, q4, q5, q6⟩ := T0.2.2.facts
    go_wp2_with fail
    refine (KB.out _).mono ?_
    rintro e w2 ⟨rfl, hb⟩
    replace T0 := T0.step hb
    clear hb p0 p1 p2 p3 p4 p5 p6 q0 q1 q2 q3 q4 q5 q6
    obtain ⟨p0, p1, p2, p3, p4, p5, p6⟩ := T0.2.1.facts
    obtain ⟨q0, q1, q2, q3, q4, q5, q6⟩ := T0.2.2.facts
    go_wp2_with fail
    clear p0 p1 p2 p3 p4 p5 p6 q0 q1 q2 q3 q4 q5 q6
    have L0 := fun W (h : TB w ⟨g1, natS n1, x1⟩ ⟨g2, natS n2, x2⟩ W) => h.2.1.facts.2.1
    have L1 := fun W (h : TB w ⟨g1, natS n1, x1⟩ ⟨g2, natS n2, x2⟩ W) => h.2.1.facts.2.2.1
    have L2 := fun W (h : TB w ⟨g1, natS n1, x1⟩ ⟨g2, natS n2, x2⟩ W) => h.2.1.facts.2.2.2.1
    have L3 := fun W (h : TB w ⟨g1, natS n1, x1⟩ ⟨g2, natS n2, x2⟩ W) => h.2.2.facts.2.1
    have L4 := fun W (h : TB w ⟨g1, natS n1, x1⟩ ⟨g2, natS n2, x2⟩ W) => h.2.2.facts.2.2.1
    have L5 := fun W (h : TB w ⟨g1, natS n1, x1⟩ ⟨g2, natS n2, x2⟩ W) => h.2.2.facts.2.2.2.1
    go_region_held3 (TB w ⟨g1, natS n1, x1⟩ ⟨g2, natS n2, x2⟩) (first | assumption | exact TB.step (by assumption) (by assumption) | exact TB.drew (by assumption) | exact TB.drawn (by assumption) _)
      (first
        | (go_at_call 65; (with_reducible refine (KO.out _).mono ?_); rintro e wa ⟨v1, rfl, hown1, hb7⟩)
        | (go_at_call 65; (with_reducible refine (KP.out _).mono ?_); rintro e wb ⟨v2, rfl, hown2, hb8⟩))
    rename_i hHeld
    clear T0 L0 L1 L2 L3 L4 L5
    have T0 := hHeld
    clear hHeld
    have hown1 := hown1.whole hb8
    clear hb7 hb8
    obtain ⟨A1, c1, rfl, hc1⟩ := hown1.len
    obtain ⟨A2, c2, rfl, hc2⟩ := hown2.len
    rw [dl_length] at hown1 hown2 ⊢
    rw [dl_length]
    have KS := Lib.hid (rShifted3_c n1 j _ A1 c1 wb (by omega) (by omega) hown1)
    have HO := Lib.hid hown2
    clear hown1 hown2 hc1 hc2
    obtain ⟨p0, p1, p2, p3, p4, p5, p6⟩ := T0.2.1.facts
    obtain ⟨q0, q1, q2, q3, q4, q5, q6⟩ := T0.2.2.facts
    go_wp2_with fail
    refine KS.out.mono ?_
    rintro e w5 ⟨A3, c3, rfl, hown3, hb⟩
    replace T0 := T0.step hb
    have HO2 := Lib.hid (HO.out.whole hb)
    clear hb
    have hfz : nd 256 (n1 * 2 ^ j) ≤ 16384 := hm.out.1
    have KC := Lib.hid (rCmp3_c (n1 * 2 ^ j) n2 _ _ A3 A2 c3 c2 w5 (by omega) (by omega) hown3 HO2.out)
    rw [← hm.out.2] at KC
    clear hfz hown3
    generalize n1 * 2 ^ j = z at *
    go_wp2_with fail
    refine KC.out.mono ?_
    rintro e w6 ⟨rfl, nn, rfl⟩
    go_wp2_with fail
    go_ret
    refine ⟨?_, (T0.drawn nn).1⟩
    show Ending.returned (.int .i64 (wrap64 (s * mg))) = _
    rw [HSM.out]
  · subst h1
    go_enter Tryz.func30, Tryz.ntmps30
    go_wp2_with fail
    have L0 := fun W (h : TB w ⟨g1, natS n1, x1⟩ ⟨g2, natS n2, x2⟩ W) => h.2.1.facts.2.1
    have L1 := fun W (h : TB w ⟨g1, natS n1, x1⟩ ⟨g2, natS n2, x2⟩ W) => h.2.1.facts.2.2.1
    have L2 := fun W (h : TB w ⟨g1, natS n1, x1⟩ ⟨g2, natS n2, x2⟩ W) => h.2.1.facts.2.2.2.1
    have L3 := fun W (h : TB w ⟨g1, natS n1, x1⟩ ⟨g2, natS n2, x2⟩ W) => h.2.2.facts.2.1
    have L4 := fun W (h : TB w ⟨g1, natS n1, x1⟩ ⟨g2, natS n2, x2⟩ W) => h.2.2.facts.2.2.1
    have L5 := fun W (h : TB w ⟨g1, natS n1, x1⟩ ⟨g2, natS n2, x2⟩ W) => h.2.2.facts.2.2.2.1
    go_region_held3 (TB w ⟨g1, natS n1, x1⟩ ⟨g2, natS n2, x2⟩) (first | assumption | exact TB.step (by assumption) (by assumption) | exact TB.drew (by assumption) | exact TB.drawn (by assumption) _)
      (first
        | (go_at_call 63; with_reducible refine (SA.out _).mono ?_; rintro e w' ⟨rfl, hb7⟩)
        | (go_at_call 63; with_reducible refine (SB.out _).mono ?_; rintro e w' ⟨rfl, hb7⟩))
    rename_i hHeld
    clear T0 L0 L1 L2 L3 L4 L5
    have T0 := hHeld
    clear hHeld
    obtain ⟨p0, p1, p2, p3, p4, p5, p6⟩ := T0.2.1.facts
    obtain ⟨q0, q1, q2, q3, q4, q5, q6⟩ := T0.2.2.facts
    go_wp2_with fail
    refine (KA.out _).mono ?_
    rintro e w1 ⟨rfl, hb⟩
    replace T0 := T0.step hb
    clear hb p0 p1 p2 p3 p4 p5 p6 q0 q1 q2 q3 q4 q5 q6
    obtain ⟨p0, p1, p2, p3, p4, p5, p6⟩ := T0.2.1.facts
    obtain ⟨q0, q1, q2, q3, q4, q5, q6⟩ := T0.2.2.facts
    go_wp2_with fail
    refine (KB.out _).mono ?_
    rintro e w2 ⟨rfl, hb⟩
    replace T0 := T0.step hb
    clear hb p0 p1 p2 p3 p4 p5 p6 q0 q1 q2 q3 q4 q5 q6
    obtain ⟨p0, p1, p2, p3, p4, p5, p6⟩ := T0.2.1.facts
    obtain ⟨q0, q1, q2, q3, q4, q5, q6⟩ := T0.2.2.facts
    go_wp2_with fail
    clear p0 p1 p2 p3 p4 p5 p6 q0 q1 q2 q3 q4 q5 q6
    have L0 := fun W (h : TB w ⟨g1, natS n1, x1⟩ ⟨g2, natS n2, x2⟩ W) => h.2.1.facts.2.1
    have L1 := fun W (h : TB w ⟨g1, natS n1, x1⟩ ⟨g2, natS n2, x2⟩ W) => h.2.1.facts.2.2.1
    have L2 := fun W (h : TB w ⟨g1, natS n1, x1⟩ ⟨g2, natS n2, x2⟩ W) => h.2.1.facts.2.2.2.1
    have L3 := fun W (h : TB w ⟨g1, natS n1, x1⟩ ⟨g2, natS n2, x2⟩ W) => h.2.2.facts.2.1
    have L4 := fun W (h : TB w ⟨g1, natS n1, x1⟩ ⟨g2, natS n2, x2⟩ W) => h.2.2.facts.2.2.1
    have L5 := fun W (h : TB w ⟨g1, natS n1, x1⟩ ⟨g2, natS n2, x2⟩ W) => h.2.2.facts.2.2.2.1
    go_region_held3 (TB w ⟨g1, natS n1, x1⟩ ⟨g2, natS n2, x2⟩) (first | assumption | exact TB.step (by assumption) (by assumption) | exact TB.drew (by assumption) | exact TB.drawn (by assumption) _)
      (first
        | (go_at_call 65; (with_reducible refine (KO.out _).mono ?_); rintro e wa ⟨v1, rfl, hown1, hb7⟩)
        | (go_at_call 65; (with_reducible refine (KP.out _).mono ?_); rintro e wb ⟨v2, rfl, hown2, hb8⟩))
    rename_i hHeld
    clear T0 L0 L1 L2 L3 L4 L5
    have T0 := hHeld
    clear hHeld
    have hown1 := hown1.whole hb8
    clear hb7 hb8
    obtain ⟨A1, c1, rfl, hc1⟩ := hown1.len
    obtain ⟨A2, c2, rfl, hc2⟩ := hown2.len
    rw [dl_length] at hown1 hown2 ⊢
    rw [dl_length]
    have KS := Lib.hid (rShifted3_c n2 j _ A2 c2 wb (by omega) (by omega) hown2)
    have HO := Lib.hid hown1
    clear hown1 hown2 hc1 hc2
    obtain ⟨p0, p1, p2, p3, p4, p5, p6⟩ := T0.2.1.facts
    obtain ⟨q0, q1, q2, q3, q4, q5, q6⟩ := T0.2.2.facts
    go_wp2_with fail
    refine KS.out.mono ?_
    rintro e w5 ⟨A3, c3, rfl, hown3, hb⟩
    replace T0 := T0.step hb
    have HO2 := Lib.hid (HO.out.whole hb)
    clear hb
    have hfz : nd 256 (n2 * 2 ^ j) ≤ 16384 := hm.out.1
    have KC := Lib.hid (rCmp3_c n1 (n2 * 2 ^ j) _ _ A1 A3 c1 c3 w5 (by omega) (by omega) HO2.out hown3)
    rw [← hm.out.2] at KC
    clear hfz hown3
    generalize n2 * 2 ^ j = z at *
    go_wp2_with fail
    refine KC.out.mono ?_
    rintro e w6 ⟨rfl, nn, rfl⟩
    go_wp2_with fail
    go_ret
    refine ⟨?_, (T0.drawn nn).1⟩
    show Ending.returned (.int .i64 (wrap64 (s * mg))) = _
    rw [HSM.out]
theorem rCmpD3_c (a b : Dy) (w : World) (ha : a.Ok) (hb : b.Ok) :
    Calls Tryz.prog 30 #[.agg #[.bool a.g, .string (natS a.n), .int .i64 a.x], .agg #[.bool b.g, .string (natS b.n), .int .i64 b.x]] w fun e w' => e = .returned (.int .i64 (cmpD a b)) ∧ Below w.heap.size w w' := by
  rcases Int.lt_trichotomy (sgD a) (sgD b) with h | h | h
  · rw [cmpD_lt h]; exact rCmpD3_sgn a b w ha hb _ (Or.inl ⟨h, rfl⟩)
  · by_cases h0 : sgD a = 0
    · rw [cmpD_zero h h0]; exact rCmpD3_sgn a b w ha hb _ (Or.inr (Or.inr ⟨h0, h ▸ h0, rfl⟩))
    · rw [cmpD_eq h h0]; exact rCmpD3_num a b w (Dy.num_of ha h0) (Dy.num_of hb (h ▸ h0)) h
  · rw [cmpD_gt h]; exact rCmpD3_sgn a b w ha hb _ (Or.inr (Or.inl ⟨by omega, h, rfl⟩))
end Go.Proofs.YtmjjodficjjehaaGreatDoor
namespace Go.Proofs.YtmjjodficjjehaaGreatDoor
open Go Go.RowKit Nt
def OB (w : World) (a : Dt) (W : World) : Prop := Below w.heap.size w W ∧ Box3 W w.heap.size (.bool a.g) (.string a.s) (.int .i64 a.x)
theorem OB.start (w : World) (a : Dt) : OB w a (w.alloc (.cells #[.bool a.g, .string a.s, .int .i64 a.x] 24)) := ⟨(Below.refl _ _).alloc (Nat.le_refl _) _, Box3.new w _ _ _⟩
theorem OB.step {w : World} {a : Dt} {W W' : World} (h : OB w a W) (hb : Below W.heap.size W W') : OB w a W' := ⟨below_then h.1 hb, h.2.step hb⟩
theorem OB.more {w : World} {a : Dt} {W : World} (h : OB w a W) (o : Obj) : OB w a (W.alloc o) := h.step ((Below.refl _ _).alloc (Nat.le_refl _) _)
@[irreducible] def agR (d : Dy) (x : Nat) : Int := if Bt.Ff.isn x then 0 else if Bt.finB x = true then cmpD d (mkD (Bt.Ff.sgn x) (Bt.pm x) (Bt.pex x)) else if Bt.Ff.sgn x then 1 else -1
@[irreducible] def agE (x : Nat) : Int := if Bt.Ff.isn x then 5 else 0
theorem fin_isn {x : Nat} (h : Bt.finB x = true) : ¬ Bt.Ff.isn x := by have := (Bt.finB_true x).1 h; unfold Bt.Ff.isn; omega
theorem agR_inf {d : Dy} {x : Nat} (h : ¬ Bt.Ff.isn x) (hf : Bt.finB x = false) (b : Bool) (hs : Bt.Ff.sgn x = b) : agR d x = (if b = true then 1 else -1) ∧ agE x = 0 := by
  unfold agR agE; rw [if_neg h, if_neg h, hf, hs, if_neg (by decide)]; exact ⟨rfl, rfl⟩
theorem agR_fin {d : Dy} {x : Nat} (hf : Bt.finB x = true) : agR d x = cmpD d (mkD (Bt.Ff.sgn x) (Bt.pm x) (Bt.pex x)) ∧ agE x = 0 := by
  unfold agR agE; rw [if_neg (fin_isn hf), if_neg (fin_isn hf), if_pos hf]; exact ⟨rfl, rfl⟩
end Go.Proofs.YtmjjodficjjehaaGreatDoor
namespace Go.Proofs.YtmjjodficjjehaaGreatDoor
open Go Go.RowKit Nt
theorem rMayT_no (t : Dt) (w : World) (hs : t.s.size ≤ 9223372036854775807) (h : ¬ t.Ok) : Calls Tryz.prog 18 #[.agg #[.bool t.g, .string t.s, .int .i64 t.x]] w fun e w' => e = .returned (.bool false) ∧ Below w.heap.size w w' := rMay3_bad t.g t.s t.x w hs h
theorem rMayT_ok (d : Dy) (w : World) (h : d.Ok) : Calls Tryz.prog 18 #[.agg #[.bool d.g, .string (natS d.n), .int .i64 d.x]] w fun e w' => e = .returned (.bool true) ∧ Below w.heap.size w w' := by
  rcases h with rfl | h
  · show Calls _ _ #[.agg #[.bool false, .string (natS 0), .int .i64 0]] _ _
    rw [natS_zero]; exact rMay3_zero w
  · exact rMay3_num d.g d.n d.x w h.1 h.2.1 h.2.2.1 h.2.2.2
theorem Dt.dy {t : Dt} (h : t.Ok) : ∃ d : Dy, d.Ok ∧ t = d.t := by
  obtain ⟨d, h1, h2, h3, h4⟩ := DOk_dy h
  exact ⟨d, h1, by obtain ⟨g, s, x⟩ := t; simp only at h2 h3 h4; rw [h2, h3, h4]; rfl⟩
end Go.Proofs.YtmjjodficjjehaaGreatDoor
namespace Go.Proofs.YtmjjodficjjehaaGreatDoor
open Go Go.RowKit Nt
theorem low_word {n i : Nat} (hz : ∀ j, j < i → dgt W n j = 0) (hd : dgt W n i ≠ 0) : lowN n = 64 * i + Lib.ctz 64 (dgt W n i) := by
  have h0 : n % W ^ i = 0 := by
    have := mod_eq_of_digits (b := W) n 0 i (fun j hj => by rw [hz j hj, dgt_def, Nat.zero_div, Nat.zero_mod])
    rwa [Nat.zero_mod] at this
  have hdl : dgt W n i < 18446744073709551616 := wd_lt n i
  obtain ⟨t1, t2, t3⟩ := Bt.tz_spec (Nat.pos_of_ne_zero hd) hdl
  have e : Lib.ctz 64 (dgt W n i) = Bt.tz (dgt W n i) := rfl
  rw [e]
  have hm : n = W ^ i * (n / W ^ i) := by have := Nat.div_add_mod n (W ^ i); rw [h0] at this; omega
  have hd2 : n / W ^ i = dgt W n i + W * (n / W ^ i / W) := by
    rw [dgt_def]; have := Nat.mod_add_div (n / W ^ i) W; omega
  generalize dgt W n i = d at *
  generalize n / W ^ i / W = q at *
  generalize hmm : n / W ^ i = m at *
  clear hz h0 e hd hdl hmm
  have hp : W = 2 ^ Bt.tz d * 2 ^ (64 - Bt.tz d) := by rw [← Nat.pow_add, show Bt.tz d + (64 - Bt.tz d) = 64 by omega]; exact W_two
  refine (od_unique (o := Bt.od d + 2 ^ (64 - Bt.tz d) * q) ?_ ?_).1
  · rw [show 64 - Bt.tz d = (64 - Bt.tz d - 1) + 1 by omega, Nat.pow_succ]
    have : 2 ^ (64 - Bt.tz d - 1) * 2 * q = 2 * (2 ^ (64 - Bt.tz d - 1) * q) := by rw [Nat.mul_comm (2 ^ (64 - Bt.tz d - 1)) 2, Nat.mul_assoc]
    omega
  · rw [hm, hd2, Nat.pow_add, Nat.pow_mul, ← W_two, Nat.add_mul, ← Nat.mul_assoc, Nat.mul_comm (Bt.od d), Nat.mul_assoc (W ^ i), t1]
    rw [Nat.mul_add]
    congr 1
    rw [hp]
    simp only [Nat.mul_assoc, Nat.mul_comm, Nat.mul_left_comm]
set_option maxRecDepth 100000 in
set_option maxHeartbeats 1000000 in
theorem LLow_c (A : Option Addr) (c n B : Nat) (w : World) (hL : nd W n ≤ 1000000000) (hr : Row w B A n (nd W n)) (hT : Bt.Tabs w) :
    Calls Tryz.prog 132 #[.slice A (nd W n) c] w fun e w' => e = .returned (.int .i64 (lowN n : Nat)) ∧ w = w' := by
  obtain ⟨L, hLe⟩ : ∃ L, L = nd W n := ⟨_, rfl⟩
  have HT := Lib.hid hT.1
  have hn : n < W ^ nd W n := lt_nd W2
  rw [← hLe] at hL hr hn ⊢
  have HR := Lib.hid hr
  have HN := Lib.hid hn
  clear hr hLe hT hn
  go_enter Tryz.func132, Tryz.ntmps132
  go_wp2_with fail
  go_loop [7] (fun i => ∃ k : Nat, k ≤ L ∧ i = .int .i64 k ∧ Hid (∀ j, j < k → dgt W n j = 0)) (fun i => L - (intOf i).toNat)
  case atStart => exact ⟨0, Nat.zero_le _, rfl, Lib.hid (fun j h => by omega)⟩
  case round =>
    obtain ⟨k, hk, rfl, hz⟩ := hrel
    by_cases hlt : k < L
    · obtain ⟨g, rfl, hg, hc⟩ := HR.out.at_ hlt
      have hdl := wd_lt n k
      by_cases hd : dgt W n k = 0
      · rw [hd] at hc
        have HZ := Lib.hid (show ∀ j, j < k + 1 → dgt W n j = 0 from fun j hj => by
          rcases Nat.lt_or_ge j k with h | h
          · exact hz.out j h
          · obtain rfl : j = k := by omega
            exact hd)
        clear hd hdl
        go_wp2_with fail
        go_round
        case rel => exact ⟨k + 1, by omega, by go_num, HZ⟩
        case measure => simp [intOf]; omega
      · have hne : (((dgt W n k : Nat) : Int) != 0) = true := by rw [bne_iff_ne]; omega
        have HE := Lib.hid (low_word hz.out hd)
        have KT := Lib.hid (fun w hT => Tryz.bits_TrailingZeros64 (dgt W n k) hdl w hT)
        have hct : Lib.ctz 64 (dgt W n k) < 64 := (Bt.tz_spec (Nat.pos_of_ne_zero hd) hdl).2.2
        generalize dgt W n k = d at *
        generalize Lib.ctz 64 d = t at *
        clear hd hdl
        go_wp2_with fail
        refine (KT.out _ (fun _ => HT.out)).mono ?_
        rintro e w' ⟨rfl, rfl⟩
        go_wp2_with fail
        go_ret
        exact ⟨by rw [HE.out, Int.natCast_add, Int.natCast_mul]; rfl, rfl⟩
    · obtain rfl : k = L := by omega
      have h0 : lowN n = 0 := by
        have : n = 0 := eq_of_digits (b := W) (L := k) HN.out (Nat.pow_pos W0) (fun i hi => by rw [hz.out i hi, dgt_def, Nat.zero_div, Nat.zero_mod])
        rw [this, lowN_zero]
      have HZ := Lib.hid h0
      clear h0
      go_wp2_with fail
      go_ret
      exact ⟨by rw [HZ.out]; rfl, rfl⟩
end Go.Proofs.YtmjjodficjjehaaGreatDoor
namespace Go.Proofs.YtmjjodficjjehaaGreatDoor
open Go Go.RowKit Nt
theorem fit_shift (g : Bool) (n : Nat) (x : Int) : mkD g (odN n) (x + (lowN n : Int)) = mkD g n x ∧ mkE (odN n) (x + (lowN n : Int)) = mkE n x := by
  by_cases h0 : n = 0
  · subst h0; rw [odN_zero, mkD_zero, mkD_zero, mkE_zero, mkE_zero]; exact ⟨rfl, rfl⟩
  · have h := mkD_shift g (odN n) (lowN n) (x + (lowN n : Int))
    rw [← (odN_spec h0).2, show x + (lowN n : Int) - (lowN n : Int) = x by omega] at h
    exact ⟨h.1.symm, h.2.symm⟩
theorem nd2_W {n m : Nat} (h : nd W n ≤ m) : nd 2 n ≤ 64 * m := (nd_pow (b := 2) (c := W) (e := 64) (by omega) (by omega) W_two n m).2 h
theorem fit_bits {n : Nat} : (131072 < nd 2 n - lowN n) ↔ ¬ fits (odN n) := by
  by_cases h0 : n = 0
  · subst h0; rw [odN_zero, nd_zero]; exact ⟨fun c => by omega, fun c => absurd fits_zero c⟩
  · have h1 := nd_odN h0
    have h2 := bits_le (odN n) 16384
    unfold fits
    omega
theorem Row.allocd {w : World} {B : Nat} {A : Option Addr} {n L : Nat} (h : Row w B A n L) (hB : B ≤ w.heap.size) (b : Obj) : Row (w.alloc b) B A n L := h.below ((Below.refl _ _).alloc hB _)
set_option maxRecDepth 100000 in
set_option maxHeartbeats 1000000 in
theorem DFit_c (g : Bool) (n : Nat) (x : Int) (A : Option Addr) (c B : Nat) (w : World) (hn : nd W n ≤ 10000) (hx : -2000000 ≤ x ∧ x ≤ 2000000) (hr : Row w B A n (nd W n)) (hB : B ≤ w.heap.size) (hT : Bt.Tabs w) :
    Calls Tryz.prog 107 #[.bool g, .slice A (nd W n) c, .int .i64 x] w (MkPost g n x w) := by
  have hbits := nd2_W hn
  have hll : lowN n ≤ nd 2 n := by
    by_cases h0 : n = 0
    · rw [h0, lowN_zero]; omega
    · exact Nat.le_of_lt (low_lt h0 (lowN_is n))
  have hfb := @fit_bits n
  have K1 : Hid (∀ b, Calls Tryz.prog 132 #[.slice A (nd W n) c] (w.alloc b) fun e w' => e = .returned (.int .i64 (lowN n : Nat)) ∧ w.alloc b = w') := Lib.hid fun b => LLow_c A c n B _ (by omega) (hr.allocd hB b) (box_tabs hT)
  have K2 : Hid (∀ b, Calls Tryz.prog 133 #[.slice A (nd W n) c] (w.alloc b) fun e w' => e = .returned (.int .i64 (nd 2 n : Nat)) ∧ w.alloc b = w') := Lib.hid fun b => Len_c A c n B _ (by omega) (hr.allocd hB b)
  have K3 : Hid (∀ b, Calls Tryz.prog 135 #[.slice A (nd W n) c, .int .i64 (lowN n : Nat)] (w.alloc b) (NumPost (odN n) (w.alloc b))) := Lib.hid fun b => by
    have := Shr_c A c n (lowN n) B (w.alloc b) (by omega) (by omega) (hr.allocd hB b) (Nat.le_trans hB (by simp))
    unfold odN; exact this
  have hno : nd W (odN n) ≤ 10000 := Nat.le_trans (nd_mono W2 (odN_le n)) hn
  have K4 := Lib.hid (fun A' c' w' (hr' : Row w' w'.heap.size A' (odN n) (nd W (odN n))) => Bytes_c A' c' (odN n) w'.heap.size w' (by omega) hr' (Nat.le_refl _))
  have hfs := fit_shift g n x
  by_cases hfit : fits (odN n)
  · have KM : Hid (∀ w, Calls Tryz.prog 122 #[.bool g, .string (natS (odN n)), .int .i64 (x + (lowN n : Int))] w fun e w' => e = .returned (.tuple #[(mkD g n x).v, .int .i64 (mkE n x)]) ∧ Below w.heap.size w w') := Lib.hid fun w => by
      have := DMake_c g (odN n) (x + (lowN n : Int)) w hfit (by omega)
      unfold MkPost at this
      rw [hfs.1, hfs.2] at this
      exact this
    have h1 : ¬ (131072 : Int) < ((nd 2 n : Nat) : Int) - ((lowN n : Nat) : Int) := by
      have : ¬ 131072 < nd 2 n - lowN n := fun c => hfb.1 c hfit
      omega
    clear hfb hr hB hT hfit hfs
    clear hno hn
    unfold MkPost
    generalize mkD g n x = D at *
    generalize mkE n x = E at *
    go_enter Tryz.func107, Tryz.ntmps107
    go_wp2_with fail
    refine (K1.out _).mono ?_
    rintro e w' ⟨rfl, rfl⟩
    go_wp2_with fail
    refine (K2.out _).mono ?_
    rintro e w' ⟨rfl, rfl⟩
    go_wp2_with fail
    refine (K3.out _).mono ?_
    rintro e w1 hnp
    obtain ⟨A3, c3, rfl, hc3, hr3, hb3⟩ := hnp.get
    have HR3 := Lib.hid hr3
    clear hr3 hc3 hnp
    go_wp2_with fail
    refine (K4.out _ _ _ HR3.out).mono ?_
    rintro e w2 ⟨rfl, hb4⟩
    have hb := below_then hb3 hb4
    clear hb3 hb4
    go_wp2_with fail
    refine (KM.out _).mono ?_
    rintro e w3 ⟨rfl, hb5⟩
    have hb := below_then hb hb5
    obtain ⟨hcl, hfz⟩ := bcell hb
    have hsz := box1 hb
    clear hb5
    unfold Dy.v
    go_wp2_with fail
    refine bodyPost_ret (v := .tuple #[D.v, .int .i64 E]) (by simp [results, Tryz.results107, go_sem, hcl, hsz, Dy.v]) rfl ⟨rfl, ?_⟩
    repeat (refine Below.setCell ?_ (by simp) _)
    exact box_below hb
  · have hno2 : ¬ mkOk3 n x := by
      rintro (h | ⟨h, _⟩)
      · subst h; rw [odN_zero] at hfit; exact hfit fits_zero
      · exact hfit h
    have HNO := Lib.hid hno2
    have h1 : (131072 : Int) < ((nd 2 n : Nat) : Int) - ((lowN n : Nat) : Int) := by
      have := hfb.2 hfit
      omega
    clear hfb hr hB hT hfit hfs hno2
    clear hno hn
    go_enter Tryz.func107, Tryz.ntmps107
    go_wp2_with fail
    refine (K1.out _).mono ?_
    rintro e w' ⟨rfl, rfl⟩
    go_wp2_with fail
    refine (K2.out _).mono ?_
    rintro e w' ⟨rfl, rfl⟩
    go_wp2_with fail
    refine bodyPost_ret (v := .tuple #[.agg #[.bool false, .string ⟨#[]⟩, .int .i64 0], .int .i64 4]) (by simp [results, Tryz.results107, go_sem]) rfl (MkPost.no HNO.out rfl ?_)
    repeat (refine Below.setCell ?_ (by simp) _)
    exact (Below.refl _ _).alloc (Nat.le_refl _) _
end Go.Proofs.YtmjjodficjjehaaGreatDoor
namespace Go.Proofs.YtmjjodficjjehaaGreatDoor
open Go Go.RowKit Nt
def sgnd (g : Bool) (m : Nat) : Int := if g then -(m : Int) else (m : Int)
def sumG (g h : Bool) (X Y : Nat) : Bool := if g = h then g else if X < Y then h else g
def sumN (g h : Bool) (X Y : Nat) : Nat := if g = h then X + Y else if X < Y then Y - X else X - Y
theorem sum_abs (g h : Bool) (X Y : Nat) : (sgnd g X + sgnd h Y).natAbs = sumN g h X Y := by
  unfold sgnd sumN
  cases g <;> cases h <;> simp <;> (try split) <;> omega
theorem sum_sgn (g h : Bool) (X Y : Nat) (h0 : sumN g h X Y ≠ 0) : decide (sgnd g X + sgnd h Y < 0) = sumG g h X Y := by
  by_cases hl : X < Y <;> cases g <;> cases h <;> simp [sgnd, sumN, sumG, hl] at h0 ⊢ <;> omega
theorem sum_mk (g h : Bool) (X Y : Nat) (x : Int) : mkD (decide (sgnd g X + sgnd h Y < 0)) (sgnd g X + sgnd h Y).natAbs x = mkD (sumG g h X Y) (sumN g h X Y) x := by
  rw [sum_abs]
  by_cases h0 : sumN g h X Y = 0
  · rw [h0, mkD_zero, mkD_zero]
  · rw [sum_sgn g h X Y h0]
@[irreducible] def hiD (a b : Dy) : Dy := mkD (sumG a.g b.g (upN a b) b.n) (sumN a.g b.g (upN a b) b.n) b.x
@[irreducible] def hiE (a b : Dy) : Int := mkE (sumN a.g b.g (upN a b) b.n) b.x
theorem hiD_eq (a b : Dy) : hiD a b = mkD (sumG a.g b.g (upN a b) b.n) (sumN a.g b.g (upN a b) b.n) b.x := by unfold hiD; rfl
theorem hiE_eq (a b : Dy) : hiE a b = mkE (sumN a.g b.g (upN a b) b.n) b.x := by unfold hiE; rfl
@[irreducible] def addD (a b : Dy) : Dy := if a.n = 0 then b else if b.n = 0 then a else if a.x < b.x then hiD b a else hiD a b
@[irreducible] def addE (a b : Dy) : Int := if a.n = 0 then 0 else if b.n = 0 then 0 else if a.x < b.x then hiE b a else hiE a b
theorem add_zl {a b : Dy} (h : a.n = 0) : addD a b = b ∧ addE a b = 0 := by unfold addD addE; rw [if_pos h, if_pos h]; exact ⟨rfl, rfl⟩
theorem add_zr {a b : Dy} (h0 : a.n ≠ 0) (h : b.n = 0) : addD a b = a ∧ addE a b = 0 := by unfold addD addE; rw [if_neg h0, if_neg h0, if_pos h, if_pos h]; exact ⟨rfl, rfl⟩
theorem add_lt {a b : Dy} (h0 : a.n ≠ 0) (h1 : b.n ≠ 0) (h : a.x < b.x) : addD a b = hiD b a ∧ addE a b = hiE b a := by unfold addD addE; rw [if_neg h0, if_neg h0, if_neg h1, if_neg h1, if_pos h, if_pos h]; exact ⟨rfl, rfl⟩
theorem add_ge {a b : Dy} (h0 : a.n ≠ 0) (h1 : b.n ≠ 0) (h : ¬ a.x < b.x) : addD a b = hiD a b ∧ addE a b = hiE a b := by unfold addD addE; rw [if_neg h0, if_neg h0, if_neg h1, if_neg h1, if_neg h, if_neg h]; exact ⟨rfl, rfl⟩
theorem add_Ok {a b : Dy} (ha : a.Ok) (hb : b.Ok) : (addD a b).Ok := by
  unfold addD
  split
  · exact hb
  · split
    · exact ha
    · split
      · rw [hiD_eq]; exact mkD_Ok _ _ _
      · rw [hiD_eq]; exact mkD_Ok _ _ _
theorem sgnd_i64 {m : Nat} (h : m ≤ 9223372036854775807) : IntKind.i64.wrap (m : Int) = (m : Int) ∧ IntKind.i64.wrap (-(m : Int)) = -(m : Int) := ⟨IntWalk.i64_in _ (by omega), IntWalk.i64_in _ (by omega)⟩
set_option maxRecDepth 100000 in
theorem Dsigned_c (g : Bool) (m : Nat) (w : World) (hm : m ≤ 9223372036854775807) :
    Calls Tryz.prog 130 #[.bool g, .int .u64 (m : Nat)] w fun e w' => e = .returned (.int .i64 (sgnd g m)) ∧ w = w' := by
  obtain ⟨h1, h2⟩ := sgnd_i64 hm
  have h3 : wrap64 (m : Int) = (m : Int) := IntWalk.wrap64_in _ (by omega)
  have h4 : wrap64 (-(m : Int)) = -(m : Int) := IntWalk.wrap64_in _ (by omega)
  cases g
  · go_enter Tryz.func130, Tryz.ntmps130
    go_wp2
    go_ret
    exact ⟨rfl, rfl⟩
  · go_enter Tryz.func130, Tryz.ntmps130
    go_wp2
    go_ret
    exact ⟨rfl, rfl⟩
end Go.Proofs.YtmjjodficjjehaaGreatDoor
namespace Go.Proofs.YtmjjodficjjehaaGreatDoor
open Go Go.RowKit Nt
theorem len64_nd (m : Nat) (hm : m < 18446744073709551616) (w : World) : Calls Tryz.prog 129 #[.int .u64 (m : Nat)] w fun e w' => e = .returned (.int .i64 (nd 2 m : Nat)) ∧ w' = w := by
  have := Tryz.bits_Len64 (m : Int) w (by omega) (by omega)
  rw [Int.toNat_natCast, bitLen_nd hm] at this
  exact this
def BrPost (a b : Dy) (w : World) (e : Ending) (w' : World) : Prop := ∃ (D : Dy) (ok : Bool), e = .returned (.tuple #[.agg #[.bool D.g, .string (natS D.n), .int .i64 D.x], .bool ok]) ∧ (ok = true → D = hiD a b ∧ hiE a b = 0) ∧ Below w.heap.size w w'
theorem TB3 {w : World} {a b : Dt} {W w1 : World} {o : Obj} (h : TB w a b W) (hb : Below (W.alloc o).heap.size (W.alloc o) w1) : TB w a b w1 := (h.more o).step hb
theorem pow_lt62 {m j : Nat} (h : nd 2 m + j ≤ 62) : m * 2 ^ j < 4611686018427387904 := by
  have h1 : m < 2 ^ nd 2 m := lt_nd (by omega)
  have h2 : m * 2 ^ j < 2 ^ nd 2 m * 2 ^ j := Nat.mul_lt_mul_of_pos_right h1 (Nat.two_pow_pos j)
  rw [← Nat.pow_add] at h2
  exact Nat.lt_of_lt_of_le h2 (Nat.le_trans (Nat.pow_le_pow_right (by omega) h) (by decide))
theorem lt62 {m : Nat} (h : nd 2 m ≤ 62) : m < 4611686018427387904 := by
  have := pow_lt62 (m := m) (j := 0) (by omega)
  rwa [Nat.pow_zero, Nat.mul_one] at this
set_option maxRecDepth 100000 in
set_option maxHeartbeats 2000000 in
theorem Dbrief_no (a b : Dy) (j : Nat) (w : World) (ha : a.Num) (hb : b.Num) (hj : j ≤ 3000000) (hno : brB a.n = false ∨ (brB a.n = true ∧ brB b.n = false) ∨ (brB a.n = true ∧ brB b.n = true ∧ 62 < j) ∨ (brB a.n = true ∧ brB b.n = true ∧ ¬ 62 < j ∧ 62 < nd 2 a.n + j) ∨ (brB a.n = true ∧ brB b.n = true ∧ ¬ 62 < j ∧ ¬ 62 < nd 2 a.n + j ∧ 62 < nd 2 b.n)) :
    Calls Tryz.prog 104 #[.agg #[.bool a.g, .string (natS a.n), .int .i64 a.x], .agg #[.bool b.g, .string (natS b.n), .int .i64 b.x], .int .i64 (j : Nat)] w (BrPost a b w) := by
  have KA := Lib.hid (fun w => Small_c a.n w ha.1)
  have KB := Lib.hid (fun w => Small_c b.n w hb.1)
  have hba := bits_131072' ha.1
  have hbb := bits_131072' hb.1
  have T0 := TB.start w a.t b.t
  unfold Dy.t at T0
  have KLa : Hid (∀ w, brB a.n = true → Calls Tryz.prog 129 #[.int .u64 (brN a.n : Nat)] w fun e w' => e = .returned (.int .i64 (nd 2 a.n : Nat)) ∧ w' = w) := Lib.hid fun w h => by
    have h1 := br_lt.1 (brB_true h)
    have h2 : brN a.n = a.n := brN_yes (brB_true h)
    rw [h2]; exact len64_nd a.n h1 w
  have KLb : Hid (∀ w, brB b.n = true → Calls Tryz.prog 129 #[.int .u64 (brN b.n : Nat)] w fun e w' => e = .returned (.int .i64 (nd 2 b.n : Nat)) ∧ w' = w) := Lib.hid fun w h => by
    have h1 := br_lt.1 (brB_true h)
    have h2 : brN b.n = b.n := brN_yes (brB_true h)
    rw [h2]; exact len64_nd b.n h1 w
  clear ha hb
  rcases hno with c1 | ⟨c1, c2⟩ | ⟨c1, c2, c3⟩ | ⟨c1, c2, c3, c4⟩ | ⟨c1, c2, c3, c4, c5⟩
  all_goals
    go_enter Tryz.func104, Tryz.ntmps104
    go_wp2_with fail
    refine (KA.out _).mono ?_
    rintro e w1 ⟨rfl, hb⟩
    have hb1 := (TB.start w a.t b.t).more (.cells #[.bool false, .string ⟨#[]⟩, .int .i64 0] 24) |>.1
    obtain ⟨hcl, hfz⟩ := bcell hb
    have hsz : w.heap.size + 2 < w1.heap.size := by have := hb.size; simp at this; omega
    replace T0 := TB3 T0 hb
    obtain ⟨p0, p1, p2, p3, p4, p5, p6⟩ := T0.2.1.facts
    obtain ⟨q0, q1, q2, q3, q4, q5, q6⟩ := T0.2.2.facts
    go_wp2_with fail
    refine (KB.out _).mono ?_
    rintro e w2 ⟨rfl, hbb2⟩
    replace T0 := T0.step hbb2
    have hb3 := hb.trans (hbb2.mono hb.size)
    clear hb hbb2 hcl hfz p0 p1 p2 p3 p4 p5 p6 q0 q1 q2 q3 q4 q5 q6
    obtain ⟨hcl, hfz⟩ := bcell hb3
    have hsz2 : w.heap.size + 2 < w2.heap.size := by have := hb3.size; simp at this; omega
    go_wp2_with (first
      | (go_at_call 129; (with_reducible refine (KLa.out _ c1).mono ?_); rintro e w' ⟨rfl, rfl⟩)
      | (go_at_call 129; (with_reducible refine (KLb.out _ c2).mono ?_); rintro e w' ⟨rfl, rfl⟩))
    refine bodyPost_ret (v := .tuple #[.agg #[.bool false, .string ⟨#[]⟩, .int .i64 0], .bool false]) (by simp [results, Tryz.results104, go_sem, hcl, hsz, hsz2]) rfl ⟨Dy.zero, false, by rw [← natS_zero]; rfl, fun c => (by cases c), ?_⟩
    repeat (refine Below.setCell ?_ (by simp; omega) _)
    exact T0.1
end Go.Proofs.YtmjjodficjjehaaGreatDoor
namespace Go.Proofs.YtmjjodficjjehaaGreatDoor
open Go Go.RowKit Nt
theorem shl_u64 {m j X : Nat} (hX : X = m * 2 ^ j) (h : X < 18446744073709551616) : Hid (IntKind.u64.wrap ((m : Int) * 2 ^ j) = (X : Int)) := Lib.hid (by
  rw [wr_pow (s := 2 ^ j) rfl, ← hX, IntKind.wrap_u64]; clear hX; omega)
theorem sgnd_b (g : Bool) {m : Nat} (h : m < 4611686018427387904) : -4611686018427387904 < sgnd g m ∧ sgnd g m < 4611686018427387904 := by
  unfold sgnd; cases g <;> simp <;> omega
set_option maxRecDepth 100000 in
set_option maxHeartbeats 2000000 in
theorem Dbrief_yes (a b : Dy) (j : Nat) (w : World) (ha : a.Num) (hb : b.Num) (hj : j = (a.x - b.x).toNat) (c1 : brB a.n = true) (c2 : brB b.n = true) (c3 : ¬ 62 < j) (c4 : ¬ 62 < nd 2 a.n + j) (c5 : ¬ 62 < nd 2 b.n) :
    Calls Tryz.prog 104 #[.agg #[.bool a.g, .string (natS a.n), .int .i64 a.x], .agg #[.bool b.g, .string (natS b.n), .int .i64 b.x], .int .i64 (j : Nat)] w (BrPost a b w) := by
  have hna : brN a.n = a.n := brN_yes (brB_true c1)
  have hnb : brN b.n = b.n := brN_yes (brB_true c2)
  have KA := Lib.hid (fun w => Small_c a.n w ha.1)
  have KB := Lib.hid (fun w => Small_c b.n w hb.1)
  rw [hna, c1] at KA
  rw [hnb, c2] at KB
  have T0 := TB.start w a.t b.t
  unfold Dy.t at T0
  have KLa := Lib.hid (fun w => len64_nd a.n (br_lt.1 (brB_true c1)) w)
  have KLb := Lib.hid (fun w => len64_nd b.n (br_lt.1 (brB_true c2)) w)
  obtain ⟨X, hX⟩ : ∃ X, X = a.n * 2 ^ j := ⟨_, rfl⟩
  have hXb : X < 4611686018427387904 := by rw [hX]; exact pow_lt62 (by omega)
  have hYb : b.n < 4611686018427387904 := lt62 (by omega)
  have HSH := shl_u64 hX (by omega)
  have KSa := Lib.hid (fun w => Dsigned_c a.g X w (by omega))
  have KSb := Lib.hid (fun w => Dsigned_c b.g b.n w (by omega))
  have hs1 := sgnd_b a.g hXb
  have hs2 := sgnd_b b.g hYb
  have hxb := hb.2.2
  obtain ⟨S, hS⟩ : ∃ S, sgnd a.g X + sgnd b.g b.n = S := ⟨_, rfl⟩
  have KO := Lib.hid (fun w => DOf_c S b.x w (by omega) (by omega))
  have hmk := sum_mk a.g b.g X b.n b.x
  have hme := sum_abs a.g b.g X b.n
  rw [hS] at hmk hme
  have hup : upN a b = X := by rw [upN_eq, ← hj, hX]
  have hD : mkD (decide (S < 0)) S.natAbs b.x = hiD a b := by rw [hiD_eq, hup]; exact hmk
  have hE : mkE S.natAbs b.x = hiE a b := by rw [hiE_eq, hup, hme]
  unfold MkPost at KO
  rw [hD, hE] at KO
  have hw : IntKind.i64.wrap S = S := IntWalk.i64_in _ (by omega)
  have hw2 : wrap64 S = S := IntWalk.wrap64_in _ (by omega)
  have HD : (hiE a b == 0) = true ↔ hiE a b = 0 := beq_iff_eq
  clear hX hmk hme hup hD hE ha hb hna hnb c1 c2 hj
  generalize sgnd a.g X = s1 at *
  generalize sgnd b.g b.n = s2 at *
  have HDD := Lib.hid HD
  clear HD
  generalize hE9 : hiE a b = E at *
  have HE9 := Lib.hid hE9
  clear hE9
  generalize hh : hiD a b = D at *
  have HH := Lib.hid hh
  clear hh
  go_enter Tryz.func104, Tryz.ntmps104
  go_wp2_with fail
  refine (KA.out _).mono ?_
  rintro e w1 ⟨rfl, hb⟩
  have hsz : w.heap.size + 2 < w1.heap.size := by have := hb.size; simp at this; omega
  replace T0 := TB3 T0 hb
  obtain ⟨p0, p1, p2, p3, p4, p5, p6⟩ := T0.2.1.facts
  obtain ⟨q0, q1, q2, q3, q4, q5, q6⟩ := T0.2.2.facts
  go_wp2_with fail
  refine (KB.out _).mono ?_
  rintro e w2 ⟨rfl, hbb2⟩
  replace T0 := T0.step hbb2
  have hb3 := hb.trans (hbb2.mono hb.size)
  clear hb hbb2 p0 p1 p2 p3 p4 p5 p6 q0 q1 q2 q3 q4 q5 q6
  go_wp2_with (first
    | (go_at_call 129; (with_reducible refine (KLa.out _).mono ?_); rintro e w' ⟨rfl, rfl⟩)
    | (go_at_call 129; (with_reducible refine (KLb.out _).mono ?_); rintro e w' ⟨rfl, rfl⟩))
  have L0 := fun W (h : TB w ⟨a.g, natS a.n, a.x⟩ ⟨b.g, natS b.n, b.x⟩ W) => h.2.1.facts.2.1
  have L3 := fun W (h : TB w ⟨a.g, natS a.n, a.x⟩ ⟨b.g, natS b.n, b.x⟩ W) => h.2.2.facts.2.1
  go_region_held3 (TB w ⟨a.g, natS a.n, a.x⟩ ⟨b.g, natS b.n, b.x⟩) (first | assumption | exact TB.step (by assumption) (by assumption) | exact TB.drew (by assumption) | exact TB.drawn (by assumption) _)
    (first
      | (go_at_call 130; rw [HSH.out]; (with_reducible refine (KSa.out _).mono ?_); rintro e w' ⟨rfl, rfl⟩)
      | (go_at_call 130; (with_reducible refine (KSb.out _).mono ?_); rintro e w' ⟨rfl, rfl⟩))
  rename_i hHeld
  clear T0 L0 L3
  have T0 := hHeld
  clear hHeld
  have hb4 := hb3.drew
  clear hb3
  generalize w'.drew = w3 at *
  obtain ⟨p0, p1, p2, p3, p4, p5, p6⟩ := T0.2.1.facts
  obtain ⟨q0, q1, q2, q3, q4, q5, q6⟩ := T0.2.2.facts
  go_wp2_with fail
  refine (KO.out _).mono ?_
  rintro e w4 ⟨rfl, hb5⟩
  replace T0 := T0.step hb5
  have hb6 := (hb4.trans (hb5.mono hb4.size)).alloc (hb4.trans (hb5.mono hb4.size)).size (.cells #[.bool D.g, .string (natS D.n), .int .i64 D.x] 24)
  have hb7 := (T0.more (.cells #[.bool D.g, .string (natS D.n), .int .i64 D.x] 24)).1
  clear hb4 hb5 p0 p1 p2 p3 p4 p5 p6 q0 q1 q2 q3 q4 q5 q6
  obtain ⟨hcl, hfz⟩ := bcell hb6
  have hsz2 : w.heap.size + 2 < w4.heap.size + 1 := by have := hb6.size; simp at this; omega
  unfold Dy.v
  by_cases hE0 : E = 0
  · subst hE0
    go_wp2_with fail
    refine bodyPost_ret (v := .tuple #[.agg #[.bool D.g, .string (natS D.n), .int .i64 D.x], .bool true]) (by simp [results, Tryz.results104, go_sem, hcl, hsz, hsz2]) rfl ⟨D, true, rfl, fun _ => ⟨HH.out.symm, HE9.out⟩, ?_⟩
    repeat (refine Below.setCell ?_ (by simp; omega) _)
    exact hb7
  · have hE1 : (E == 0) = false := by rw [beq_eq_false_iff_ne]; exact hE0
    go_wp2_with fail
    refine bodyPost_ret (v := .tuple #[.agg #[.bool D.g, .string (natS D.n), .int .i64 D.x], .bool false]) (by simp [results, Tryz.results104, go_sem, hcl, hsz, hsz2]) rfl ⟨D, false, rfl, fun c => (by cases c), ?_⟩
    repeat (refine Below.setCell ?_ (by simp; omega) _)
    exact hb7
end Go.Proofs.YtmjjodficjjehaaGreatDoor
namespace Go.Proofs.YtmjjodficjjehaaGreatDoor
open Go Go.RowKit Nt
theorem Dbrief_c (a b : Dy) (j : Nat) (w : World) (ha : a.Num) (hb : b.Num) (hj : j = (a.x - b.x).toNat) (hj2 : j ≤ 3000000) :
    Calls Tryz.prog 104 #[.agg #[.bool a.g, .string (natS a.n), .int .i64 a.x], .agg #[.bool b.g, .string (natS b.n), .int .i64 b.x], .int .i64 (j : Nat)] w (BrPost a b w) := by
  cases c1 : brB a.n with
  | false => exact Dbrief_no a b j w ha hb hj2 (Or.inl c1)
  | true =>
    cases c2 : brB b.n with
    | false => exact Dbrief_no a b j w ha hb hj2 (Or.inr (Or.inl ⟨c1, c2⟩))
    | true =>
      by_cases c3 : 62 < j
      · exact Dbrief_no a b j w ha hb hj2 (Or.inr (Or.inr (Or.inl ⟨c1, c2, c3⟩)))
      · by_cases c4 : 62 < nd 2 a.n + j
        · exact Dbrief_no a b j w ha hb hj2 (Or.inr (Or.inr (Or.inr (Or.inl ⟨c1, c2, c3, c4⟩))))
        · by_cases c5 : 62 < nd 2 b.n
          · exact Dbrief_no a b j w ha hb hj2 (Or.inr (Or.inr (Or.inr (Or.inr ⟨c1, c2, c3, c4, c5⟩))))
          · exact Dbrief_yes a b j w ha hb hj c1 c2 c3 c4 c5
def TC (w : World) (a b : Dt) (W : World) : Prop := TB w a b W ∧ Box3 W (w.heap.size + 2) (.bool false) (.string ⟨#[]⟩) (.int .i64 0)
theorem TC.start (w : World) (a b : Dt) : TC w a b (((w.alloc (.cells #[.bool a.g, .string a.s, .int .i64 a.x] 24)).alloc (.cells #[.bool b.g, .string b.s, .int .i64 b.x] 24)).alloc (.cells #[.bool false, .string ⟨#[]⟩, .int .i64 0] 24)) := by
  refine ⟨(TB.start w a b).more _, ?_⟩
  have := Box3.new ((w.alloc (.cells #[.bool a.g, .string a.s, .int .i64 a.x] 24)).alloc (.cells #[.bool b.g, .string b.s, .int .i64 b.x] 24)) (.bool false) (.string ⟨#[]⟩) (.int .i64 0)
  simpa using this
theorem TC.step {w : World} {a b : Dt} {W W' : World} (h : TC w a b W) (hb : Below W.heap.size W W') : TC w a b W' := ⟨h.1.step hb, h.2.step hb⟩
theorem TC.more {w : World} {a b : Dt} {W : World} (h : TC w a b W) (o : Obj) : TC w a b (W.alloc o) := h.step ((Below.refl _ _).alloc (Nat.le_refl _) _)
theorem TC.drawn {w : World} {a b : Dt} {W : World} (h : TC w a b W) (n : Nat) : TC w a b (W.drewN n) := h.step (below_drewN (Below.refl _ _) n)
theorem TC.drew {w : World} {a b : Dt} {W : World} (h : TC w a b W) : TC w a b W.drew := h.step (Below.refl _ _).drew
theorem TC.fin {w : World} {a b : Dt} {W : World} (h : TC w a b W) (x y z : Value) : Below w.heap.size w (((W.setCell ⟨w.heap.size + 2, 0, none⟩ x).setCell ⟨w.heap.size + 2, 1, none⟩ y).setCell ⟨w.heap.size + 2, 2, none⟩ z) := below_put h.1.1 (by omega) x y z
theorem all_ok2 (a b : Dy) (ha : a.Ok) (hb : b.Ok) (W : World) (T : TypeId) (A : Nat) (hA : A = W.heap.size) :
    Calls Tryz.prog 83 #[.slice (some ⟨A, 0, none⟩) 2 2] (W.alloc (.cells #[.bool a.g, .string (natS a.n), .int .i64 a.x, .bool b.g, .string (natS b.n), .int .i64 b.x] T)) fun e w' => e = .returned (.int .i64 0) ∧ Below (W.alloc (.cells #[.bool a.g, .string (natS a.n), .int .i64 a.x, .bool b.g, .string (natS b.n), .int .i64 b.x] T)).heap.size (W.alloc (.cells #[.bool a.g, .string (natS a.n), .int .i64 a.x, .bool b.g, .string (natS b.n), .int .i64 b.x] T)) w' := by
  have := Dall2 a.t b.t W T A hA (by have := Dy.small ha; show (natS a.n).size ≤ _; omega) (by have := Dy.small hb; show (natS b.n).size ≤ _; omega)
  rwa [dE_ok (fun t ht => by
    rcases List.mem_cons.1 ht with rfl | ht
    · exact Dy.ok_t ha
    · rw [List.mem_singleton.1 ht]; exact Dy.ok_t hb)] at this
set_option maxRecDepth 100000 in
set_option maxHeartbeats 2000000 in
theorem DAdd_zl (b : Dy) (w : World) (hb : b.Ok) :
    Calls Tryz.prog 73 #[.agg #[.bool false, .string ⟨#[]⟩, .int .i64 0], .agg #[.bool b.g, .string (natS b.n), .int .i64 b.x]] w fun e w' => e = .returned (.tuple #[.agg #[.bool b.g, .string (natS b.n), .int .i64 b.x], .int .i64 0]) ∧ Below w.heap.size w w' := by
  have KA := Lib.hid (fun W T A hA => all_ok2 Dy.zero b (Or.inl rfl) hb W T A hA)
  simp only [Dy.zero, natS_zero] at KA
  have T0 := TC.start w ⟨false, ⟨#[]⟩, 0⟩ b.t
  unfold Dy.t at T0
  clear hb
  go_enter Tryz.func73, Tryz.ntmps73
  go_wp2_with fail
  refine (KA.out _ _ _ (by simp)).mono ?_
  rintro e w1 ⟨rfl, hb⟩
  replace T0 := (T0.more _).step hb
  clear hb
  obtain ⟨p0, p1, p2, p3, p4, p5, p6⟩ := T0.1.2.1.facts
  obtain ⟨q0, q1, q2, q3, q4, q5, q6⟩ := T0.1.2.2.facts
  obtain ⟨r0, r1, r2, r3, r4, r5, r6⟩ := T0.2.facts
  go_wp2_with fail
  refine bodyPost_ret (v := .tuple #[.agg #[.bool b.g, .string (natS b.n), .int .i64 b.x], .int .i64 0]) (by simp [results, Tryz.results73, go_sem, r0, r1, r2, r3]) rfl ⟨rfl, ?_⟩
  repeat (refine Below.setCell ?_ (by simp; omega) _)
  exact T0.1.1
set_option maxRecDepth 100000 in
set_option maxHeartbeats 2000000 in
theorem DAdd_zr (a : Dy) (w : World) (ha : a.Num) :
    Calls Tryz.prog 73 #[.agg #[.bool a.g, .string (natS a.n), .int .i64 a.x], .agg #[.bool false, .string ⟨#[]⟩, .int .i64 0]] w fun e w' => e = .returned (.tuple #[.agg #[.bool a.g, .string (natS a.n), .int .i64 a.x], .int .i64 0]) ∧ Below w.heap.size w w' := by
  have KA := Lib.hid (fun W T A hA => all_ok2 a Dy.zero (Or.inr ha) (Or.inl rfl) W T A hA)
  simp only [Dy.zero, natS_zero] at KA
  have T0 := TC.start w a.t ⟨false, ⟨#[]⟩, 0⟩
  unfold Dy.t at T0
  have hE := natS_full (odd_ne ha.2.1)
  have hE2 := natS_full2 (odd_ne ha.2.1)
  clear ha
  go_enter Tryz.func73, Tryz.ntmps73
  go_wp2_with fail
  refine (KA.out _ _ _ (by simp)).mono ?_
  rintro e w1 ⟨rfl, hb⟩
  replace T0 := (T0.more _).step hb
  clear hb
  obtain ⟨p0, p1, p2, p3, p4, p5, p6⟩ := T0.1.2.1.facts
  obtain ⟨q0, q1, q2, q3, q4, q5, q6⟩ := T0.1.2.2.facts
  obtain ⟨r0, r1, r2, r3, r4, r5, r6⟩ := T0.2.facts
  go_wp2_with fail
  refine bodyPost_ret (v := .tuple #[.agg #[.bool a.g, .string (natS a.n), .int .i64 a.x], .int .i64 0]) (by simp [results, Tryz.results73, go_sem, r0, r1, r2, r3]) rfl ⟨rfl, ?_⟩
  repeat (refine Below.setCell ?_ (by simp; omega) _)
  exact T0.1.1
end Go.Proofs.YtmjjodficjjehaaGreatDoor
namespace Go.Proofs.YtmjjodficjjehaaGreatDoor
open Go Go.RowKit Nt
theorem TC.swap {w : World} {a b : Dt} {W : World} (h : TC w a b W) : TC w b a ((((((W.setCell ⟨w.heap.size, 0, none⟩ (.bool b.g)).setCell ⟨w.heap.size, 1, none⟩ (.string b.s)).setCell ⟨w.heap.size, 2, none⟩ (.int .i64 b.x)).setCell ⟨w.heap.size + 1, 0, none⟩ (.bool a.g)).setCell ⟨w.heap.size + 1, 1, none⟩ (.string a.s)).setCell ⟨w.heap.size + 1, 2, none⟩ (.int .i64 a.x)) := by
  obtain ⟨⟨h1, h2, h3⟩, h4⟩ := h
  refine ⟨⟨below_put (below_put h1 (Nat.le_refl _) _ _ _) (by omega) _ _ _, ?_, ?_⟩, ?_⟩
  · exact Box3.far (h2.put _ _ _) (by omega) _ _ _
  · exact Box3.put (Box3.far h3 (by omega) _ _ _) _ _ _
  · exact Box3.far (Box3.far h4 (by omega) _ _ _) (by omega) _ _ _
theorem hi_long {p q : Dy} (hp : p.Num) (hq : q.Num) (hx : 131072 < p.x - q.x) : hiD p q = Dy.zero ∧ hiE p q = 4 := by
  obtain ⟨j, hj⟩ : ∃ j, j = (p.x - q.x).toNat := ⟨_, rfl⟩
  obtain ⟨E, hE⟩ : ∃ E, E = 131072 := ⟨_, rfl⟩
  have hj2 : E + 1 ≤ j := by omega
  have hup : upN p q = p.n * 2 ^ j := by rw [upN_eq, ← hj]
  have hy : q.n < 2 ^ E := (lt_pow_iff (b := 2) (by omega) E q.n).2 (by rw [hE]; exact bits_131072' hq.1)
  have hX : 2 ^ (E + 1) ≤ upN p q := by
    rw [hup]
    exact Nat.le_trans (Nat.pow_le_pow_right (by omega) hj2) (Nat.le_mul_of_pos_left _ (Nat.pos_of_ne_zero (odd_ne hp.2.1)))
  have hev : upN p q % 2 = 0 := by
    rw [hup, show j = (j - 1) + 1 by omega, Nat.pow_succ, ← Nat.mul_assoc]; exact Nat.mul_mod_left _ _
  have hqo := hq.2.1
  rw [Nat.pow_succ] at hX
  have hbig : ∀ N, nd 2 N ≤ 131072 → N < 2 ^ E := fun N h => (lt_pow_iff (b := 2) (by omega) E N).2 (by omega)
  generalize (2 : Nat) ^ E = P at *
  clear hE hj2 hj
  have key : ∀ N, N % 2 = 1 → P ≤ N → ¬ mkOk3 N q.x := by
    intro N ho hN hk
    rcases hk with hk | ⟨hk, _⟩
    · exact odd_ne ho hk
    · rw [odN_odd ho] at hk
      have h2 := hbig N (bits_131072' hk)
      omega
  have hN : ¬ mkOk3 (sumN p.g q.g (upN p q) q.n) q.x := by
    unfold sumN
    split
    · exact key _ (by omega) (by omega)
    · rw [if_neg (by omega)]
      exact key _ (by omega) (by omega)
  exact ⟨by rw [hiD_eq, mkD_no hN], by rw [hiE_eq, mkE_no hN]⟩
theorem hi_same {p q : Dy} (h : p.g = q.g) (X : Nat) (hX : upN p q = X) : hiD p q = mkD p.g (X + q.n) q.x ∧ hiE p q = mkE (X + q.n) q.x := by
  rw [hiD_eq, hiE_eq, hX]; unfold sumG sumN; rw [if_pos h, if_pos h]; exact ⟨rfl, rfl⟩
theorem hi_lt {p q : Dy} (h : ¬ p.g = q.g) (X : Nat) (hX : upN p q = X) (hl : X < q.n) : hiD p q = mkD q.g (q.n - X) q.x ∧ hiE p q = mkE (q.n - X) q.x := by
  rw [hiD_eq, hiE_eq, hX]; unfold sumG sumN; rw [if_neg h, if_neg h, if_pos hl, if_pos hl]; exact ⟨rfl, rfl⟩
theorem hi_ge {p q : Dy} (h : ¬ p.g = q.g) (X : Nat) (hX : upN p q = X) (hl : ¬ X < q.n) : hiD p q = mkD p.g (X - q.n) q.x ∧ hiE p q = mkE (X - q.n) q.x := by
  rw [hiD_eq, hiE_eq, hX]; unfold sumG sumN; rw [if_neg h, if_neg h, if_neg hl, if_neg hl]; exact ⟨rfl, rfl⟩
theorem read_nat (n : Nat) (w : World) (hf : fits n) : Calls Tryz.prog 106 #[.string (natS n)] w (NumPost n w) := by
  have := Read_c (natS n) w (by rw [natS_size]; unfold fits at hf; omega)
  rwa [bytesN_natS] at this
theorem fits_W {n : Nat} (h : fits n) : nd W n ≤ 2048 := by
  have := words_bytes n
  unfold fits at h
  omega
end Go.Proofs.YtmjjodficjjehaaGreatDoor
