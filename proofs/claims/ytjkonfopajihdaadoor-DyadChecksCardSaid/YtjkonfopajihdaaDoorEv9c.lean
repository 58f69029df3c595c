/- A closed run, reckoned: a plan carried out. -/
import Derived.Test.YtjkonfopajihdaaDoorEv9b
set_option linter.unusedVariables false
set_option linter.unusedSimpArgs false
namespace Go.Proofs.YtjkonfopajihdaaDoor
open Go Go.RowKit

/-- What stood where the region began stands yet, where no writer has come up. -/
def Stands (R0 : Rho) (s0 : AS) (w0 : World) (tf : List (Nat × Nat)) (L : Array Bool) (w : World) : Prop :=
  ∀ k b T B, look k s0.h = some B → (∀ j, (j, k) ∈ tf → L.getD j false = false) → R0 k b T → w.heap[b]? = w0.heap[b]?
theorem getD_set_f {L : Array Bool} {i j : Nat} (h : (L.setIfInBounds i true).getD j false = false) : L.getD j false = false := by
  cases hc : L.getD j false with
  | false => rfl
  | true => rw [getD_set_true hc] at h; cases h
theorem Stands.set {R0 : Rho} {s0 : AS} {w0 : World} {tf : List (Nat × Nat)} (L : Array Bool) (i : Nat) (w : World) (h : Stands R0 s0 w0 tf L w) : Stands R0 s0 w0 tf (L.setIfInBounds i true) w :=
  fun k b T B hk hn hr => h k b T B hk (fun j hj => getD_set_f (hn j hj)) hr
theorem Stands.unset {R0 : Rho} {s0 : AS} {w0 : World} {tf : List (Nat × Nat)} {i : Nat} (hi : ∀ p ∈ tf, p.1 ≠ i) (L : Array Bool) (w : World) (h : Stands R0 s0 w0 tf (L.setIfInBounds i true) w) : Stands R0 s0 w0 tf L w :=
  fun k b T B hk hn hr => h k b T B hk (fun j hj => by rw [getD_set_ne false (Ne.symm (hi _ hj))]; exact hn j hj) hr
def Live (s0 : AS) (tf : List (Nat × Nat)) (LP : Array Bool) (s : AS) : Prop :=
  ∀ k B, look k s0.h = some B → (∀ j, (j, k) ∈ tf → LP.getD j false = false) → look k s.h = look k s0.h
/-- A cell that was made ahead. -/
structure TkOk (P : Program) (ops : Array Oper) (fl : Nat → Bool) (w0 : World) (R : Rho) (w : World) (LP : Array Bool) (t : Tk) : Prop where
  isf : fl t.i = true
  un : LP.getD t.i true = false
  op : ∃ o inf z, ops[t.i]? = some o ∧ o.op = .alloc t.ty ∧ o.dst = some t.d ∧ P.info? t.ty = some inf ∧ inf.zero = some z ∧ t.C = z.cells
  blk : w.heap[t.b]? = some (.cells t.C t.ty (0, 0))
  new : w0.heap.size ≤ t.b
  no : ∀ k T', ¬ R k t.b T'
def Far (t u : Tk) : Prop := t.b ≠ u.b ∧ t.i ≠ u.i ∧ t.d ≠ u.d
theorem Far.symm {t u : Tk} (h : Far t u) : Far u t := ⟨h.1.symm, h.2.1.symm, h.2.2.symm⟩
theorem wpOp_load {P : Program} {ops : Array Oper} {Q : Exit → Act → World → Prop} {i : Nat} {o : Oper} {K : Act → World → Prop} {a : Act} {w : World} {x : Value} (hi : ops[i]? = some o) (hg : o.guard = none) {w' : World}
    (hr : (execOp a.eval o).run P w = .ok (.value x) w') (h : K (a.put o.dst x) w') : wpOp P ops Q i K a w := by
  unfold wpOp
  simp only [hi]
  rw [if_pos (by simp [Region.wanted, hg])]
  left
  unfold Oper.wp
  rw [hr]
  exact h
theorem noSel_of {ops : Array Oper} (hs : Region.noSelect ops = true) {i : Nat} {o : Oper} (hi : ops[i]? = some o) : ∀ cs b, o.op ≠ .select cs b := fun cs b => Region.noSelect_spec hs i o cs b hi
section
variable {P : Program} {ops : Array Oper} {fl : Nat → Bool} {w0 : World}
theorem TkOk.turn {R R' : Rho} {w w' : World} {LP LP' : Array Bool} {t : Tk} (h : TkOk P ops fl w0 R w LP t) (hun : LP'.getD t.i true = false) (hb : w'.heap[t.b]? = w.heap[t.b]?) (hno : ∀ k T', ¬ R' k t.b T') : TkOk P ops fl w0 R' w' LP' t :=
  ⟨h.isf, hun, h.op, hb.trans h.blk, h.new, hno⟩
theorem TkOk.lt {R : Rho} {w : World} {LP : Array Bool} {t : Tk} (h : TkOk P ops fl w0 R w LP t) : t.b < w.heap.size := by
  rcases Nat.lt_or_ge t.b w.heap.size with c | c
  · exact c
  · have := h.blk; rw [Array.getElem?_eq_none c] at this; cases this
set_option maxHeartbeats 3200000 in
theorem evalPlan_ok {call : CallE} (hcall : CallOk P call) {R0 : Rho} {s0 : AS} {floor base : Nat} (hns : Region.noSelect ops = true) {Q : Exit → Act → World → Prop} (hQ : ∀ c a w, ¬ Q (.panic c) a w)
    (hfl : FloOk P ops fl) {tf : List (Nat × Nat)} (hI0 : Inv R0 s0 w0 floor base) {a0 : Act} {f' : Fr} {s' : AS}
    (hK : ∀ R' a' w', Went R0 R' s0 s' w0 w' floor base → FRel R' f' a'.tmps → a'.defers = a0.defers → Q .normal a' w') :
    ∀ (N : Nat) (l : List Stp) {fuel : Nat} {LP : Array Bool} {T : List Tk} {R : Rho} {f : Fr} {s : AS} {aP : Act} {w : World} {kl tl : List (Nat × Nat)},
      fuel + l.length ≤ N → PlanOk ops fl l LP → evalPlan P call s0 floor ops l f s kl tl = some (f', s', tf) →
      Down ops (setT T LP) → cnt (setT T LP) ≤ fuel → (∀ t ∈ T, TkOk P ops fl w0 R w LP t) → T.Pairwise Far → Went R0 R s0 s w0 w floor base → FRel R f aP.tmps → aP.defers = a0.defers →
      Live s0 tf LP s → Stands R0 s0 w0 tf (setT T LP) w → (∀ p ∈ tl, LP.getD p.1 true = true) →
      wpAnyU P ops Q (Stands R0 s0 w0 tf) fuel (setT T LP) (putT T aP) w := by
  have hsel := Region.noSelect_spec hns
  intro N
  induction N with
  | zero =>
    intro l fuel LP T R f s aP w kl tl hN hp h hD hc hT hTp hG hf hd hL hS htl
    obtain rfl : fuel = 0 := by omega
    obtain rfl : l = [] := List.eq_nil_of_length_eq_zero (by omega)
    have hTn : T = [] := by
      cases T with
      | nil => rfl
      | cons t T =>
        exfalso
        have h1 := hT t List.mem_cons_self
        obtain ⟨o, ty, d, inf, z, g1, g2, g3, g4, g5, g6, g7, g8⟩ := hfl t.i h1.isf
        have : t.i ∈ Region.ready .any ops LP := mem_ready.2 ⟨h1.un, o, g1, fun e he hb => by rw [g7 e he] at hb; cases hb⟩
        rw [show Region.ready .any ops LP = [] from hp] at this
        cases this
    subst hTn
    have h' : some (f, s, tl) = some (f', s', tf) := h
    injection h' with h'
    injection h' with h1 h'
    injection h' with h2 h3
    subst h1 h2
    exact wpAnyU_done hp (hK R aP w hG hf hd) _
  | succ N ih =>
    intro l fuel LP T R f s aP w kl tl hN hp h hD hc hT hTp hG hf hd hL hS htl
    have hI := hG.inv
    have hTf : ∀ t ∈ T, fl t.i = true ∧ LP.getD t.i true = false := fun t ht => ⟨(hT t ht).isf, (hT t ht).un⟩
    have hTf2 : ∀ t ∈ T, fl t.i = true ∧ LP.getD t.i true = false ∧ ∃ o, ops[t.i]? = some o ∧ o.dst = some t.d := fun t ht =>
      let ⟨o, _, _, h1, _, h2, _⟩ := (hT t ht).op
      ⟨(hT t ht).isf, (hT t ht).un, o, h1, h2⟩
    have fuel_pos : ∀ {j}, j ∈ Region.ready .any ops (setT T LP) → ∃ n, fuel = n + 1 := fun {j} hj => by
      have := cnt_pos (mem_ready.1 hj).1
      exact ⟨fuel - 1, by omega⟩
    have cnt_next : ∀ {j n}, j ∈ Region.ready .any ops (setT T LP) → fuel = n + 1 → cnt ((setT T LP).setIfInBounds j true) ≤ n := fun {j n} hj hn => by
      have := cnt_set (mem_ready.1 hj).1
      omega
    -- a floating one is made now
    have float : ∀ m ∈ Region.ready .any ops (setT T LP), fl m = true → ∀ n, fuel = n + 1 →
        wpOp P ops Q m (fun a' w' => Stands R0 s0 w0 tf ((setT T LP).setIfInBounds m true) w' ∧ wpAnyU P ops Q (Stands R0 s0 w0 tf) n ((setT T LP).setIfInBounds m true) a' w') (putT T aP) w := by
      intro m hm hmf n hn
      obtain ⟨o, ty, d, inf, z, g1, g2, g3, g4, g5, g6, g7, g8⟩ := hfl m hmf
      obtain ⟨hun1, hun2⟩ := setT_un (mem_ready.1 hm).1
      let t : Tk := ⟨m, d, w.heap.size, ty, z.cells⟩
      let w1 : World := { w with heap := w.heap.push (.cells z.cells ty) }
      have hbl : Below w.heap.size w w1 := ⟨rfl, rfl, rfl, by show w.heap.size ≤ (w.heap.push _).size; simp, fun k hk => by show (w.heap.push _)[k]? = _; rw [Array.getElem?_push, if_neg (by omega)]⟩
      have hrun : (execOp (putT T aP).eval o).run P w = .ok (.value t.p) w1 := by
        obtain ⟨dst, op, type, pos, after, guard⟩ := o
        simp only at g2
        subst g2
        simp [execOp, Instr.alloc, zeroValue, typeInfo, g5, g6, newVar, newRow, t, Tk.p, w1]
      refine wpOp_load g1 g4 hrun ?_
      have hS1 : Stands R0 s0 w0 tf ((setT T LP).setIfInBounds m true) w1 := by
        refine Stands.set _ _ _ ?_
        intro k b T' B hk hn hr
        refine (hbl.block b ?_).trans (hS k b T' B hk hn hr)
        exact Nat.lt_of_lt_of_le (hI0.rel.dom hr).2 hG.below.size
      refine ⟨hS1, ?_⟩
      rw [g3]
      have hTnew : TkOk P ops fl w0 R w1 LP t := ⟨hmf, hun1, ⟨o, inf, z, g1, g2, g3, g5, g6, rfl⟩, by show (w.heap.push _)[w.heap.size]? = _; simp [t], hG.below.size, fun k T' r => by have := (hI.rel.dom r).2; exact absurd this (Nat.lt_irrefl _)⟩
      refine ih l (T := t :: T) (LP := LP) (R := R) (aP := aP) (by omega) hp h (hD.set hm) (cnt_next hm hn) ?_ ?_ ?_ hf hd hL hS1 htl
      · intro t' ht'
        rcases List.mem_cons.1 ht' with rfl | ht'
        · exact hTnew
        · exact (hT t' ht').turn (hT t' ht').un (hbl.block _ (hT t' ht').lt) (hT t' ht').no
      · refine List.pairwise_cons.2 ⟨fun u hu => ⟨?_, ?_, ?_⟩, hTp⟩
        · have := (hT u hu).lt
          show w.heap.size ≠ u.b
          omega
        · exact Ne.symm (hun2 u hu)
        · obtain ⟨ou, _, _, q1, _, q3, _⟩ := (hT u hu).op
          rcases g8 u.i ou q1 (hun2 u hu) with ⟨e, he, hb, hon⟩ | hap
          · obtain ⟨o2, ty2, d2, inf2, z2, k1, k2, k3, k4, k5, k6, k7, k8⟩ := hfl u.i (hT u hu).isf
            rw [q1] at k1
            injection k1 with k1
            subst k1
            rw [k7 e he] at hb
            cases hb
          · have := (Oper.apart_spec hap).2.1 d g3
            intro e
            exact this (by rw [q3]; exact congrArg some e.symm)
      · exact ⟨hG.ext, hG.old, hG.num, hG.keep, ⟨⟨hI.rel.fn, fun r => ⟨(hI.rel.dom r).1, Nat.lt_of_lt_of_le (hI.rel.dom r).2 hbl.size⟩, hI.rel.inj, fun hk => let ⟨b, T', r, q⟩ := hI.rel.blk hk; ⟨b, T', r, q.of_block (hbl.block b (hI.rel.dom r).2)⟩⟩, Nat.le_trans hI.hb hbl.size, hI.hf, hI.own, fun hg => hI.glo_below hg (hbl.mono hI.hb)⟩, hG.below.trans (hbl.mono hI.hb), hG.fresh, hG.more, fun hk r hn => let ⟨c1, c2⟩ := hG.wrote hk r hn; ⟨(hbl.block _ (Nat.lt_of_lt_of_le (hI0.rel.dom r).2 hG.below.size)).trans c1, c2⟩, fun b hb hn => (hbl.block b (Nat.lt_of_lt_of_le hb hG.below.size)).trans (hG.other b hb hn)⟩
    have setT_t : ∀ {L : Array Bool} {i : Nat}, (L.setIfInBounds i true).getD i true = true := fun {L i} => by
      rcases Nat.lt_or_ge i L.size with h' | h'
      · simp [Array.getD, h']
      · simp [Array.getD, Nat.not_lt.2 h']
    have keep_t : ∀ {L : Array Bool} {i j : Nat}, L.getD j true = true → (L.setIfInBounds i true).getD j true = true := fun {L i j} h => by
      by_cases e : i = j
      · subst e; exact setT_t
      · rw [getD_set_ne true e]; exact h
    have set_tf : ∀ {L : Array Bool} {i : Nat}, L.getD i true = false → (L.setIfInBounds i true).getD i false = true := fun {L i} h => by
      rcases Nat.lt_or_ge i L.size with h' | h'
      · simp [Array.getD, h']
      · simp [Array.getElem?_eq_none h'] at h
    -- on to the next step
    have cont : ∀ {i n : Nat} {r : List Stp} {o : Oper} {R1 : Rho} {f1 : Fr} {s1 : AS} {x : Value} {w1 : World} {kl1 tl1 : List (Nat × Nat)}, fuel = n + 1 → n + r.length ≤ N → PlanOk ops fl r (LP.setIfInBounds i true) → evalPlan P call s0 floor ops r f1 s1 kl1 tl1 = some (f', s', tf) → i ∈ Region.ready .any ops (setT T LP) → (∀ t ∈ T, t.i ≠ i) → (∀ t ∈ T, TkOk P ops fl w0 R1 w1 LP t) → Went R0 R1 s0 s1 w0 w1 floor base →
        FRel R1 f1 (aP.put o.dst x).tmps → Live s0 tf (LP.setIfInBounds i true) s1 → Stands R0 s0 w0 tf ((setT T LP).setIfInBounds i true) w1 → (∀ p ∈ tl1, (LP.setIfInBounds i true).getD p.1 true = true) →
        wpAnyU P ops Q (Stands R0 s0 w0 tf) n ((setT T LP).setIfInBounds i true) (putT T (aP.put o.dst x)) w1 := by
      intro i n r o R1 f1 s1 x w1 kl1 tl1 hn hN' hp' h' hi hne hT' hG' hf' hL' hS' htl'
      have hD' := hD.set hi
      have hc' := cnt_next hi hn
      rw [← setT_set] at hD' hc' hS' ⊢
      refine ih r hN' hp' h' hD' hc' (fun t ht => ?_) hTp hG' hf' (by rw [put_defers]; exact hd) hL' hS' htl'
      exact (hT' t ht).turn (by rw [getD_set_ne true (Ne.symm (hne t ht))]; exact (hT' t ht).un) rfl (hT' t ht).no
    cases l with
    | nil =>
      have hTn : T = [] := by
        cases T with
        | nil => rfl
        | cons t T =>
          exfalso
          have h1 := hT t List.mem_cons_self
          obtain ⟨o, ty, d, inf, z, g1, g2, g3, g4, g5, g6, g7, g8⟩ := hfl t.i h1.isf
          have : t.i ∈ Region.ready .any ops LP := mem_ready.2 ⟨h1.un, o, g1, fun e he hb => by rw [g7 e he] at hb; cases hb⟩
          rw [show Region.ready .any ops LP = [] from hp] at this
          cases this
      subst hTn
      have h' : some (f, s, tl) = some (f', s', tf) := h
      injection h' with h'
      injection h' with h1 h'
      injection h' with h2 h3
      subst h1 h2
      exact wpAnyU_done hp (hK R aP w hG hf hd) _
    | cons t l =>
      rw [evalPlan_cons] at h
      split at h
      case h_2 => cases h
      rename_i f1 s1 kl1 tl1 h1
      have hlen : fuel + (l.length + 1) ≤ N + 1 := hN
      cases t with
      | early i =>
        obtain ⟨p0, p1, p2, p3, p4⟩ := hp
        have hne : ∀ t ∈ T, t.i ≠ i := fun t ht e => by rw [← e, (hT t ht).isf] at p0; cases p0
        have hr := ready_setT p1 hne
        obtain ⟨n, rfl⟩ := fuel_pos hr
        obtain ⟨_, b2, _⟩ := evalPlan_lists l p4 h
        simp only [planOne] at h1
        split at h1
        · rename_i o ho
          have hap := apartT hfl ho p1 hTf2 hne
          have go : ∀ {v : AV} {x : Value}, VRel R v x → YieldsIf P ops (Si ops (Stands R0 s0 w0 tf) i) o x (putT T aP) → (putA f o.dst v, s, kl, tl) = (f1, s1, kl1, tl1) → wpAnyU P ops Q (Stands R0 s0 w0 tf) (n + 1) (setT T LP) (putT T aP) w := by
            intro v x hx hy he
            injection he with e1 he
            injection he with e2 he
            injection he with e3 e4
            subst e1 e2 e3 e4
            have hin2 : ∀ p ∈ tf, p.1 ≠ i := fun p hp e => by
              rcases b2 p hp with h2 | h2
              · have := htl p h2
                rw [e, (mem_ready.1 p1).1] at this
                cases this
              · rw [e, setT_t] at h2; cases h2
            refine wpAnyU_take hns (fun L i w h => Stands.set L i w h) hQ ho (free_setT p2) (Stands.unset hin2) hr hD hy hS ?_
            rw [← putT_put T aP o.dst x (fun t ht => (hap t ht).2)]
            exact cont rfl (by omega) p4 h hr hne hT hG (putA_ok hf o.dst hx) (fun k B hk hn => hL k B hk (fun j hj => getD_set_f (hn j hj))) (Stands.set _ _ _ hS) (fun p hp => keep_t (htl p hp))
          split at h1
          · rename_i hw
            rw [wanted_ok hf] at hw
            split at h1
            · rename_i v hv
              obtain ⟨x, hx, hrun⟩ := evalWl_ok hv hf
              exact go hx (.inl ⟨by rw [wanted_putT T aP hap]; exact hw, fun w' _ => by rw [execOp_putT (noSel_of hns ho) T aP hap]; exact hrun w'⟩) (Option.some.inj h1)
            · cases h1
          · rename_i hw
            rw [wanted_ok hf] at hw
            exact go (VRel.lit_ undef) (.inr ⟨by rw [wanted_putT T aP hap]; exact hw, rfl⟩) (Option.some.inj h1)
        · cases h1
      | held i =>
        obtain ⟨p0, p1, p2, p3, p4⟩ := hp
        have hne : ∀ t ∈ T, t.i ≠ i := fun t ht e => by rw [← e, (hT t ht).isf] at p0; cases p0
        have hr := ready_setT p1 hne
        obtain ⟨n, rfl⟩ := fuel_pos hr
        obtain ⟨_, b2, b3⟩ := evalPlan_lists l p4 h
        simp only [planOne] at h1
        split at h1
        · rename_i o ho
          have hap := apartT hfl ho p1 hTf2 hne
          have go : ∀ {v : AV} {x : Value}, VRel R v x → YieldsIf P ops (Si ops (Stands R0 s0 w0 tf) i) o x (putT T aP) → putA f o.dst v = f1 → s = s1 → tl = tl1 → wpAnyU P ops Q (Stands R0 s0 w0 tf) (n + 1) (setT T LP) (putT T aP) w := by
            intro v x hx hy e1 e2 e4
            subst e1 e2 e4
            have hin2 : ∀ p ∈ tf, p.1 ≠ i := fun p hp e => by
              rcases b2 p hp with h2 | h2
              · have := htl p h2
                rw [e, (mem_ready.1 p1).1] at this
                cases this
              · rw [e, setT_t] at h2; cases h2
            refine wpAnyU_take hns (fun L i w h => Stands.set L i w h) hQ ho (free_setT p2) (Stands.unset hin2) hr hD hy hS ?_
            rw [← putT_put T aP o.dst x (fun t ht => (hap t ht).2)]
            exact cont rfl (by omega) p4 h hr hne hT hG (putA_ok hf o.dst hx) (fun k B hk hn => hL k B hk (fun j hj => getD_set_f (hn j hj))) (Stands.set _ _ _ hS) (fun p hp => keep_t (htl p hp))
          split at h1
          · rename_i hw
            rw [wanted_ok hf] at hw
            split at h1
            · rename_i v k hv
              split at h1
              · rename_i B0 hB0 htk
                have h1 := Option.some.inj h1
                injection h1 with e1 h1
                injection h1 with e2 h1
                injection h1 with e3 e4
                obtain ⟨x, b, T', B, hx, hB, hrb, hrun⟩ := load_mem (P := P) hI hf hv
                have hk0 : k < s0.n := by
                  obtain ⟨b', T', r', _⟩ := hI0.rel.blk hB0
                  exact (hI0.rel.dom r').1
                have hr0' := hG.old hrb hk0
                have good : ∀ {L : Array Bool} {w' : World}, Down ops L → L.getD i true = false → Stands R0 s0 w0 tf L w' → w'.heap[b]? = w0.heap[b]? := by
                  intro L w' hDL hiL hSL
                  refine hSL k b T' B0 hB0 (fun j hj => ?_) hr0'
                  rcases b3 (i, k) (by rw [← e3]; exact List.mem_cons_self) (j, k) hj rfl with h2 | h2
                  · rw [← e4] at h2
                    exact absurd rfl (hasK_false htk _ h2)
                  · cases hc : L.getD j false with
                    | false => rfl
                    | true =>
                      have := hDL.of_listed h2 hc
                      rw [getD_tf hiL] at this
                      cases this
                refine go hx (.inl ⟨by rw [wanted_putT T aP hap]; exact hw, fun w' hw' => ?_⟩) e1 e2 e4
                rw [execOp_putT (noSel_of hns ho) T aP hap]
                obtain ⟨L, hDL, hiL, hSL⟩ := hw'
                exact hrun w' ((good hDL hiL hSL).trans (good hD (mem_ready.1 hr).1 hS).symm)
              · cases h1
            · cases h1
          · rename_i hw
            rw [wanted_ok hf] at hw
            have h1 := Option.some.inj h1
            injection h1 with e1 h1
            injection h1 with e2 h1
            injection h1 with e3 e4
            exact go (VRel.lit_ undef) (.inr ⟨by rw [wanted_putT T aP hap]; exact hw, rfl⟩) e1 e2 e4
        · cases h1
      | solo i =>
        obtain ⟨p0, p1, p2, p3, p4⟩ := hp
        have hne : ∀ t ∈ T, t.i ≠ i := fun t ht e => by rw [← e, (hT t ht).isf] at p0; cases p0
        have hr := ready_setT p1 hne
        obtain ⟨n, rfl⟩ := fuel_pos hr
        obtain ⟨b1, b2, b3⟩ := evalPlan_lists l p4 h
        have hiu := (mem_ready.1 p1).1
        refine ⟨fun h0 => (by rw [h0] at hr; cases hr), fun m hm => ?_⟩
        cases hmf : fl m with
        | true => exact float m hm hmf n rfl
        | false =>
          have hmi : m = i := by
            rcases p2 m (noStray hD hiu hne p3 hTf hm) with e | e
            · exact e
            · rw [hmf] at e; cases e
          subst hmi
          simp only [planOne] at h1
          split at h1
          · rename_i o ho
            have hap := apartT hfl ho p1 hTf2 hne
            refine wpOp_putT hQ ho (noSel_of hns ho) T hap ?_
            unfold wpOp
            simp only [ho]
            split at h1
            · rename_i hw
              rw [wanted_ok hf] at hw
              rw [if_pos hw]
              left
              split at h1
              · rename_i v s2 hv
                split at h1
                · have h1 := Option.some.inj h1
                  injection h1 with e1 h1
                  injection h1 with e2 h1
                  injection h1 with e3 e4
                  rw [appL_eq, mapL_eq] at e4
                  subst e1 e2
                  have htg : ∀ k, k ∈ s2.wr → (m, k) ∈ tf := fun k hk => b1 _ (by rw [← e4]; exact List.mem_append_left _ (List.mem_map.2 ⟨k, hk, rfl⟩))
                  have htl1 : ∀ p ∈ tl1, (LP.setIfInBounds m true).getD p.1 true = true := fun p hp => by
                    rw [← e4] at hp
                    rcases List.mem_append.1 hp with hp | hp
                    · obtain ⟨k', _, rfl⟩ := List.mem_map.1 hp
                      exact setT_t
                    · exact keep_t (htl p hp)
                  refine evalOp_ok hcall (hI.wr_ []) hf hv fun R' x w' hx hg0 => ?_
                  have hg := hg0.merge
                  have hS' : Stands R0 s0 w0 tf ((setT T LP).setIfInBounds m true) w' := by
                    intro k b T' B hk hn hrb
                    have hk2 := hL k B hk (fun j hj => by
                      cases hc : LP.getD j false with
                      | false => rfl
                      | true =>
                        have := getD_set_f (hn j hj)
                        rw [setT_up hc] at this; cases this)
                    rw [hk] at hk2
                    have := (hg0.wrote hk2 (hG.ext _ _ _ hrb) (fun e => by
                      have h9 := hn m (htg k e)
                      rw [set_tf (mem_ready.1 hr).1] at h9; cases h9)).1
                    exact this.trans (hS k b T' B hk (fun j hj => getD_set_f (hn j hj)) hrb)
                  refine ⟨hS', ?_⟩
                  refine cont rfl (by omega) p4 h hr hne (fun t ht => ?_) (hG.trans hg) (putA_ok (hf.ext hg.ext) o.dst hx) (fun k B hk hn => ?_) hS' htl1
                  · have hno : ∀ k T', ¬ R' k t.b T' := fun k T' r => by
                      rcases hg.fresh r with ⟨k0, T0, r0⟩ | hb
                      · exact (hT t ht).no _ _ r0
                      · have := (hT t ht).lt; omega
                    exact (hT t ht).turn (hT t ht).un (hg.other t.b (hT t ht).lt hno) hno
                  · have hk2 := hL k B hk (fun j hj => getD_set_f (hn j hj))
                    have hk3 := hk2
                    rw [hk] at hk3
                    obtain ⟨b, T', r, _⟩ := hI.rel.blk hk3
                    exact ((hg0.wrote hk3 r (fun e => by
                      have h9 := hn m (htg k e)
                      rw [set_tf hiu] at h9; cases h9)).2).trans hk2
                · cases h1
              · cases h1
            · rename_i hw
              rw [wanted_ok hf] at hw
              rw [if_neg (by simp [hw])]
              have h1 := Option.some.inj h1
              injection h1 with e1 h1
              injection h1 with e2 h1
              injection h1 with e3 e4
              subst e1 e2 e4
              exact ⟨Stands.set _ _ _ hS, cont rfl (by omega) p4 h hr hne hT hG (putA_ok hf o.dst (VRel.lit_ _)) (fun k B hk hn => hL k B hk (fun j hj => getD_set_f (hn j hj))) (Stands.set _ _ _ hS) (fun p hp => keep_t (htl p hp))⟩
          · cases h1
      | flo i =>
        obtain ⟨p0, p1, p2, p3, p4⟩ := hp
        by_cases hin : ∃ t ∈ T, t.i = i
        · obtain ⟨t, ht, rfl⟩ := hin
          obtain ⟨T1, T2, rfl⟩ := List.append_of_mem ht
          have hpw := List.pairwise_append.1 hTp
          have hpw2 := List.pairwise_cons.1 hpw.2.1
          have hTt := hT t ht
          obtain ⟨o, inf, z, q1, q2, q3, q4, q5, q6⟩ := hTt.op
          have hfar : ∀ u ∈ T1 ++ T2, Far t u := fun u hu => by
            rcases List.mem_append.1 hu with hu | hu
            · exact (hpw.2.2 u hu t List.mem_cons_self).symm
            · exact hpw2.1 u hu
          have hsub : ∀ u ∈ T1 ++ T2, u ∈ T1 ++ t :: T2 := fun u hu => by
            rcases List.mem_append.1 hu with hu | hu
            · exact List.mem_append_left _ hu
            · exact List.mem_append_right _ (List.mem_cons_of_mem _ hu)
          simp only [planOne, q1, q2, q4, q5] at h1
          have h1 := Option.some.inj h1
          injection h1 with e1 h1
          injection h1 with e2 h1
          injection h1 with e3 e4
          subst e1 e2 e3 e4
          rw [setT_out] at hD hc hS ⊢
          rw [putT_out T1 aP (fun u hu => (hpw2.1 u hu).2.2)]
          have hnb := hTt.no
          have hC : t.C.toList.take (mapL AV.lit z.cells.toList).length = z.cells.toList := by rw [q6, mapL_eq, List.length_map, List.take_length]
          have hA := hI.adopt (B := mapL AV.lit z.cells.toList) hTt.blk (Nat.le_trans hI0.hb hTt.new) hnb (by rw [hC, mapL_eq]; exact VRels.lits_ _) (by rw [mapL_eq, q6]; simp) (fz0 _)
          refine ih l (LP := LP.setIfInBounds t.i true) (T := T1 ++ T2) (R := fun k b T' => R k b T' ∨ (k = s.n ∧ b = t.b ∧ T' = t.C.size)) (aP := aP.put (some t.d) t.p) (by omega) p4 h hD hc (fun u hu => ?_) ?_ ?_ ?_ (by rw [put_defers]; exact hd) ?_ hS (fun p hp => keep_t (htl p hp))
          · have hu' := hT u (hsub u hu)
            refine hu'.turn (by rw [getD_set_ne true (hfar u hu).2.1]; exact hu'.un) rfl (fun k T' r => ?_)
            rcases r with r | ⟨_, e, _⟩
            · exact hu'.no _ _ r
            · exact (hfar u hu).1 e.symm
          · exact List.pairwise_append.2 ⟨hpw.1, hpw2.2, fun x hx y hy => hpw.2.2 x hx y (List.mem_cons_of_mem _ hy)⟩
          · have hs0 := hG.num
            refine ⟨fun _ _ _ r => .inl (hG.ext _ _ _ r), fun r hk => ?_, by show s0.n ≤ s.n + 1; omega, fun k hk => ?_, hA, hG.below, fun r => ?_, hG.more, fun {k b T' B} hk r hn => ?_, fun b hb hn => hG.other b hb (fun k T' r => hn k T' (.inl r))⟩
            · rcases r with r | ⟨e, _, _⟩
              · exact hG.old r hk
              · omega
            · have := hI0.hf
              show look k ((s.n, _) :: s.h) = _
              rw [look_cons, if_neg (by show ¬ s.n = k; omega)]
              exact hG.keep k hk
            · rcases r with r | ⟨_, e, _⟩
              · exact hG.fresh r
              · exact .inr (by rw [e]; exact hTt.new)
            · obtain ⟨c1, c2⟩ := hG.wrote hk r hn
              have := (hI0.rel.dom r).1
              refine ⟨c1, ?_⟩
              show look k ((s.n, _) :: s.h) = _
              rw [look_cons, if_neg (by show ¬ s.n = k; omega)]
              exact c2
          · rw [q3]
            refine putA_ok (hf.ext (fun _ _ _ r => .inl r)) (some t.d) ?_
            unfold VRel
            exact ⟨t.b, t.C.size, .inr ⟨rfl, rfl, rfl⟩, rfl⟩
          · intro k B hk hn
            have hk1 : k < s0.n := by
              obtain ⟨b', T', r', _⟩ := hI0.rel.blk hk
              exact (hI0.rel.dom r').1
            have := hG.num
            show look k ((s.n, _) :: s.h) = _
            rw [look_cons, if_neg (by show ¬ s.n = k; omega)]
            exact hL k B hk (fun j hj => getD_set_f (hn j hj))
        · have hne : ∀ t ∈ T, t.i ≠ i := fun t ht e => hin ⟨t, ht, e⟩
          have hr := ready_setT p1 hne
          obtain ⟨n, rfl⟩ := fuel_pos hr
          refine ⟨fun h0 => (by rw [h0] at hr; cases hr), fun m hm => ?_⟩
          cases hmf : fl m with
          | true => exact float m hm hmf n rfl
          | false =>
            have := p2 m (noStray hD (mem_ready.1 p1).1 hne p3 hTf hm)
            rw [hmf] at this; cases this
      | pair i j =>
        obtain ⟨p0, p1, p2, p3, ⟨oa, ob, ha, hb, ga, gb, hap, hij⟩, p4⟩ := hp
        have hTn : T = [] := by
          cases T with
          | nil => rfl
          | cons t T => have := (hT t List.mem_cons_self).isf; rw [p0] at this; cases this
        subst hTn
        have hri : i ∈ Region.ready .any ops LP := by rw [p1]; simp
        have hrj : j ∈ Region.ready .any ops LP := by rw [p1]; simp
        have hrj2 : j ∈ Region.ready .any ops (LP.setIfInBounds i true) := by rw [p2]; simp
        have hri2 : i ∈ Region.ready .any ops (LP.setIfInBounds j true) := by rw [p3]; simp
        have c1 := cnt_set (mem_ready.1 hri).1
        have c2 := cnt_set (mem_ready.1 hrj2).1
        have hc' : cnt LP ≤ fuel := hc
        obtain ⟨n, rfl⟩ : ∃ n, fuel = n + 1 + 1 := ⟨fuel - 2, by omega⟩
        simp only [planOne, ha, hb] at h1
        split at h1
        · rename_i u k1 v k2 hu hv
          have h1 := Option.some.inj h1
          injection h1 with e1 h1
          injection h1 with e2 h1
          injection h1 with e3 e4
          subst e1 e2 e3 e4
          obtain ⟨x, _, _, _, hx, _, _, hrx⟩ := load_mem (P := P) hI hf hu
          obtain ⟨y, _, _, _, hy, _, _, hry⟩ := load_mem (P := P) hI hf hv
          obtain ⟨q1, q2, q3⟩ := Oper.apart_spec hap
          have hSi : Stands R0 s0 w0 tf (LP.setIfInBounds i true) w := Stands.set _ _ _ hS
          have hSj : Stands R0 s0 w0 tf (LP.setIfInBounds j true) w := Stands.set _ _ _ hS
          have hSij : Stands R0 s0 w0 tf ((LP.setIfInBounds i true).setIfInBounds j true) w := Stands.set _ _ _ hSi
          have rest : wpAnyU P ops Q (Stands R0 s0 w0 tf) n ((LP.setIfInBounds i true).setIfInBounds j true) ((aP.put oa.dst x).put ob.dst y) w :=
            ih l (T := []) (LP := (LP.setIfInBounds i true).setIfInBounds j true) (aP := (aP.put oa.dst x).put ob.dst y) (by omega) p4 h (Down.set (Down.set hD hri) hrj2) (by show cnt ((LP.setIfInBounds i true).setIfInBounds j true) ≤ n; omega) (fun t ht => by cases ht) .nil hG (putA_ok (putA_ok hf oa.dst hx) ob.dst hy) (by rw [put_defers, put_defers]; exact hd)
              (fun k B hk hn => hL k B hk (fun j' hj' => getD_set_f (getD_set_f (hn j' hj')))) hSij (fun p hp => keep_t (keep_t (htl p hp)))
          refine ⟨fun h0 => (by rw [show Region.ready .any ops LP = [] from h0] at hri; cases hri), fun m hm => ?_⟩
          have hm : m = i ∨ m = j := by rw [show Region.ready .any ops (setT [] LP) = [i, j] from p1] at hm; simpa using hm
          rcases hm with rfl | rfl
          · refine wpOp_load ha ga (hrx w rfl) ⟨hSi, ?_⟩
            refine ⟨fun h0 => (by rw [show Region.ready .any ops (LP.setIfInBounds m true) = [] from h0] at hrj2; cases hrj2), fun m' hm' => ?_⟩
            have hm' : m' = j := by rw [show Region.ready .any ops ((setT [] LP).setIfInBounds m true) = [j] from p2] at hm'; simpa using hm'
            subst hm'
            refine wpOp_load hb gb (w' := w) ?_ ⟨hSij, rest⟩
            show (execOp (aP.put oa.dst x).eval ob).run P w = _
            rw [execOp_put ob (noSel_of hns hb) aP oa.dst x q1]
            exact hry w rfl
          · refine wpOp_load hb gb (hry w rfl) ⟨hSj, ?_⟩
            refine ⟨fun h0 => (by rw [show Region.ready .any ops (LP.setIfInBounds m true) = [] from h0] at hri2; cases hri2), fun m' hm' => ?_⟩
            have hm' : m' = i := by rw [show Region.ready .any ops ((setT [] LP).setIfInBounds m true) = [i] from p3] at hm'; simpa using hm'
            subst hm'
            have hcomm : (setT [] LP).setIfInBounds m true = LP.setIfInBounds m true := rfl
            refine wpOp_load (x := x) ha ga (w' := w) ?_ ?_
            · show (execOp (aP.put ob.dst y).eval oa).run P w = _
              rw [execOp_put oa (noSel_of hns ha) aP ob.dst y q3]
              exact hrx w rfl
            · show Stands R0 s0 w0 tf ((LP.setIfInBounds m true).setIfInBounds m' true) w ∧ wpAnyU P ops Q (Stands R0 s0 w0 tf) n ((LP.setIfInBounds m true).setIfInBounds m' true) ((aP.put ob.dst y).put oa.dst x) w
              rw [Array.setIfInBounds_comm _ _ (Ne.symm hij), ← Act.put_comm aP x y q2]
              exact ⟨hSij, rest⟩
        · cases h1
end
end Go.Proofs.YtjkonfopajihdaaDoor
