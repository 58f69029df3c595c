/- Texts put together: Ev9c Ev10 Ev11 EvT D6 D20 D21 D5 D7 D22 D24 D25 D26 D27 D28 D30 D31 D32 D33 D34 D35 D36 D37 D38 D39 D71 D72 D40 D41 D42 D74 D75. -/
import Derived.Test.YtkbjlijcnlkbgaaDoorQ3
import Derived.Test.YtkbjlijcnlkbgaaDoorRows
import Derived.LaidSub
import Derived.Lib.LaidTab
import Derived.Lib.TrailingZeros
import Derived.Test.YtkbjlijcnlkbgaaDoorQ2
import Derived.BigQuiet
import Derived.Deep.RegionHeld3
import Derived.Deep.MidRow
set_option linter.unusedVariables false
set_option linter.unusedSectionVars false
set_option linter.unusedSimpArgs false
namespace Go.Proofs.YtkbjlijcnlkbgaaDoor
open Go Go.RowKit
variable [Env] [Know]

/-- What stood where the region began stands yet, where no writer has come up. -/
def Stands (R0 : Rho) (s0 : AS) (w0 : World) (tf : List (Nat × Nat)) (L : Array Bool) (w : World) : Prop :=
  ∀ k b T B, look k s0.h = some B → (∀ j, (j, k) ∈ tf → L.getD j false = false) → R0 k b T → w.heap[b]? = w0.heap[b]?
theorem getD_set_f {L : Array Bool} {i j : Nat} (h : (L.setIfInBounds i true).getD j false = false) : L.getD j false = false := by
  cases hc : L.getD j false with
  | false => rfl
  | true => rw [getD_set_true hc] at h; cases h
theorem Stands.set {R0 : Rho} {s0 : AS} {w0 : World} {tf : List (Nat × Nat)} (L : Array Bool) (i : Nat) (w : World) (h : Stands R0 s0 w0 tf L w) : Stands R0 s0 w0 tf (L.setIfInBounds i true) w :=
  fun k b T B hk hn hr => h k b T B hk (fun j hj => getD_set_f (hn j hj)) hr
theorem Stands.unset {R0 : Rho} {s0 : AS} {w0 : World} {tf : List (Nat × Nat)} {i : Nat} (hi : ∀ p ∈ tf, p.1 ≠ i) (L : Array Bool) (w : World) (h : Stands R0 s0 w0 tf (L.setIfInBounds i true) w) : Stands R0 s0 w0 tf L w :=
  fun k b T B hk hn hr => h k b T B hk (fun j hj => by rw [getD_set_ne false (Ne.symm (hi _ hj))]; exact hn j hj) hr
def Live (s0 : AS) (tf : List (Nat × Nat)) (LP : Array Bool) (s : AS) : Prop :=
  ∀ k B, look k s0.h = some B → (∀ j, (j, k) ∈ tf → LP.getD j false = false) → look k s.h = look k s0.h
/-- A cell that was made ahead. -/
structure TkOk (P : Program) (ops : Array Oper) (fl : Nat → Bool) (w0 : World) (R : Rho) (w : World) (LP : Array Bool) (t : Tk) : Prop where
  isf : fl t.i = true
  un : LP.getD t.i true = false
  op : ∃ o inf z, ops[t.i]? = some o ∧ o.op = .alloc t.ty ∧ o.dst = some t.d ∧ P.info? t.ty = some inf ∧ inf.zero = some z ∧ t.C = z.cells
  blk : w.heap[t.b]? = some (.cells t.C t.ty (0, 0))
  new : w0.heap.size ≤ t.b
  no : ∀ k T', ¬ R k t.b T'
def Far (t u : Tk) : Prop := t.b ≠ u.b ∧ t.i ≠ u.i ∧ t.d ≠ u.d
theorem Far.symm {t u : Tk} (h : Far t u) : Far u t := ⟨h.1.symm, h.2.1.symm, h.2.2.symm⟩
theorem wpOp_load {P : Program} {ops : Array Oper} {Q : Exit → Act → World → Prop} {i : Nat} {o : Oper} {K : Act → World → Prop} {a : Act} {w : World} {x : Value} (hi : ops[i]? = some o) (hg : o.guard = none) {w' : World}
    (hr : (execOp a.eval o).run P w = .ok (.value x) w') (h : K (a.put o.dst x) w') : wpOp P ops Q i K a w := by
  unfold wpOp
  simp only [hi]
  rw [if_pos (by simp [Region.wanted, hg])]
  left
  unfold Oper.wp
  rw [hr]
  exact h
theorem noSel_of {ops : Array Oper} (hs : Region.noSelect ops = true) {i : Nat} {o : Oper} (hi : ops[i]? = some o) : ∀ cs b, o.op ≠ .select cs b := fun cs b => Region.noSelect_spec hs i o cs b hi
section
variable {P : Program} {ops : Array Oper} {fl : Nat → Bool} {w0 : World}
theorem TkOk.turn {R R' : Rho} {w w' : World} {LP LP' : Array Bool} {t : Tk} (h : TkOk P ops fl w0 R w LP t) (hun : LP'.getD t.i true = false) (hb : w'.heap[t.b]? = w.heap[t.b]?) (hno : ∀ k T', ¬ R' k t.b T') : TkOk P ops fl w0 R' w' LP' t :=
  ⟨h.isf, hun, h.op, hb.trans h.blk, h.new, hno⟩
theorem TkOk.lt {R : Rho} {w : World} {LP : Array Bool} {t : Tk} (h : TkOk P ops fl w0 R w LP t) : t.b < w.heap.size := by
  rcases Nat.lt_or_ge t.b w.heap.size with c | c
  · exact c
  · have := h.blk; rw [Array.getElem?_eq_none c] at this; cases this
set_option maxHeartbeats 3200000 in
theorem evalPlan_ok (hKn : KnowOk P) {call : CallE} (hcall : CallOk P call) {R0 : Rho} {s0 : AS} {floor base : Nat} (hns : Region.noSelect ops = true) {Q : Exit → Act → World → Prop} (hQ : ∀ c a w, ¬ Q (.panic c) a w)
    (hfl : FloOk P ops fl) {tf : List (Nat × Nat)} (hI0 : Inv R0 s0 w0 floor base) {a0 : Act} {f' : Fr} {s' : AS}
    (hK : ∀ R' a' w', Went R0 R' s0 s' w0 w' floor base → FRel R' f' a'.tmps → a'.defers = a0.defers → Q .normal a' w') :
    ∀ (N : Nat) (l : List Stp) {fuel : Nat} {LP : Array Bool} {T : List Tk} {R : Rho} {f : Fr} {s : AS} {aP : Act} {w : World} {kl tl : List (Nat × Nat)},
      fuel + l.length ≤ N → PlanOk ops fl l LP → evalPlan P call s0 floor ops l f s kl tl = some (f', s', tf) →
      Down ops (setT T LP) → cnt (setT T LP) ≤ fuel → (∀ t ∈ T, TkOk P ops fl w0 R w LP t) → T.Pairwise Far → Went R0 R s0 s w0 w floor base → FRel R f aP.tmps → aP.defers = a0.defers →
      Live s0 tf LP s → Stands R0 s0 w0 tf (setT T LP) w → (∀ p ∈ tl, LP.getD p.1 true = true) →
      wpAnyU P ops Q (Stands R0 s0 w0 tf) fuel (setT T LP) (putT T aP) w := by
  have hsel := Region.noSelect_spec hns
  intro N
  induction N with
  | zero =>
    intro l fuel LP T R f s aP w kl tl hN hp h hD hc hT hTp hG hf hd hL hS htl
    obtain rfl : fuel = 0 := by omega
    obtain rfl : l = [] := List.eq_nil_of_length_eq_zero (by omega)
    have hTn : T = [] := by
      cases T with
      | nil => rfl
      | cons t T =>
        exfalso
        have h1 := hT t List.mem_cons_self
        obtain ⟨o, ty, d, inf, z, g1, g2, g3, g4, g5, g6, g7, g8⟩ := hfl t.i h1.isf
        have : t.i ∈ Region.ready .any ops LP := mem_ready.2 ⟨h1.un, o, g1, fun e he hb => by rw [g7 e he] at hb; cases hb⟩
        rw [show Region.ready .any ops LP = [] from hp] at this
        cases this
    subst hTn
    have h' : some (f, s, tl) = some (f', s', tf) := h
    injection h' with h'
    injection h' with h1 h'
    injection h' with h2 h3
    subst h1 h2
    exact wpAnyU_done hp (hK R aP w hG hf hd) _
  | succ N ih =>
    intro l fuel LP T R f s aP w kl tl hN hp h hD hc hT hTp hG hf hd hL hS htl
    have hI := hG.inv
    have hTf : ∀ t ∈ T, fl t.i = true ∧ LP.getD t.i true = false := fun t ht => ⟨(hT t ht).isf, (hT t ht).un⟩
    have hTf2 : ∀ t ∈ T, fl t.i = true ∧ LP.getD t.i true = false ∧ ∃ o, ops[t.i]? = some o ∧ o.dst = some t.d := fun t ht =>
      let ⟨o, _, _, h1, _, h2, _⟩ := (hT t ht).op
      ⟨(hT t ht).isf, (hT t ht).un, o, h1, h2⟩
    have fuel_pos : ∀ {j}, j ∈ Region.ready .any ops (setT T LP) → ∃ n, fuel = n + 1 := fun {j} hj => by
      have := cnt_pos (mem_ready.1 hj).1
      exact ⟨fuel - 1, by omega⟩
    have cnt_next : ∀ {j n}, j ∈ Region.ready .any ops (setT T LP) → fuel = n + 1 → cnt ((setT T LP).setIfInBounds j true) ≤ n := fun {j n} hj hn => by
      have := cnt_set (mem_ready.1 hj).1
      omega
    -- a floating one is made now
    have float : ∀ m ∈ Region.ready .any ops (setT T LP), fl m = true → ∀ n, fuel = n + 1 →
        wpOp P ops Q m (fun a' w' => Stands R0 s0 w0 tf ((setT T LP).setIfInBounds m true) w' ∧ wpAnyU P ops Q (Stands R0 s0 w0 tf) n ((setT T LP).setIfInBounds m true) a' w') (putT T aP) w := by
      intro m hm hmf n hn
      obtain ⟨o, ty, d, inf, z, g1, g2, g3, g4, g5, g6, g7, g8⟩ := hfl m hmf
      obtain ⟨hun1, hun2⟩ := setT_un (mem_ready.1 hm).1
      let t : Tk := ⟨m, d, w.heap.size, ty, z.cells⟩
      let w1 : World := { w with heap := w.heap.push (.cells z.cells ty) }
      have hbl : Below w.heap.size w w1 := ⟨rfl, rfl, rfl, by show w.heap.size ≤ (w.heap.push _).size; simp, fun k hk => by show (w.heap.push _)[k]? = _; rw [Array.getElem?_push, if_neg (by omega)]⟩
      have hrun : (execOp (putT T aP).eval o).run P w = .ok (.value t.p) w1 := by
        obtain ⟨dst, op, type, pos, after, guard⟩ := o
        simp only at g2
        subst g2
        simp [execOp, Instr.alloc, zeroValue, typeInfo, g5, g6, newVar, newRow, t, Tk.p, w1]
      refine wpOp_load g1 g4 hrun ?_
      have hS1 : Stands R0 s0 w0 tf ((setT T LP).setIfInBounds m true) w1 := by
        refine Stands.set _ _ _ ?_
        intro k b T' B hk hn hr
        refine (hbl.block b ?_).trans (hS k b T' B hk hn hr)
        exact Nat.lt_of_lt_of_le (hI0.rel.dom hr).2 hG.below.size
      refine ⟨hS1, ?_⟩
      rw [g3]
      have hTnew : TkOk P ops fl w0 R w1 LP t := ⟨hmf, hun1, ⟨o, inf, z, g1, g2, g3, g5, g6, rfl⟩, by show (w.heap.push _)[w.heap.size]? = _; simp [t], hG.below.size, fun k T' r => by have := (hI.rel.dom r).2; exact absurd this (Nat.lt_irrefl _)⟩
      refine ih l (T := t :: T) (LP := LP) (R := R) (aP := aP) (by omega) hp h (hD.set hm) (cnt_next hm hn) ?_ ?_ ?_ hf hd hL hS1 htl
      · intro t' ht'
        rcases List.mem_cons.1 ht' with rfl | ht'
        · exact hTnew
        · exact (hT t' ht').turn (hT t' ht').un (hbl.block _ (hT t' ht').lt) (hT t' ht').no
      · refine List.pairwise_cons.2 ⟨fun u hu => ⟨?_, ?_, ?_⟩, hTp⟩
        · have := (hT u hu).lt
          show w.heap.size ≠ u.b
          omega
        · exact Ne.symm (hun2 u hu)
        · obtain ⟨ou, _, _, q1, _, q3, _⟩ := (hT u hu).op
          rcases g8 u.i ou q1 (hun2 u hu) with ⟨e, he, hb, hon⟩ | hap
          · obtain ⟨o2, ty2, d2, inf2, z2, k1, k2, k3, k4, k5, k6, k7, k8⟩ := hfl u.i (hT u hu).isf
            rw [q1] at k1
            injection k1 with k1
            subst k1
            rw [k7 e he] at hb
            cases hb
          · have := (Oper.apart_spec hap).2.1 d g3
            intro e
            exact this (by rw [q3]; exact congrArg some e.symm)
      · exact ⟨hG.ext, hG.old, hG.num, hG.keep, ⟨⟨hI.rel.fn, fun r => ⟨(hI.rel.dom r).1, Nat.lt_of_lt_of_le (hI.rel.dom r).2 hbl.size⟩, hI.rel.inj, fun hk => let ⟨b, T', r, q⟩ := hI.rel.blk hk; ⟨b, T', r, q.of_block (hbl.block b (hI.rel.dom r).2)⟩⟩, Nat.le_trans hI.hb hbl.size, hI.hf, hI.own, fun hg => hI.glo_below hg (hbl.mono hI.hb), hI.kgl⟩, hG.below.trans (hbl.mono hI.hb), hG.fresh, hG.more, fun hk r hn => let ⟨c1, c2⟩ := hG.wrote hk r hn; ⟨(hbl.block _ (Nat.lt_of_lt_of_le (hI0.rel.dom r).2 hG.below.size)).trans c1, c2⟩, fun b hb hn => (hbl.block b (Nat.lt_of_lt_of_le hb hG.below.size)).trans (hG.other b hb hn)⟩
    have setT_t : ∀ {L : Array Bool} {i : Nat}, (L.setIfInBounds i true).getD i true = true := fun {L i} => by
      rcases Nat.lt_or_ge i L.size with h' | h'
      · simp [Array.getD, h']
      · simp [Array.getD, Nat.not_lt.2 h']
    have keep_t : ∀ {L : Array Bool} {i j : Nat}, L.getD j true = true → (L.setIfInBounds i true).getD j true = true := fun {L i j} h => by
      by_cases e : i = j
      · subst e; exact setT_t
      · rw [getD_set_ne true e]; exact h
    have set_tf : ∀ {L : Array Bool} {i : Nat}, L.getD i true = false → (L.setIfInBounds i true).getD i false = true := fun {L i} h => by
      rcases Nat.lt_or_ge i L.size with h' | h'
      · simp [Array.getD, h']
      · simp [Array.getElem?_eq_none h'] at h
    -- on to the next step
    have cont : ∀ {i n : Nat} {r : List Stp} {o : Oper} {R1 : Rho} {f1 : Fr} {s1 : AS} {x : Value} {w1 : World} {kl1 tl1 : List (Nat × Nat)}, fuel = n + 1 → n + r.length ≤ N → PlanOk ops fl r (LP.setIfInBounds i true) → evalPlan P call s0 floor ops r f1 s1 kl1 tl1 = some (f', s', tf) → i ∈ Region.ready .any ops (setT T LP) → (∀ t ∈ T, t.i ≠ i) → (∀ t ∈ T, TkOk P ops fl w0 R1 w1 LP t) → Went R0 R1 s0 s1 w0 w1 floor base →
        FRel R1 f1 (aP.put o.dst x).tmps → Live s0 tf (LP.setIfInBounds i true) s1 → Stands R0 s0 w0 tf ((setT T LP).setIfInBounds i true) w1 → (∀ p ∈ tl1, (LP.setIfInBounds i true).getD p.1 true = true) →
        wpAnyU P ops Q (Stands R0 s0 w0 tf) n ((setT T LP).setIfInBounds i true) (putT T (aP.put o.dst x)) w1 := by
      intro i n r o R1 f1 s1 x w1 kl1 tl1 hn hN' hp' h' hi hne hT' hG' hf' hL' hS' htl'
      have hD' := hD.set hi
      have hc' := cnt_next hi hn
      rw [← setT_set] at hD' hc' hS' ⊢
      refine ih r hN' hp' h' hD' hc' (fun t ht => ?_) hTp hG' hf' (by rw [put_defers]; exact hd) hL' hS' htl'
      exact (hT' t ht).turn (by rw [getD_set_ne true (Ne.symm (hne t ht))]; exact (hT' t ht).un) rfl (hT' t ht).no
    cases l with
    | nil =>
      have hTn : T = [] := by
        cases T with
        | nil => rfl
        | cons t T =>
          exfalso
          have h1 := hT t List.mem_cons_self
          obtain ⟨o, ty, d, inf, z, g1, g2, g3, g4, g5, g6, g7, g8⟩ := hfl t.i h1.isf
          have : t.i ∈ Region.ready .any ops LP := mem_ready.2 ⟨h1.un, o, g1, fun e he hb => by rw [g7 e he] at hb; cases hb⟩
          rw [show Region.ready .any ops LP = [] from hp] at this
          cases this
      subst hTn
      have h' : some (f, s, tl) = some (f', s', tf) := h
      injection h' with h'
      injection h' with h1 h'
      injection h' with h2 h3
      subst h1 h2
      exact wpAnyU_done hp (hK R aP w hG hf hd) _
    | cons t l =>
      rw [evalPlan_cons] at h
      split at h
      case h_2 => cases h
      rename_i f1 s1 kl1 tl1 h1
      have hlen : fuel + (l.length + 1) ≤ N + 1 := hN
      cases t with
      | early i =>
        obtain ⟨p0, p1, p2, p3, p4⟩ := hp
        have hne : ∀ t ∈ T, t.i ≠ i := fun t ht e => by rw [← e, (hT t ht).isf] at p0; cases p0
        have hr := ready_setT p1 hne
        obtain ⟨n, rfl⟩ := fuel_pos hr
        obtain ⟨_, b2, _⟩ := evalPlan_lists l p4 h
        simp only [planOne] at h1
        split at h1
        · rename_i o ho
          have hap := apartT hfl ho p1 hTf2 hne
          have go : ∀ {v : AV} {x : Value}, VRel R v x → YieldsIf P ops (Si ops (Stands R0 s0 w0 tf) i) o x (putT T aP) → (putA f o.dst v, s, kl, tl) = (f1, s1, kl1, tl1) → wpAnyU P ops Q (Stands R0 s0 w0 tf) (n + 1) (setT T LP) (putT T aP) w := by
            intro v x hx hy he
            injection he with e1 he
            injection he with e2 he
            injection he with e3 e4
            subst e1 e2 e3 e4
            have hin2 : ∀ p ∈ tf, p.1 ≠ i := fun p hp e => by
              rcases b2 p hp with h2 | h2
              · have := htl p h2
                rw [e, (mem_ready.1 p1).1] at this
                cases this
              · rw [e, setT_t] at h2; cases h2
            refine wpAnyU_take hns (fun L i w h => Stands.set L i w h) hQ ho (free_setT p2) (Stands.unset hin2) hr hD hy hS ?_
            rw [← putT_put T aP o.dst x (fun t ht => (hap t ht).2)]
            exact cont rfl (by omega) p4 h hr hne hT hG (putA_ok hf o.dst hx) (fun k B hk hn => hL k B hk (fun j hj => getD_set_f (hn j hj))) (Stands.set _ _ _ hS) (fun p hp => keep_t (htl p hp))
          split at h1
          · rename_i hw
            have hw := wantA_ok hf hw
            split at h1
            · rename_i v hv
              obtain ⟨x, hx, hrun⟩ := evalWl_ok hKn hv hf
              exact go hx (.inl ⟨by rw [wanted_putT T aP hap]; exact hw, fun w' _ => by rw [execOp_putT (noSel_of hns ho) T aP hap]; exact hrun w'⟩) (Option.some.inj h1)
            · cases h1
          · rename_i hw
            have hw := wantA_ok hf hw
            exact go (VRel.lit_ undef) (.inr ⟨by rw [wanted_putT T aP hap]; exact hw, rfl⟩) (Option.some.inj h1)
          · cases h1
        · cases h1
      | held i =>
        obtain ⟨p0, p1, p2, p3, p4⟩ := hp
        have hne : ∀ t ∈ T, t.i ≠ i := fun t ht e => by rw [← e, (hT t ht).isf] at p0; cases p0
        have hr := ready_setT p1 hne
        obtain ⟨n, rfl⟩ := fuel_pos hr
        obtain ⟨_, b2, b3⟩ := evalPlan_lists l p4 h
        simp only [planOne] at h1
        split at h1
        · rename_i o ho
          have hap := apartT hfl ho p1 hTf2 hne
          have go : ∀ {v : AV} {x : Value}, VRel R v x → YieldsIf P ops (Si ops (Stands R0 s0 w0 tf) i) o x (putT T aP) → putA f o.dst v = f1 → s = s1 → tl = tl1 → wpAnyU P ops Q (Stands R0 s0 w0 tf) (n + 1) (setT T LP) (putT T aP) w := by
            intro v x hx hy e1 e2 e4
            subst e1 e2 e4
            have hin2 : ∀ p ∈ tf, p.1 ≠ i := fun p hp e => by
              rcases b2 p hp with h2 | h2
              · have := htl p h2
                rw [e, (mem_ready.1 p1).1] at this
                cases this
              · rw [e, setT_t] at h2; cases h2
            refine wpAnyU_take hns (fun L i w h => Stands.set L i w h) hQ ho (free_setT p2) (Stands.unset hin2) hr hD hy hS ?_
            rw [← putT_put T aP o.dst x (fun t ht => (hap t ht).2)]
            exact cont rfl (by omega) p4 h hr hne hT hG (putA_ok hf o.dst hx) (fun k B hk hn => hL k B hk (fun j hj => getD_set_f (hn j hj))) (Stands.set _ _ _ hS) (fun p hp => keep_t (htl p hp))
          split at h1
          · rename_i hw
            have hw := wantA_ok hf hw
            split at h1
            · rename_i v k hv
              split at h1
              · rename_i B0 hB0 htk
                have h1 := Option.some.inj h1
                injection h1 with e1 h1
                injection h1 with e2 h1
                injection h1 with e3 e4
                obtain ⟨x, b, T', B, hx, hB, hrb, hrun⟩ := load_mem (P := P) hI hf hv
                have hk0 : k < s0.n := by
                  obtain ⟨b', T', r', _⟩ := hI0.rel.blk hB0
                  exact (hI0.rel.dom r').1
                have hr0' := hG.old hrb hk0
                have good : ∀ {L : Array Bool} {w' : World}, Down ops L → L.getD i true = false → Stands R0 s0 w0 tf L w' → w'.heap[b]? = w0.heap[b]? := by
                  intro L w' hDL hiL hSL
                  refine hSL k b T' B0 hB0 (fun j hj => ?_) hr0'
                  rcases b3 (i, k) (by rw [← e3]; exact List.mem_cons_self) (j, k) hj rfl with h2 | h2
                  · rw [← e4] at h2
                    exact absurd rfl (hasK_false htk _ h2)
                  · cases hc : L.getD j false with
                    | false => rfl
                    | true =>
                      have := hDL.of_listed h2 hc
                      rw [getD_tf hiL] at this
                      cases this
                refine go hx (.inl ⟨by rw [wanted_putT T aP hap]; exact hw, fun w' hw' => ?_⟩) e1 e2 e4
                rw [execOp_putT (noSel_of hns ho) T aP hap]
                obtain ⟨L, hDL, hiL, hSL⟩ := hw'
                exact hrun w' ((good hDL hiL hSL).trans (good hD (mem_ready.1 hr).1 hS).symm)
              · cases h1
            · cases h1
          · rename_i hw
            have hw := wantA_ok hf hw
            have h1 := Option.some.inj h1
            injection h1 with e1 h1
            injection h1 with e2 h1
            injection h1 with e3 e4
            exact go (VRel.lit_ undef) (.inr ⟨by rw [wanted_putT T aP hap]; exact hw, rfl⟩) e1 e2 e4
          · cases h1
        · cases h1
      | solo i =>
        obtain ⟨p0, p1, p2, p3, p4⟩ := hp
        have hne : ∀ t ∈ T, t.i ≠ i := fun t ht e => by rw [← e, (hT t ht).isf] at p0; cases p0
        have hr := ready_setT p1 hne
        obtain ⟨n, rfl⟩ := fuel_pos hr
        obtain ⟨b1, b2, b3⟩ := evalPlan_lists l p4 h
        have hiu := (mem_ready.1 p1).1
        refine ⟨fun h0 => (by rw [h0] at hr; cases hr), fun m hm => ?_⟩
        cases hmf : fl m with
        | true => exact float m hm hmf n rfl
        | false =>
          have hmi : m = i := by
            rcases p2 m (noStray hD hiu hne p3 hTf hm) with e | e
            · exact e
            · rw [hmf] at e; cases e
          subst hmi
          simp only [planOne] at h1
          split at h1
          · rename_i o ho
            have hap := apartT hfl ho p1 hTf2 hne
            refine wpOp_putT hQ ho (noSel_of hns ho) T hap ?_
            unfold wpOp
            simp only [ho]
            split at h1
            · rename_i hw
              have hw := wantA_ok hf hw
              rw [if_pos hw]
              left
              split at h1
              · rename_i v s2 hv
                split at h1
                · have h1 := Option.some.inj h1
                  injection h1 with e1 h1
                  injection h1 with e2 h1
                  injection h1 with e3 e4
                  rw [appL_eq, mapL_eq] at e4
                  subst e1 e2
                  have htg : ∀ k, k ∈ s2.wr → (m, k) ∈ tf := fun k hk => b1 _ (by rw [← e4]; exact List.mem_append_left _ (List.mem_map.2 ⟨k, hk, rfl⟩))
                  have htl1 : ∀ p ∈ tl1, (LP.setIfInBounds m true).getD p.1 true = true := fun p hp => by
                    rw [← e4] at hp
                    rcases List.mem_append.1 hp with hp | hp
                    · obtain ⟨k', _, rfl⟩ := List.mem_map.1 hp
                      exact setT_t
                    · exact keep_t (htl p hp)
                  refine evalOp_ok hKn hcall (hI.wr_ []) hf hv fun R' x w' hx hg0 => ?_
                  have hg := hg0.merge
                  have hS' : Stands R0 s0 w0 tf ((setT T LP).setIfInBounds m true) w' := by
                    intro k b T' B hk hn hrb
                    have hk2 := hL k B hk (fun j hj => by
                      cases hc : LP.getD j false with
                      | false => rfl
                      | true =>
                        have := getD_set_f (hn j hj)
                        rw [setT_up hc] at this; cases this)
                    rw [hk] at hk2
                    have := (hg0.wrote hk2 (hG.ext _ _ _ hrb) (fun e => by
                      have h9 := hn m (htg k e)
                      rw [set_tf (mem_ready.1 hr).1] at h9; cases h9)).1
                    exact this.trans (hS k b T' B hk (fun j hj => getD_set_f (hn j hj)) hrb)
                  refine ⟨hS', ?_⟩
                  refine cont rfl (by omega) p4 h hr hne (fun t ht => ?_) (hG.trans hg) (putA_ok (hf.ext hg.ext) o.dst hx) (fun k B hk hn => ?_) hS' htl1
                  · have hno : ∀ k T', ¬ R' k t.b T' := fun k T' r => by
                      rcases hg.fresh r with ⟨k0, T0, r0⟩ | hb
                      · exact (hT t ht).no _ _ r0
                      · have := (hT t ht).lt; omega
                    exact (hT t ht).turn (hT t ht).un (hg.other t.b (hT t ht).lt hno) hno
                  · have hk2 := hL k B hk (fun j hj => getD_set_f (hn j hj))
                    have hk3 := hk2
                    rw [hk] at hk3
                    obtain ⟨b, T', r, _⟩ := hI.rel.blk hk3
                    exact ((hg0.wrote hk3 r (fun e => by
                      have h9 := hn m (htg k e)
                      rw [set_tf hiu] at h9; cases h9)).2).trans hk2
                · cases h1
              · cases h1
            · rename_i hw
              have hw := wantA_ok hf hw
              rw [if_neg (by simp [hw])]
              have h1 := Option.some.inj h1
              injection h1 with e1 h1
              injection h1 with e2 h1
              injection h1 with e3 e4
              subst e1 e2 e4
              exact ⟨Stands.set _ _ _ hS, cont rfl (by omega) p4 h hr hne hT hG (putA_ok hf o.dst (VRel.lit_ _)) (fun k B hk hn => hL k B hk (fun j hj => getD_set_f (hn j hj))) (Stands.set _ _ _ hS) (fun p hp => keep_t (htl p hp))⟩
            · cases h1
          · cases h1
      | flo i =>
        obtain ⟨p0, p1, p2, p3, p4⟩ := hp
        by_cases hin : ∃ t ∈ T, t.i = i
        · obtain ⟨t, ht, rfl⟩ := hin
          obtain ⟨T1, T2, rfl⟩ := List.append_of_mem ht
          have hpw := List.pairwise_append.1 hTp
          have hpw2 := List.pairwise_cons.1 hpw.2.1
          have hTt := hT t ht
          obtain ⟨o, inf, z, q1, q2, q3, q4, q5, q6⟩ := hTt.op
          have hfar : ∀ u ∈ T1 ++ T2, Far t u := fun u hu => by
            rcases List.mem_append.1 hu with hu | hu
            · exact (hpw.2.2 u hu t List.mem_cons_self).symm
            · exact hpw2.1 u hu
          have hsub : ∀ u ∈ T1 ++ T2, u ∈ T1 ++ t :: T2 := fun u hu => by
            rcases List.mem_append.1 hu with hu | hu
            · exact List.mem_append_left _ hu
            · exact List.mem_append_right _ (List.mem_cons_of_mem _ hu)
          simp only [planOne, q1, q2, q4, q5] at h1
          have h1 := Option.some.inj h1
          injection h1 with e1 h1
          injection h1 with e2 h1
          injection h1 with e3 e4
          subst e1 e2 e3 e4
          rw [setT_out] at hD hc hS ⊢
          rw [putT_out T1 aP (fun u hu => (hpw2.1 u hu).2.2)]
          have hnb := hTt.no
          have hC : t.C.toList.take (mapL AV.lit z.cells.toList).length = z.cells.toList := by rw [q6, mapL_eq, List.length_map, List.take_length]
          have hA := hI.adopt (B := mapL AV.lit z.cells.toList) hTt.blk (Nat.le_trans hI0.hb hTt.new) hnb (by rw [hC, mapL_eq]; exact VRels.lits_ _) (by rw [mapL_eq, q6]; simp) (fz0 _)
          refine ih l (LP := LP.setIfInBounds t.i true) (T := T1 ++ T2) (R := fun k b T' => R k b T' ∨ (k = s.n ∧ b = t.b ∧ T' = t.C.size)) (aP := aP.put (some t.d) t.p) (by omega) p4 h hD hc (fun u hu => ?_) ?_ ?_ ?_ (by rw [put_defers]; exact hd) ?_ hS (fun p hp => keep_t (htl p hp))
          · have hu' := hT u (hsub u hu)
            refine hu'.turn (by rw [getD_set_ne true (hfar u hu).2.1]; exact hu'.un) rfl (fun k T' r => ?_)
            rcases r with r | ⟨_, e, _⟩
            · exact hu'.no _ _ r
            · exact (hfar u hu).1 e.symm
          · exact List.pairwise_append.2 ⟨hpw.1, hpw2.2, fun x hx y hy => hpw.2.2 x hx y (List.mem_cons_of_mem _ hy)⟩
          · have hs0 := hG.num
            refine ⟨fun _ _ _ r => .inl (hG.ext _ _ _ r), fun r hk => ?_, by show s0.n ≤ s.n + 1; omega, fun k hk => ?_, hA, hG.below, fun r => ?_, hG.more, fun {k b T' B} hk r hn => ?_, fun b hb hn => hG.other b hb (fun k T' r => hn k T' (.inl r))⟩
            · rcases r with r | ⟨e, _, _⟩
              · exact hG.old r hk
              · omega
            · have := hI0.hf
              show look k ((s.n, _) :: s.h) = _
              rw [look_cons, if_neg (by show ¬ s.n = k; omega)]
              exact hG.keep k hk
            · rcases r with r | ⟨_, e, _⟩
              · exact hG.fresh r
              · exact .inr (by rw [e]; exact hTt.new)
            · obtain ⟨c1, c2⟩ := hG.wrote hk r hn
              have := (hI0.rel.dom r).1
              refine ⟨c1, ?_⟩
              show look k ((s.n, _) :: s.h) = _
              rw [look_cons, if_neg (by show ¬ s.n = k; omega)]
              exact c2
          · rw [q3]
            refine putA_ok (hf.ext (fun _ _ _ r => .inl r)) (some t.d) ?_
            unfold VRel
            exact ⟨t.b, t.C.size, .inr ⟨rfl, rfl, rfl⟩, rfl⟩
          · intro k B hk hn
            have hk1 : k < s0.n := by
              obtain ⟨b', T', r', _⟩ := hI0.rel.blk hk
              exact (hI0.rel.dom r').1
            have := hG.num
            show look k ((s.n, _) :: s.h) = _
            rw [look_cons, if_neg (by show ¬ s.n = k; omega)]
            exact hL k B hk (fun j hj => getD_set_f (hn j hj))
        · have hne : ∀ t ∈ T, t.i ≠ i := fun t ht e => hin ⟨t, ht, e⟩
          have hr := ready_setT p1 hne
          obtain ⟨n, rfl⟩ := fuel_pos hr
          refine ⟨fun h0 => (by rw [h0] at hr; cases hr), fun m hm => ?_⟩
          cases hmf : fl m with
          | true => exact float m hm hmf n rfl
          | false =>
            have := p2 m (noStray hD (mem_ready.1 p1).1 hne p3 hTf hm)
            rw [hmf] at this; cases this
      | pair i j =>
        obtain ⟨p0, p1, p2, p3, ⟨oa, ob, ha, hb, ga, gb, hap, hij⟩, p4⟩ := hp
        have hTn : T = [] := by
          cases T with
          | nil => rfl
          | cons t T => have := (hT t List.mem_cons_self).isf; rw [p0] at this; cases this
        subst hTn
        have hri : i ∈ Region.ready .any ops LP := by rw [p1]; simp
        have hrj : j ∈ Region.ready .any ops LP := by rw [p1]; simp
        have hrj2 : j ∈ Region.ready .any ops (LP.setIfInBounds i true) := by rw [p2]; simp
        have hri2 : i ∈ Region.ready .any ops (LP.setIfInBounds j true) := by rw [p3]; simp
        have c1 := cnt_set (mem_ready.1 hri).1
        have c2 := cnt_set (mem_ready.1 hrj2).1
        have hc' : cnt LP ≤ fuel := hc
        obtain ⟨n, rfl⟩ : ∃ n, fuel = n + 1 + 1 := ⟨fuel - 2, by omega⟩
        simp only [planOne, ha, hb] at h1
        split at h1
        · rename_i u k1 v k2 hu hv
          have h1 := Option.some.inj h1
          injection h1 with e1 h1
          injection h1 with e2 h1
          injection h1 with e3 e4
          subst e1 e2 e3 e4
          obtain ⟨x, _, _, _, hx, _, _, hrx⟩ := load_mem (P := P) hI hf hu
          obtain ⟨y, _, _, _, hy, _, _, hry⟩ := load_mem (P := P) hI hf hv
          obtain ⟨q1, q2, q3⟩ := Oper.apart_spec hap
          have hSi : Stands R0 s0 w0 tf (LP.setIfInBounds i true) w := Stands.set _ _ _ hS
          have hSj : Stands R0 s0 w0 tf (LP.setIfInBounds j true) w := Stands.set _ _ _ hS
          have hSij : Stands R0 s0 w0 tf ((LP.setIfInBounds i true).setIfInBounds j true) w := Stands.set _ _ _ hSi
          have rest : wpAnyU P ops Q (Stands R0 s0 w0 tf) n ((LP.setIfInBounds i true).setIfInBounds j true) ((aP.put oa.dst x).put ob.dst y) w :=
            ih l (T := []) (LP := (LP.setIfInBounds i true).setIfInBounds j true) (aP := (aP.put oa.dst x).put ob.dst y) (by omega) p4 h (Down.set (Down.set hD hri) hrj2) (by show cnt ((LP.setIfInBounds i true).setIfInBounds j true) ≤ n; omega) (fun t ht => by cases ht) .nil hG (putA_ok (putA_ok hf oa.dst hx) ob.dst hy) (by rw [put_defers, put_defers]; exact hd)
              (fun k B hk hn => hL k B hk (fun j' hj' => getD_set_f (getD_set_f (hn j' hj')))) hSij (fun p hp => keep_t (keep_t (htl p hp)))
          refine ⟨fun h0 => (by rw [show Region.ready .any ops LP = [] from h0] at hri; cases hri), fun m hm => ?_⟩
          have hm : m = i ∨ m = j := by rw [show Region.ready .any ops (setT [] LP) = [i, j] from p1] at hm; simpa using hm
          rcases hm with rfl | rfl
          · refine wpOp_load ha ga (hrx w rfl) ⟨hSi, ?_⟩
            refine ⟨fun h0 => (by rw [show Region.ready .any ops (LP.setIfInBounds m true) = [] from h0] at hrj2; cases hrj2), fun m' hm' => ?_⟩
            have hm' : m' = j := by rw [show Region.ready .any ops ((setT [] LP).setIfInBounds m true) = [j] from p2] at hm'; simpa using hm'
            subst hm'
            refine wpOp_load hb gb (w' := w) ?_ ⟨hSij, rest⟩
            show (execOp (aP.put oa.dst x).eval ob).run P w = _
            rw [execOp_put ob (noSel_of hns hb) aP oa.dst x q1]
            exact hry w rfl
          · refine wpOp_load hb gb (hry w rfl) ⟨hSj, ?_⟩
            refine ⟨fun h0 => (by rw [show Region.ready .any ops (LP.setIfInBounds m true) = [] from h0] at hri2; cases hri2), fun m' hm' => ?_⟩
            have hm' : m' = i := by rw [show Region.ready .any ops ((setT [] LP).setIfInBounds m true) = [i] from p3] at hm'; simpa using hm'
            subst hm'
            have hcomm : (setT [] LP).setIfInBounds m true = LP.setIfInBounds m true := rfl
            refine wpOp_load (x := x) ha ga (w' := w) ?_ ?_
            · show (execOp (aP.put ob.dst y).eval oa).run P w = _
              rw [execOp_put oa (noSel_of hns ha) aP ob.dst y q3]
              exact hrx w rfl
            · show Stands R0 s0 w0 tf ((LP.setIfInBounds m true).setIfInBounds m' true) w ∧ wpAnyU P ops Q (Stands R0 s0 w0 tf) n ((LP.setIfInBounds m true).setIfInBounds m' true) ((aP.put ob.dst y).put oa.dst x) w
              rw [Array.setIfInBounds_comm _ _ (Ne.symm hij), ← Act.put_comm aP x y q2]
              exact ⟨hSij, rest⟩
        · cases h1
end
end Go.Proofs.YtkbjlijcnlkbgaaDoor
set_option linter.unusedVariables false
set_option linter.unusedSectionVars false
set_option linter.unusedSimpArgs false
namespace Go.Proofs.YtkbjlijcnlkbgaaDoor
open Go Go.RowKit
variable [Env] [Know]

theorem readyL_eq (m : Nat) (l : List Rec) : readyL m l = l.filter (readyR m) := by
  induction l with
  | nil => rfl
  | cons r l ih =>
    show (Bool.rec (readyL m l) (r :: readyL m l) (readyR m r) : List Rec) = _
    rw [List.filter_cons, ih]
    cases readyR m r <;> rfl
theorem without_eq (i : Nat) (l : List Rec) : without i l = l.filter (fun r => !Nat.beq r.i i) := by
  induction l with
  | nil => rfl
  | cons r l ih =>
    show (Bool.rec (r :: without i l) (without i l) (Nat.beq r.i i) : List Rec) = _
    rw [List.filter_cons, ih]
    cases Nat.beq r.i i <;> rfl
theorem firstR_some {t : Oper → Bool} {m : Nat} {all : List Rec} {r : Rec} : ∀ {l : List Rec}, firstR t m all l = some r → r ∈ l ∧ t r.o = true ∧ readyR m r = true ∧ freeR all r = true
  | q :: l, h => by
    have h' : (Bool.rec (firstR t m all l) (some q) (t q.o && (readyR m q && freeR all q)) : Option Rec) = some r := h
    cases hb : (t q.o && (readyR m q && freeR all q)) with
    | true =>
      rw [hb] at h'
      injection h' with h'
      subst h'
      simp only [Bool.and_eq_true] at hb
      exact ⟨List.mem_cons_self, hb.1, hb.2.1, hb.2.2⟩
    | false =>
      rw [hb] at h'
      obtain ⟨h1, h2⟩ := firstR_some h'
      exact ⟨List.mem_cons_of_mem _ h1, h2⟩
theorem readyR_iff (m : Nat) (r : Rec) : readyR m r = true ↔ ∀ j, r.deps.testBit j = true → m.testBit j = true := by
  unfold readyR
  constructor
  · intro h j hj
    have h := Nat.eq_of_beq_eq_true h
    rw [← h, Nat.testBit_and] at hj
    simp only [Bool.and_eq_true] at hj
    exact hj.2
  · intro h
    have : r.deps &&& m = r.deps := by
      apply Nat.eq_of_testBit_eq
      intro j
      rw [Nat.testBit_and]
      cases hj : r.deps.testBit j with
      | false => rfl
      | true => rw [h j hj]; rfl
    rw [this]
    exact Nat.beq_refl _
theorem readyR_mono {m i : Nat} {r : Rec} (h : readyR m r = true) : readyR (m ||| 2 ^ i) r = true := by
  rw [readyR_iff] at h ⊢
  intro j hj
  rw [testBit_or_pow, h j hj]; rfl
/-- m tells what is listed, l what is not. -/
structure Corr (ops : Array Oper) (m : Nat) (l : List Rec) (listed : Array Bool) : Prop where
  size : listed.size = ops.size
  bit : ∀ i, i < ops.size → listed.getD i true = m.testBit i
  top : ∀ i, m.testBit i = true → i < ops.size
  rest : l = (allR ops).filter (fun r => !m.testBit r.i)
section
variable {ops : Array Oper} {m : Nat} {l : List Rec} {listed : Array Bool}
theorem Corr.getF (h : Corr ops m l listed) (i : Nat) : listed.getD i false = m.testBit i := by
  by_cases hi : i < ops.size
  · have h1 := h.bit i hi
    have h2 : i < listed.size := by rw [h.size]; exact hi
    simp [Array.getD, h2] at h1 ⊢
    exact h1
  · have h2 : ¬ i < listed.size := by rw [h.size]; exact hi
    have h3 : m.testBit i = false := by
      cases hb : m.testBit i with
      | false => rfl
      | true => exact absurd (h.top i hb) hi
    rw [h3]
    simp [Array.getD, h2]
theorem Corr.mem (h : Corr ops m l listed) {r : Rec} (hr : r ∈ l) : r ∈ allR ops ∧ m.testBit r.i = false := by
  rw [h.rest] at hr
  have := List.mem_filter.1 hr
  exact ⟨this.1, by simpa using this.2⟩
theorem Corr.ready_iff (h : Corr ops m l listed) {r : Rec} (hr : r ∈ allR ops) : (!listed.getD r.i true && ((ops[r.i]?).map (·.after.all fun e => !Region.binds .any e || listed.getD e.on false)).getD false) = (!m.testBit r.i && readyR m r) := by
  obtain ⟨h1, h2, h3⟩ := allR_mem hr
  have hi : r.i < ops.size := (Array.getElem?_eq_some_iff.1 h1).1
  rw [h.bit _ hi, h1, Option.map_some, Option.getD_some]
  congr 1
  rw [Bool.eq_iff_iff, readyR_iff, h2]
  simp only [Array.all_eq_true_iff_forall_mem, Bool.or_eq_true, Bool.not_eq_true', depM_bit]
  constructor
  · rintro ha j ⟨e, he, hb, rfl⟩
    rcases ha e he with h | h'
    · rw [hb] at h; cases h
    · rw [h.getF] at h'; exact h'
  · intro ha e he
    cases hb : Region.binds .any e with
    | false => exact .inl rfl
    | true => exact .inr (by rw [h.getF]; exact ha _ ⟨e, he, hb, rfl⟩)
theorem Corr.ready (h : Corr ops m l listed) : Region.ready .any ops listed = (l.filter (readyR m)).map (·.i) := by
  unfold Region.ready
  rw [← allR_map, List.filter_map, h.rest, List.filter_filter]
  congr 1
  apply List.filter_congr
  intro r hr
  have := h.ready_iff hr
  simp only [Function.comp]
  rw [this, Bool.and_comm]
theorem Corr.set (h : Corr ops m l listed) {r : Rec} (hr : r ∈ l) : Corr ops (m ||| 2 ^ r.i) (without r.i l) (listed.setIfInBounds r.i true) := by
  obtain ⟨h1, h2⟩ := h.mem hr
  have hi : r.i < ops.size := (Array.getElem?_eq_some_iff.1 (allR_mem h1).1).1
  refine ⟨by simp [h.size], fun i hi' => ?_, fun i hb => ?_, ?_⟩
  · rw [testBit_or_pow]
    by_cases he : r.i = i
    · subst he
      have : r.i < listed.size := by rw [h.size]; exact hi
      simp [Array.getD, this]
    · rw [← h.bit i hi']
      simp [Array.getD_eq_getD_getElem?, Array.getElem?_setIfInBounds_ne he, he]
  · rw [testBit_or_pow] at hb
    simp only [Bool.or_eq_true, decide_eq_true_eq] at hb
    rcases hb with hb | hb
    · exact h.top i hb
    · omega
  · rw [without_eq, h.rest, List.filter_filter]
    apply List.filter_congr
    intro q hq
    rw [testBit_or_pow, Bool.not_or, Bool.and_comm]
    congr 1
    cases hb : Nat.beq q.i r.i with
    | true => have := Nat.eq_of_beq_eq_true hb; simp [this]
    | false =>
      have := Nat.ne_of_beq_eq_false hb
      simp
      exact fun e => this e.symm
theorem apartR_ok {x y : Rec} (hx : x.looks = lookM ops x.o) (hy : y.looks = lookM ops y.o) (h : apartR x y = true) : x.o.apart ops y.o = true := by
  unfold apartR at h
  simp only [Bool.and_eq_true, Bool.not_eq_true'] at h
  obtain ⟨h1, h2, h3⟩ := h
  have nb : ∀ {d : Option Tmp} {o : Oper} {mm : Nat}, mm = lookM ops o → hitM d mm = false → ∀ t, d = some t → (o.looksAt ops).contains t = false := by
    intro d o mm e hh t ht
    subst e ht
    simp only [hitM] at hh
    cases hc : (o.looksAt ops).contains t with
    | false => rfl
    | true =>
      rw [(lookM_bit ops o t).2 (by simpa using hc)] at hh
      cases hh
  unfold Oper.apart
  have e1 : ∀ t, x.o.dst = some t → ((y.o.looksAt ops).contains t = false ∧ y.o.dst ≠ some t) := by
    intro t ht
    refine ⟨nb hy h1 t ht, fun e => ?_⟩
    rw [ht, e] at h2
    simp only [sameD] at h2
    exact absurd rfl (Nat.ne_of_beq_eq_false h2)
  have e2 := nb hx h3
  cases hxd : x.o.dst with
  | none =>
    cases hyd : y.o.dst with
    | none => rfl
    | some t =>
      have h5 := e2 t hyd
      show (true && !(x.o.looksAt ops).contains t) = true
      rw [h5]; rfl
  | some t =>
    obtain ⟨a1, a2⟩ := e1 t hxd
    cases hyd : y.o.dst with
    | none =>
      show ((!(y.o.looksAt ops).contains t && (none != some t)) && true) = true
      rw [a1]; rfl
    | some u =>
      have hut : (some u != some t) = true := by
        have : ¬ u = t := fun e => a2 (by rw [hyd, e])
        simp [this]
      have h5 := e2 u hyd
      show ((!(y.o.looksAt ops).contains t && (some u != some t)) && !(x.o.looksAt ops).contains u) = true
      rw [a1, h5, hut]; rfl
theorem Corr.free (h : Corr ops m l listed) {r : Rec} (hr : r ∈ l) (hf : freeR l r = true) : Region.free .any ops listed r.i = true := by
  obtain ⟨h1, _⟩ := h.mem hr
  obtain ⟨g1, g2, g3⟩ := allR_mem h1
  unfold freeR at hf
  rw [allL_eq, List.all_eq_true] at hf
  unfold Region.free
  simp only [g1, List.all_eq_true, List.mem_range]
  intro j hj
  obtain ⟨q, hq, rfl⟩ := allR_ex hj
  obtain ⟨k1, k2, k3⟩ := allR_mem hq
  rw [k1]
  by_cases hij : q.i = r.i
  · simp [hij]
  rw [h.bit _ hj]
  cases hb : m.testBit q.i with
  | true => simp
  | false =>
    have hql : q ∈ l := by rw [h.rest]; exact List.mem_filter.2 ⟨hq, by simp [hb]⟩
    have := hf q hql
    simp only [Bool.or_eq_true] at this
    rcases this with h' | h' | h'
    · exact absurd (Nat.eq_of_beq_eq_true h') hij
    · rw [k2, depM_bit] at h'
      obtain ⟨e, he, hb2, hon⟩ := h'
      simp only [Bool.or_eq_true]
      right; left
      rw [Array.any_eq_true']
      exact ⟨e, he, by simp [hb2, hon]⟩
    · simp only [Bool.or_eq_true]
      right; right
      exact apartR_ok g3 k3 h'
theorem Corr.mem_ready (h : Corr ops m l listed) {r : Rec} (hr : r ∈ l) (hf : readyR m r = true) : r.i ∈ Region.ready .any ops listed := by
  rw [h.ready]
  exact List.mem_map.2 ⟨r, List.mem_filter.2 ⟨hr, hf⟩, rfl⟩
theorem plain_eq (fs : Nat) (l : List Rec) : plain fs l = l.filter (fun r => !fs.testBit r.i) := by
  induction l with
  | nil => rfl
  | cons r l ih =>
    show (Bool.rec (r :: plain fs l) (plain fs l) (fs.testBit r.i) : List Rec) = _
    rw [List.filter_cons, ih]
    cases fs.testBit r.i <;> rfl
theorem pendM_bit {fs i x : Nat} {q : Rec} : ∀ {l : List Rec}, q ∈ l → q.i = x → fs.testBit x = true → x ≠ i → (pendM fs i l).testBit x = true
  | r :: l, hq, hx, hf, hn => by
    show (Bool.rec (pendM fs i l) (pendM fs i l ||| 2 ^ r.i) (fs.testBit r.i && !Nat.beq r.i i) : Nat).testBit x = true
    rcases List.mem_cons.1 hq with rfl | hq
    · have hb : (fs.testBit q.i && !Nat.beq q.i i) = true := by
        rw [hx, hf]
        cases hc : Nat.beq x i with
        | false => rfl
        | true => exact absurd (Nat.eq_of_beq_eq_true hc) hn
      rw [hb]
      show (pendM fs i l ||| 2 ^ q.i).testBit x = true
      rw [testBit_or_pow, hx]; simp
    · have ih := pendM_bit (l := l) hq hx hf hn
      cases (fs.testBit r.i && !Nat.beq r.i i) with
      | false => exact ih
      | true =>
        show (pendM fs i l ||| 2 ^ r.i).testBit x = true
        rw [testBit_or_pow, ih]; rfl
theorem Corr.un_mem (h : Corr ops m l listed) {i : Nat} (hi : listed.getD i true = false) : ∃ r ∈ l, r.i = i := by
  have hs : i < ops.size := by
    rw [← h.size]
    rcases Nat.lt_or_ge i listed.size with h' | h'
    · exact h'
    · simp [Array.getElem?_eq_none h'] at hi
  obtain ⟨r, hr, e⟩ := allR_ex hs
  refine ⟨r, ?_, e⟩
  rw [h.rest]
  refine List.mem_filter.2 ⟨hr, ?_⟩
  rw [e, ← h.bit i hs, hi]; rfl
theorem Corr.wt (h : Corr ops m l listed) {fs r : Nat} (hw : wtB fs (allR ops) l r = true) : Wt ops (fun i => fs.testBit i) listed r := by
  intro i hf hne hun j oj hoj hjun ⟨e, he, hb, hon⟩
  have hf : fs.testBit i = true := hf
  unfold wtB at hw
  rw [Bool.or_eq_true, allL_eq, List.all_eq_true] at hw
  rcases hw with hw | hw
  · have := Nat.eq_of_beq_eq_true hw
    subst this
    simp at hf
  · obtain ⟨ri, hri, hrie⟩ := h.un_mem hun
    obtain ⟨q, hq, hqe⟩ := h.un_mem hjun
    obtain ⟨g1, g2, _⟩ := allR_mem (h.mem hq).1
    subst hqe
    rw [hoj] at g1
    injection g1 with g1
    have hd : q.deps.testBit i = true := by
      rw [g2, depM_bit, ← g1]
      exact ⟨e, he, hb, hon⟩
    have h2 := hw q hq
    rw [Bool.or_eq_true] at h2
    rcases h2 with h2 | h2
    · exfalso
      have := Nat.eq_of_beq_eq_true h2
      have h3 : (q.deps &&& pendM fs r l).testBit i = true := by
        rw [Nat.testBit_and, hd, pendM_bit hri hrie hf hne]; rfl
      rw [this] at h3
      simp at h3
    · exact waitsR_ok (by rw [hoj, g1]) g2 h2
theorem planGo_ok {fs : Nat} : ∀ (n : Nat) {m : Nat} {l : List Rec} {listed : Array Bool} {pl : List Stp}, Corr ops m l listed → planGo fs (allR ops) n m l = some pl → PlanOk ops (fun i => fs.testBit i) pl listed
  | n, m, l, listed, pl, hc, h => by
    have hrdy : ∀ {j}, j ∈ Region.ready .any ops listed → ∃ r ∈ l.filter (readyR m), r.i = j := fun {j} hj => by
      rw [hc.ready] at hj
      obtain ⟨r, h1, h2⟩ := List.mem_map.1 hj
      exact ⟨r, h1, h2⟩
    cases n with
    | zero =>
      unfold planGo at h
      split at h
      · rename_i hl
        injection h with h
        subst h
        rw [readyL_eq] at hl
        show Region.ready .any ops listed = []
        rw [hc.ready, hl]; rfl
      · cases h
    | succ n =>
      unfold planGo at h
      split at h
      · rename_i r hr
        obtain ⟨a1, a2, a3, a4⟩ := firstR_some hr
        split at h
        · rename_i p hf hp
          injection h with h
          subst h
          exact ⟨hf, hc.mem_ready a1 a3, hc.free a1 a4, trivial, planGo_ok n (hc.set a1) hp⟩
        · cases h
      · split at h
        · rename_i hpl
          rw [plain_eq, readyL_eq] at hpl
          have hallf : ∀ r ∈ l.filter (readyR m), fs.testBit r.i = true := fun r hr => by
            cases hb : fs.testBit r.i with
            | true => rfl
            | false =>
              have : r ∈ (l.filter (readyR m)).filter (fun r => !fs.testBit r.i) := List.mem_filter.2 ⟨hr, by rw [hb]; rfl⟩
              rw [hpl] at this; cases this
          split at h
          · rename_i hl
            injection h with h
            subst h
            rw [readyL_eq] at hl
            show Region.ready .any ops listed = []
            rw [hc.ready, hl]; rfl
          · rename_i r more hl
            rw [readyL_eq] at hl
            have hrl : r ∈ l.filter (readyR m) := by rw [hl]; exact List.mem_cons_self
            have hrl' := List.mem_filter.1 hrl
            split at h
            · rename_i p hw hp
              injection h with h
              subst h
              refine ⟨hallf r hrl, hc.mem_ready hrl'.1 hrl'.2, fun j hj => ?_, hc.wt hw, planGo_ok n (hc.set hrl'.1) hp⟩
              obtain ⟨q, hq, rfl⟩ := hrdy hj
              exact hallf q hq
            · cases h
        · rename_i r hpl
          rw [plain_eq, readyL_eq] at hpl
          have hrl : r ∈ (l.filter (readyR m)).filter (fun r => !fs.testBit r.i) := by rw [hpl]; exact List.mem_singleton_self r
          have hrl1 := List.mem_filter.1 hrl
          have hrl' := List.mem_filter.1 hrl1.1
          have hrf : fs.testBit r.i = false := by simpa using hrl1.2
          split at h
          · rename_i hw
            split at h
            · rename_i p hp
              injection h with h
              subst h
              refine ⟨hrf, hc.mem_ready hrl'.1 hrl'.2, fun j hj => ?_, hc.wt hw, planGo_ok n (hc.set hrl'.1) hp⟩
              obtain ⟨q, hq, rfl⟩ := hrdy hj
              cases hb : fs.testBit q.i with
              | true => exact .inr hb
              | false =>
                have : q ∈ (l.filter (readyR m)).filter (fun r => !fs.testBit r.i) := List.mem_filter.2 ⟨hq, by rw [hb]; rfl⟩
                rw [hpl] at this
                rw [List.mem_singleton.1 this]; exact .inl rfl
            · cases h
          · split at h
            · cases h
            · rename_i r2 hr2
              obtain ⟨a1, a2, a3, a4⟩ := firstR_some hr2
              split at h
              · rename_i p hf hp
                injection h with h
                subst h
                exact ⟨hf, hc.mem_ready a1 a3, hc.free a1 a4, trivial, planGo_ok n (hc.set a1) hp⟩
              · cases h
        · rename_i a b more hpl
          split at h
          · cases h
          · rename_i r hr
            obtain ⟨a1, a2, a3, a4⟩ := firstR_some hr
            split at h
            · rename_i n hpr
              rw [Bool.and_eq_true] at hpr
              obtain ⟨hfs, hpr⟩ := hpr
              have hfs := Nat.eq_of_beq_eq_true hfs
              subst hfs
              have hl : l.filter (readyR m) = [a, b] := by
                rw [plain_eq, readyL_eq] at hpl
                rw [← hpl]
                exact (List.filter_eq_self.2 (fun r _ => by simp)).symm
              have hal : a ∈ l.filter (readyR m) := by rw [hl]; simp
              have hbl : b ∈ l.filter (readyR m) := by rw [hl]; simp
              have ha := List.mem_filter.1 hal
              have hb := List.mem_filter.1 hbl
              unfold pairR at hpr
              simp only [Bool.and_eq_true, allL_eq, List.all_eq_true, Bool.or_eq_true, Bool.not_eq_true'] at hpr
              obtain ⟨⟨⟨⟨⟨p1, p2⟩, p3⟩, p4⟩, p5⟩, p6⟩ := hpr
              have hnd : ((l.filter (readyR m)).map (·.i)).Nodup := by
                rw [hc.rest, List.filter_filter]
                refine List.Nodup.sublist (List.Sublist.map _ List.filter_sublist) ?_
                rw [allR_map]
                exact List.nodup_range
              rw [hl] at hnd
              have hab : a.i ≠ b.i := by simpa using hnd
              have hba : Nat.beq b.i a.i = false := by
                cases hq : Nat.beq b.i a.i with
                | false => rfl
                | true => exact absurd (Nat.eq_of_beq_eq_true hq).symm hab
              have hba' : Nat.beq a.i b.i = false := by
                cases hq : Nat.beq a.i b.i with
                | false => rfl
                | true => exact absurd (Nat.eq_of_beq_eq_true hq) hab
              have haA := (hc.mem ha.1).1
              have hbA := (hc.mem hb.1).1
              have only : ∀ (x y : Rec), x ∈ l → y ∈ l → readyR m y = true → (∀ q ∈ l, readyR (m ||| 2 ^ x.i) q = true → q.i = x.i ∨ q.i = y.i) → (without x.i l).filter (readyR (m ||| 2 ^ x.i)) = (l.filter (readyR m)).filter (fun r => !Nat.beq r.i x.i) := by
                intro x y hx hy hry hq
                rw [without_eq, List.filter_filter, List.filter_filter]
                apply List.filter_congr
                intro q hql
                rw [Bool.and_comm]
                cases hqx : Nat.beq q.i x.i with
                | true => simp
                | false =>
                  simp only [Bool.not_false, Bool.true_and]
                  rw [Bool.eq_iff_iff]
                  constructor
                  · intro hqr
                    rcases hq q hql hqr with e | e
                    · exact absurd e (Nat.ne_of_beq_eq_false hqx)
                    · have : q = y := allR_inj (hc.mem hql).1 (hc.mem hy).1 e
                      rw [this]; exact hry
                  · exact readyR_mono
              have o1 := only a b ha.1 hb.1 hb.2 (fun q hql hqr => by
                rcases p6 q hql with e | e | ⟨e, _⟩
                · exact .inl (Nat.eq_of_beq_eq_true e)
                · exact .inr (Nat.eq_of_beq_eq_true e)
                · rw [hqr] at e; cases e)
              have o2 := only b a hb.1 ha.1 ha.2 (fun q hql hqr => by
                rcases p6 q hql with e | e | ⟨_, e⟩
                · exact .inr (Nat.eq_of_beq_eq_true e)
                · exact .inl (Nat.eq_of_beq_eq_true e)
                · rw [hqr] at e; cases e)
              rw [hl] at o1 o2
              simp only [List.filter_cons, Nat.beq_refl, hba, hba', Bool.not_true, Bool.not_false, List.filter_nil, if_true] at o1 o2
              simp only [Bool.false_eq_true, if_false] at o1 o2
              have hbw : b ∈ without a.i l := by
                rw [without_eq]; exact List.mem_filter.2 ⟨hb.1, by rw [hba]; rfl⟩
              split at h
              · rename_i p hp
                injection h with h
                subst h
                have q1 := planGo_ok n ((hc.set ha.1).set hbw) hp
                exact ⟨fun x => by simp, by rw [hc.ready, hl]; rfl, by rw [(hc.set ha.1).ready, o1]; rfl, by rw [(hc.set hb.1).ready, o2]; rfl, ⟨a.o, b.o, (allR_mem haA).1, (allR_mem hbA).1, by simpa using p3, by simpa using p4, apartR_ok (allR_mem haA).2.2 (allR_mem hbA).2.2 p5, hab⟩, q1⟩
              · cases h
            · split at h
              · rename_i p hf hp
                injection h with h
                subst h
                exact ⟨hf, hc.mem_ready a1 a3, hc.free a1 a4, trivial, planGo_ok _ (hc.set a1) hp⟩
              · cases h
theorem floM_bit {all : List Rec} {x : Nat} : ∀ {l : List Rec}, (floM all l).testBit x = true → ∃ r ∈ l, r.i = x ∧ floR all r = true
  | [], h => by
    have h' : (0 : Nat).testBit x = true := h
    simp at h'
  | r :: l, h => by
    have h' : (Bool.rec (floM all l) (floM all l ||| 2 ^ r.i) (floR all r) : Nat).testBit x = true := h
    cases hb : floR all r with
    | false =>
      rw [hb] at h'
      obtain ⟨q, hq, h1⟩ := floM_bit h'
      exact ⟨q, List.mem_cons_of_mem _ hq, h1⟩
    | true =>
      rw [hb] at h'
      have h' : (floM all l ||| 2 ^ r.i).testBit x = true := h'
      rw [testBit_or_pow, Bool.or_eq_true, decide_eq_true_iff] at h'
      rcases h' with h' | h'
      · obtain ⟨q, hq, h1⟩ := floM_bit h'
        exact ⟨q, List.mem_cons_of_mem _ hq, h1⟩
      · exact ⟨r, List.mem_cons_self, h', hb⟩
theorem flo_ok {P : Program} (hz : allL (zeroB P) ops.toList = true) : FloOk P ops (fun i => (floM (allR ops) (allR ops)).testBit i) := by
  intro i hi
  obtain ⟨r, hr, rfl, hf⟩ := floM_bit hi
  obtain ⟨g1, g2, g3⟩ := allR_mem hr
  unfold floR at hf
  simp only [Bool.and_eq_true] at hf
  obtain ⟨f1, f2, f3⟩ := hf
  have f2 := Nat.eq_of_beq_eq_true f2
  have hzr : zeroB P r.o = true := by
    rw [allL_eq, List.all_eq_true] at hz
    exact hz r.o (by simpa using Array.mem_of_getElem? g1)
  obtain ⟨ty, d, h1, h2, h3⟩ : ∃ ty d, r.o.op = .alloc ty ∧ r.o.dst = some d ∧ r.o.guard = none := by
    unfold isAlloc at f1
    split at f1
    · rename_i ty d e1 e2 e3
      exact ⟨ty, d, e1, e3, e2⟩
    · cases f1
  unfold zeroB at hzr
  rw [h1] at hzr
  simp only at hzr
  split at hzr
  · rename_i inf hinf
    obtain ⟨z, hzz⟩ := Option.isSome_iff_exists.1 hzr
    refine ⟨r.o, ty, d, inf, z, g1, h1, h2, h3, hinf, hzz, fun e he => ?_, fun j oj hj hne => ?_⟩
    · cases hb : Region.binds .any e with
      | false => rfl
      | true =>
        have := (depM_bit r.o e.on).2 ⟨e, he, hb, rfl⟩
        rw [← g2, f2] at this
        simp at this
    · unfold freeR at f3
      rw [allL_eq, List.all_eq_true] at f3
      have hjs : j < ops.size := (Array.getElem?_eq_some_iff.1 hj).1
      obtain ⟨q, hq, rfl⟩ := allR_ex hjs
      obtain ⟨k1, k2, k3⟩ := allR_mem hq
      rw [hj] at k1
      injection k1 with k1
      subst k1
      have := f3 q hq
      simp only [Bool.or_eq_true] at this
      rcases this with h' | h' | h'
      · exact absurd (Nat.eq_of_beq_eq_true h') hne
      · rw [k2, depM_bit] at h'
        exact .inl h'
      · exact .inr (apartR_ok g3 k3 h')
  · cases hzr
theorem plan_ok {pl : List Stp} {fs : Nat} (h : plan ops = some (fs, pl)) : Region.noSelect ops = true ∧ PlanOk ops (fun i => fs.testBit i) pl (Array.replicate ops.size false) ∧ (fs = 0 ∨ fs = floM (allR ops) (allR ops)) := by
  have h0 : Corr ops 0 (allR ops) (Array.replicate ops.size false) := ⟨by simp, fun i hi => by simp [Array.getD, hi], fun i hi => by simp at hi, by
    rw [List.filter_eq_self.2]
    intro r _
    simp⟩
  unfold plan at h
  split at h
  · rename_i hs
    unfold planW at h
    split at h
    · rename_i p hp
      injection h with h
      injection h with h1 h2
      subst h1 h2
      exact ⟨hs, planGo_ok _ h0 hp, .inl rfl⟩
    · split at h
      · rename_i p hp
        injection h with h
        injection h with h1 h2
        subst h1 h2
        exact ⟨hs, planGo_ok _ h0 hp, .inr rfl⟩
      · cases h
  · cases h
end
end Go.Proofs.YtkbjlijcnlkbgaaDoor
set_option linter.unusedVariables false
set_option linter.unusedSectionVars false
set_option linter.unusedSimpArgs false
namespace Go.Proofs.YtkbjlijcnlkbgaaDoor
open Go Go.RowKit

section
variable [Env] [Know]
variable {P : Program} {R : Rho}
theorem Inv.drawn {s : AS} {w : World} {fl b : Nat} (h : Inv R s w fl b) (n : Nat) : Inv R s { w with drawn := n } fl b := h.same rfl
theorem Went.drawn {R' : Rho} {s s' : AS} {w w' : World} {fl b n : Nat} (h : Went R R' s s' { w with drawn := n } w' fl b) : Went R R' s s' w w' fl b :=
  ⟨h.ext, h.old, h.num, h.keep, h.inv, ⟨h.below.os, h.below.tape, h.below.output, h.below.size, h.below.block⟩, h.fresh, h.more, h.wrote, h.other⟩
theorem evalRegion_ok (hK : KnowOk P) {call : CallE} (hcall : CallOk P call) (hm : P.follows .mixedOrders = true) {floor base : Nat} {id : Nat} {ops : Array Oper} {draw : Bool} {f f' : Fr} {s s' : AS} (h : evalRegion P call floor ops draw f s = some (f', s'))
    {w : World} {a : Act} (hI : Inv R s w floor base) (hf : FRel R f a.tmps) {Q : Exit → Act → World → Prop} (hQ : ∀ R' a' w', Went R R' s s' w w' floor base → FRel R' f' a'.tmps → a'.defers = a.defers → Q .normal a' w') :
    (Code.region id ops draw).wp P Q a w := by
  unfold evalRegion at h
  split at h
  · exact wp_region_list (evalSeq_ok hK hcall ops.toList h hI hf hQ)
  · split at h
    · rename_i fs pl hpl
      split at h
      · rename_i hz
        split at h
        · rename_i f1 s1 tf he
          injection h with h
          injection h with h1 h2
          subst h1 h2
          obtain ⟨hns, hp, hfs⟩ := plan_ok hpl
          have hfl : FloOk P ops (fun i => fs.testBit i) := by
            rcases hfs with rfl | rfl
            · intro i hi; simp at hi
            · rw [Bool.or_eq_true] at hz
              rcases hz with hz | hz
              · rw [Nat.eq_of_beq_eq_true hz]; intro i hi; simp at hi
              · exact flo_ok hz
          let Q0 : Exit → Act → World → Prop := fun e a' w' => e = .normal ∧ Q .normal a' w'
          refine wp_mono (Q := Q0) ?_ (fun e a' w' hq => by obtain ⟨rfl, hq⟩ := hq; exact hq)
          refine wp_region_any hm (wpAny_of_U (S := Stands R s { w with drawn := w.drawn + 1 } tf) _ ?_)
          have hI1 := hI.drawn (w.drawn + 1)
          have hdown : Down ops (Array.replicate ops.size false) := fun j o ho hj => by
            have hjs : j < ops.size := (Array.getElem?_eq_some_iff.1 ho).1
            simp [hjs] at hj
          exact evalPlan_ok (Q := Q0) hK hcall hns (fun c a w h => by cases h.1) hfl hI1 (a0 := a) (fun R' a' w' hg hf2 hd => ⟨rfl, hQ R' a' w' hg.drawn hf2 hd⟩) _ pl (T := []) (Nat.le_refl _) hp he
            hdown (by show (Array.replicate ops.size false).toList.count false ≤ ops.size; rw [Array.toList_replicate, List.count_replicate]; simp) (fun t ht => by cases ht) .nil (Went.refl hI1) hf rfl (fun _ _ _ _ => rfl) (fun _ _ _ _ _ _ _ => rfl) (fun p hp => by cases hp)
        · cases h
      · cases h
    · cases h
def AX.out : AX → Exit
  | .normal => .normal
  | .exit id => .exit id
  | .goto l => .goto l
  | .ret => .ret
def FinE (R : Rho) (s : AS) (w : World) (a : Act) (floor base : Nat) (x : AX) (f' : Fr) (s' : AS) (e : Exit) (a' : Act) (w' : World) : Prop :=
  e = x.out ∧ ∃ R', Went R R' s s' w w' floor base ∧ FRel R' f' a'.tmps ∧ a'.defers = a.defers
def CodeOk (P : Program) (code : CodeE) : Prop := ∀ {floor : Nat} {c : Code} {f : Fr} {s : AS} {x : AX} {f' : Fr} {s' : AS}, code floor c f s = some (x, f', s') →
  ∀ {R : Rho} {w : World} {base : Nat} {a : Act}, Inv R s w floor base → FRel R f a.tmps → c.wp P (FinE R s w a floor base x f' s') a w
def LoopOk (P : Program) (code : CodeE) : Prop := ∀ {floor : Nat} {c : Code} {f : Fr} {s : AS} {x : AX} {f' : Fr} {s' : AS}, code floor c f s = some (x, f', s') →
  ∀ {R : Rho} {w : World} {base : Nat} {a : Act}, Inv R s w floor base → FRel R f a.tmps → ∀ (b : Frame) (k : List Item) (cs : List Frame),
    ∃ e a' w', FinE R s w a floor base x f' s' e a' w' ∧ Arrives P (lone (b.at a (.code c :: .inLoop c :: k)) cs w) b k cs e a' w'
def ScopeOk (P : Program) (code : Nat → Code → Code → Fr → AS → Option (AX × Fr × AS)) : Prop := ∀ {floor : Nat} {c cur : Code} {f : Fr} {s : AS} {x : AX} {f' : Fr} {s' : AS}, code floor c cur f s = some (x, f', s') →
  ∀ {R : Rho} {w : World} {base : Nat} {a : Act}, Inv R s w floor base → FRel R f a.tmps → ∀ (b : Frame) (k : List Item) (cs : List Frame),
    ∃ e a' w', FinE R s w a floor base x f' s' e a' w' ∧ Arrives P (lone (b.at a (.code cur :: .inScope c :: k)) cs w) b k cs e a' w'
structure EvOk (P : Program) (E : Ev) : Prop where
  code : CodeOk P E.code
  loop : LoopOk P E.loop
  scope : ScopeOk P E.scope
  call : CallOk P E.call
theorem FinE.trans {R R1 : Rho} {s s1 s2 : AS} {w w1 : World} {a a1 : Act} {fl b : Nat} {x : AX} {f2 : Fr} {e : Exit} {a' : Act} {w' : World} (h : Went R R1 s s1 w w1 fl b) (hd : a1.defers = a.defers) (h2 : FinE R1 s1 w1 a1 fl b x f2 s2 e a' w') :
    FinE R s w a fl b x f2 s2 e a' w' :=
  let ⟨he, R', hg, hf, hd2⟩ := h2
  ⟨he, R', h.trans hg, hf, hd2.trans hd⟩
theorem codeStep_ok (hK : KnowOk P) {E : Ev} (hE : EvOk P E) (hm : P.follows .mixedOrders = true) : CodeOk P (codeStep P E) := by
  intro floor c f s x f' s' h R w base a hI hf
  unfold codeStep at h
  split at h
  · injection h with h; injection h with h1 h; injection h with h2 h3; subst h1 h2 h3
    exact wp_skip ⟨rfl, R, Went.refl hI, hf, rfl⟩
  · injection h with h; injection h with h1 h; injection h with h2 h3; subst h1 h2 h3
    exact wp_label ⟨rfl, R, Went.refl hI, hf, rfl⟩
  · rename_i id ops draw
    unfold codeRegion at h
    split at h
    · rename_i f1 s1 he
      rw [forceF_eq] at h
      injection h with h; injection h with h1 h; injection h with h2 h3; subst h1 h2 h3
      exact evalRegion_ok hK hE.call hm he hI hf fun R' a' w' hg hf2 hd => ⟨rfl, R', hg, hf2, hd⟩
    · cases h
  · rename_i p q
    unfold codeSeq at h
    refine wp_seq ?_
    cases he : E.code floor p f s with
    | none => rw [he] at h; cases h
    | some r =>
      obtain ⟨x1, f1, s1⟩ := r
      rw [he] at h
      refine wp_mono (hE.code he hI hf) fun e a1 w1 hq => ?_
      obtain ⟨hx, R1, hg, hf1, hd⟩ := hq
      subst hx
      cases x1 with
      | normal => exact wp_mono (hE.code h hg.inv hf1) fun e a2 w2 hq2 => FinE.trans hg hd hq2
      | exit id => injection h with h; injection h with h1 h; injection h with h2 h3; subst h1 h2 h3; exact ⟨rfl, R1, hg, hf1, hd⟩
      | goto l => injection h with h; injection h with h1 h; injection h with h2 h3; subst h1 h2 h3; exact ⟨rfl, R1, hg, hf1, hd⟩
      | ret => injection h with h; injection h with h1 h; injection h with h2 h3; subst h1 h2 h3; exact ⟨rfl, R1, hg, hf1, hd⟩
  · rename_i o p q
    unfold codeCond at h
    have hr := opnd_ok hf o
    split at h
    · rename_i e; rw [e] at hr; exact wp_cond_true (lit_inv hr) (hE.code h hI hf)
    · rename_i e; rw [e] at hr; exact wp_cond_false (lit_inv hr) (hE.code h hI hf)
    · cases h
  · rename_i id p
    unfold codeBlock at h
    refine wp_block ?_
    cases he : E.code floor p f s with
    | none => rw [he] at h; cases h
    | some r =>
      obtain ⟨x1, f1, s1⟩ := r
      rw [he] at h
      refine wp_mono (hE.code he hI hf) fun e a1 w1 hq => ?_
      obtain ⟨hx, R1, hg, hf1, hd⟩ := hq
      subst hx
      cases x1 with
      | exit j =>
        simp only at h
        show (if j = id then _ else _)
        split at h
        · rename_i hb
          have hb := Nat.eq_of_beq_eq_true hb
          rw [if_pos hb]
          injection h with h; injection h with h1 h; injection h with h2 h3; subst h1 h2 h3
          exact ⟨rfl, R1, hg, hf1, hd⟩
        · rename_i hb
          have hb := Nat.ne_of_beq_eq_false hb
          rw [if_neg hb]
          injection h with h; injection h with h1 h; injection h with h2 h3; subst h1 h2 h3
          exact ⟨rfl, R1, hg, hf1, hd⟩
      | normal => injection h with h; injection h with h1 h; injection h with h2 h3; subst h1 h2 h3; exact ⟨rfl, R1, hg, hf1, hd⟩
      | goto l => injection h with h; injection h with h1 h; injection h with h2 h3; subst h1 h2 h3; exact ⟨rfl, R1, hg, hf1, hd⟩
      | ret => injection h with h; injection h with h1 h; injection h with h2 h3; subst h1 h2 h3; exact ⟨rfl, R1, hg, hf1, hd⟩
  · rename_i p
    intro b k cs
    obtain ⟨e, a', w', hq, harr⟩ := hE.loop h hI hf b k cs
    exact ⟨e, a', w', hq, .of_steps (.one step_loop) harr⟩
  · rename_i p
    intro b k cs
    obtain ⟨e, a', w', hq, harr⟩ := hE.scope h hI hf b k cs
    exact ⟨e, a', w', hq, .of_steps (.one step_scope) harr⟩
  · injection h with h; injection h with h1 h; injection h with h2 h3; subst h1 h2 h3
    exact wp_exit ⟨rfl, R, Went.refl hI, hf, rfl⟩
  · injection h with h; injection h with h1 h; injection h with h2 h3; subst h1 h2 h3
    exact wp_goto ⟨rfl, R, Went.refl hI, hf, rfl⟩
  · injection h with h; injection h with h1 h; injection h with h2 h3; subst h1 h2 h3
    exact wp_ret ⟨rfl, R, Went.refl hI, hf, rfl⟩
  · cases h
theorem loopStep_ok {E : Ev} (hE : EvOk P E) : LoopOk P (loopStep E) := by
  intro floor c f s x f' s' h R w base a hI hf b k cs
  unfold loopStep at h
  cases he : E.code floor c f s with
  | none => rw [he] at h; cases h
  | some r =>
    obtain ⟨x1, f1, s1⟩ := r
    rw [he] at h
    obtain ⟨e, a1, w1, hq, harr⟩ := hE.code he hI hf b (.inLoop c :: k) cs
    obtain ⟨hx, R1, hg, hf1, hd⟩ := hq
    subst hx
    cases x1 with
    | normal =>
      obtain ⟨e2, a2, w2, hq2, harr2⟩ := hE.loop h hg.inv hf1 b k cs
      exact ⟨e2, a2, w2, FinE.trans hg hd hq2, .of_steps (Steps.trans harr (.one step_inLoop)) harr2⟩
    | exit id =>
      injection h with h; injection h with h1 h; injection h with h2 h3; subst h1 h2 h3
      exact ⟨_, a1, w1, ⟨rfl, R1, hg, hf1, hd⟩, .pass (x := .inLoop c) rfl (fun _ _ => .inl (by simp [AX.out])) harr⟩
    | goto l =>
      injection h with h; injection h with h1 h; injection h with h2 h3; subst h1 h2 h3
      exact ⟨_, a1, w1, ⟨rfl, R1, hg, hf1, hd⟩, .pass (x := .inLoop c) rfl (fun _ _ => .inl (by simp [AX.out])) harr⟩
    | ret =>
      injection h with h; injection h with h1 h; injection h with h2 h3; subst h1 h2 h3
      exact ⟨_, a1, w1, ⟨rfl, R1, hg, hf1, hd⟩, .pass (x := .inLoop c) rfl (fun _ _ => .inl (by simp [AX.out])) harr⟩
theorem scopeStep_ok {E : Ev} (hE : EvOk P E) : ScopeOk P (scopeStep E) := by
  intro floor c cur f s x f' s' h R w base a hI hf b k cs
  unfold scopeStep at h
  cases he : E.code floor cur f s with
  | none => rw [he] at h; cases h
  | some r =>
    obtain ⟨x1, f1, s1⟩ := r
    rw [he] at h
    obtain ⟨e, a1, w1, hq, harr⟩ := hE.code he hI hf b (.inScope c :: k) cs
    obtain ⟨hx, R1, hg, hf1, hd⟩ := hq
    subst hx
    cases x1 with
    | normal =>
      injection h with h; injection h with h1 h; injection h with h2 h3; subst h1 h2 h3
      exact ⟨_, a1, w1, ⟨rfl, R1, hg, hf1, hd⟩, Steps.trans harr (.one step_inScope)⟩
    | exit id =>
      injection h with h; injection h with h1 h; injection h with h2 h3; subst h1 h2 h3
      exact ⟨_, a1, w1, ⟨rfl, R1, hg, hf1, hd⟩, fun k' hk => harr k' (by simp [exitTo, hk])⟩
    | goto l =>
      simp only at h
      cases hl : findLabel c l with
      | some rest =>
        rw [hl] at h
        have hgo : gotoIn l (.inScope c :: k) = some (.code rest :: .inScope c :: k) := by simp [gotoIn, hl]
        obtain ⟨e2, a2, w2, hq2, harr2⟩ := hE.scope h hg.inv hf1 b k cs
        exact ⟨e2, a2, w2, FinE.trans hg hd hq2, .of_steps (harr _ hgo) harr2⟩
      | none =>
        rw [hl] at h
        injection h with h; injection h with h1 h; injection h with h2 h3; subst h1 h2 h3
        exact ⟨_, a1, w1, ⟨rfl, R1, hg, hf1, hd⟩, fun k' hk => harr k' (by simp [gotoIn, hl, hk])⟩
    | ret =>
      injection h with h; injection h with h1 h; injection h with h2 h3; subst h1 h2 h3
      exact ⟨_, a1, w1, ⟨rfl, R1, hg, hf1, hd⟩, harr⟩
def resF (tmps : Array Value) : ResultVar → Sem Value
  | .tmp t => pure (tmps.getD t undef)
  | .cell a t => do loadVar t (← asAddr (tmps.getD a undef))
theorem results_eq (fn : Func) (tmps : Array Value) : results fn tmps = (do let vs ← fn.results.mapM (resF tmps); pure (if h : vs.size = 1 then vs[0] else .tuple vs)) := by
  have : (fun (r : ResultVar) => (match r with
      | .tmp t => pure (tmps.getD t undef)
      | .cell a t => do loadVar t (← asAddr (tmps.getD a undef)) : Sem Value)) = resF tmps := funext fun r => by cases r <;> rfl
  unfold results
  rw [← this]
  rfl
theorem resA_ok {s : AS} {w : World} {fl b : Nat} (hI : Inv R s w fl b) {f : Fr} {tmps : Array Value} (hf : FRel R f tmps) : ∀ {l : List ResultVar} {vs : List AV}, resA P f s l = some vs →
    ∃ xs, VRels R vs xs ∧ (l.mapM (resF tmps)).run P w = .ok xs w
  | [], vs, h => by
    simp only [resA] at h
    injection h with h; subst h
    exact ⟨[], VRels.nil, rfl⟩
  | .tmp t :: r, vs, h => by
    simp only [resA] at h
    split at h
    · rename_i l' hl
      injection h with h; subst h
      obtain ⟨xs, h1, h2⟩ := resA_ok hI hf hl
      have := opnd_ok (a := ⟨tmps, []⟩) hf (.tmp t)
      exact ⟨_, VRels.cons this h1, by rw [List.mapM_cons]; simp only [resF, Sem.run_bind, Sem.run_pure, Result.andThen_ok, h2]; rfl⟩
    · cases h
  | .cell p t :: r, vs, h => by
    simp only [resA] at h
    split at h
    · rename_i k off e1
      split at h
      · rename_i B hB
        split at h
        · rename_i v l' hv hl
          injection h with h; subst h
          obtain ⟨xs, h1, h2⟩ := resA_ok hI hf hl
          have hp := opnd_ok (a := ⟨tmps, []⟩) hf (.tmp p)
          have e1' : opnd f (.tmp p) = .ptr k off := e1
          rw [e1'] at hp
          obtain ⟨b, T, r3, r4⟩ := ptr_inv hp
          have r4' : tmps.getD p undef = .pointer (some ⟨b, off, none⟩) := r4
          obtain ⟨b', T', r5, r6⟩ := hI.rel.blk hB
          obtain ⟨rfl, rfl⟩ := hI.rel.fn r3 r5
          obtain ⟨y, hy, hrun⟩ := load_ok (P := P) hv r6
          have hrun := hrun w rfl
          have : (loadVar t ⟨b, off, none⟩).run P w = .ok y w := by simpa [Instr.loadAt, Instr.sureAddr] using hrun
          refine ⟨_, VRels.cons hy h1, ?_⟩
          have hr1 : (resF tmps (.cell p t)).run P w = .ok y w := by
            simp only [resF, r4', asAddr, Sem.run_bind, Sem.run_pure, Result.andThen_ok, this]
          rw [List.mapM_cons]
          simp only [Sem.run_bind, Sem.run_pure, Result.andThen_ok, hr1, h2]
        · cases h
      · cases h
    · cases h
theorem look_dropNew_lt {j n : Nat} (hj : j < n) : ∀ {h : List (Nat × List AV)}, look j (dropNew n h) = look j h
  | [] => rfl
  | p :: h => by
    rw [dropNew_cons]
    split
    · rw [look_cons, if_neg (by omega), look_dropNew_lt hj]
    · rw [look_cons, look_cons, look_dropNew_lt hj]
theorem Went.end_ {R' : Rho} {s s' : AS} {w w' : World} {fl b : Nat} (hI : Inv R s w fl b) (h : Went R R' ⟨s.n, s.h, [], s.gl⟩ s' w w' fl b) : Went R R' s ⟨s'.n, s'.h, unionW (oldW s.n s'.wr) s.wr, s'.gl⟩ w w' fl b :=
  ⟨h.ext, h.old, h.num, h.keep, h.inv.wr_ _, h.below, h.fresh, fun _ hk => unionW_iff.2 (.inr hk), fun hk r hn => h.wrote hk r (fun hc => hn (unionW_iff.2 (.inl (oldW_iff.2 ⟨hc, (hI.rel.dom r).1⟩)))), h.other⟩
theorem Went.drop {R' : Rho} {s s' : AS} {w w' : World} {fl b : Nat} (hI : Inv R s w fl b) (h : Went R R' ⟨s.n, s.h, [], s.gl⟩ s' w w' fl b) : Went R R' s ⟨s'.n, dropNew s.n s'.h, unionW (oldW s.n s'.wr) s.wr, s'.gl⟩ w w' fl b :=
  have h' := h.end_ hI
  ⟨h'.ext, h'.old, h'.num, fun k hk => (look_dropNew_lt (by have := hI.hf; omega)).trans (h'.keep k hk),
    ⟨⟨h'.inv.rel.fn, h'.inv.rel.dom, fun h1 h2 r1 r2 => h'.inv.rel.inj (look_dropNew_some h1) (look_dropNew_some h2) r1 r2, fun h1 => h'.inv.rel.blk (look_dropNew_some h1)⟩, h'.inv.hb, h'.inv.hf, h'.inv.own, h'.inv.glo, h'.inv.kgl⟩, h'.below, h'.fresh, h'.more,
    fun hk r hn => let ⟨c1, c2⟩ := h'.wrote hk r hn; ⟨c1, (look_dropNew_lt (hI.rel.dom r).1).trans c2⟩, h'.other⟩
theorem callStep_ok {E : Ev} (hE : EvOk P E) : CallOk P (callStep P E) := by
  intro floor g l s v s' h R w base xs hI hl
  unfold callStep at h
  split at h
  · rename_i fn hfn
    split at h
    · rename_i c hc
      have hlen := hl.length
      have hf0 : FRel R (frame fn.ntmps l) (xs.toArray ++ Array.replicate (fn.ntmps - xs.toArray.size) undef) := frame_ok hl
      have body : ∀ {x : AX} {f1 : Fr} {s1 : AS}, E.code floor c (frame fn.ntmps l) ⟨s.n, s.h, [], s.gl⟩ = some (x, f1, s1) → (x = .normal ∨ x = .ret) →
          ∀ {vs : List AV}, resA P f1 s1 fn.results.toList = some vs → ∀ {s2 : AS} {u : AV}, (∀ {R' : Rho} {w' : World}, Went R R' ⟨s.n, s.h, [], s.gl⟩ s1 w w' floor base → Went R R' s s2 w w' floor base) →
          (∀ {R' : Rho} {ys : List Value}, VRels R' vs ys → VRel R' u (if h : ys.toArray.size = 1 then ys.toArray[0] else .tuple ys.toArray)) →
          Calls P g xs.toArray w fun e w' => ∃ R' x, e = .returned x ∧ VRel R' u x ∧ Went R R' s s2 w w' floor base := by
        intro x f1 s1 he hx vs hvs s2 u hs hu
        refine calls_of_wp hfn hc ?_
        refine wp_mono (hE.code he (hI.wr_ []) (a := { tmps := xs.toArray ++ Array.replicate (fn.ntmps - xs.toArray.size) undef, defers := [] }) hf0) fun e a1 w1 hq => ?_
        obtain ⟨hx', R1, hg, hf1, hd⟩ := hq
        obtain ⟨ys, h1, h2⟩ := resA_ok (P := P) hg.inv hf1 hvs
        have hres : (results fn a1.tmps).run P w1 = .ok (if h : ys.toArray.size = 1 then ys.toArray[0] else .tuple ys.toArray) w1 := by
          rw [results_eq, Array.mapM_eq_mapM_toList]
          simp only [Sem.run_bind, Sem.run_map, h2, Result.andThen_ok, Sem.run_pure]
        have fin : a1.defers = [] ∧ ∃ v, (results fn a1.tmps).run P w1 = .ok v w1 ∧ ∃ R' x, Ending.returned v = .returned x ∧ VRel R' u x ∧ Went R R' s s2 w w1 floor base :=
          ⟨hd, _, hres, R1, _, rfl, hu h1, hs hg⟩
        rcases hx with rfl | rfl
        · subst hx'; exact fin
        · subst hx'; exact fin
      have main : ∀ {x : AX} {f1 : Fr} {s1 : AS}, E.code floor c (frame fn.ntmps l) ⟨s.n, s.h, [], s.gl⟩ = some (x, f1, s1) → (x = .normal ∨ x = .ret) →
          (match resA P f1 s1 fn.results.toList with
            | some [v] => match isLit v && allL isLit l with
              | true => some (v, (⟨s1.n, dropNew s.n s1.h, unionW (oldW s.n s1.wr) s.wr, s1.gl⟩ : AS))
              | false => some (v, (⟨s1.n, s1.h, unionW (oldW s.n s1.wr) s.wr, s1.gl⟩ : AS))
            | some vs => match isLit (mkTup vs) && allL isLit l with
              | true => some (mkTup vs, (⟨s1.n, dropNew s.n s1.h, unionW (oldW s.n s1.wr) s.wr, s1.gl⟩ : AS))
              | false => some (mkTup vs, (⟨s1.n, s1.h, unionW (oldW s.n s1.wr) s.wr, s1.gl⟩ : AS))
            | none => none) = some (v, s') → Calls P g xs.toArray w fun e w' => ∃ R' x, e = .returned x ∧ VRel R' v x ∧ Went R R' s s' w w' floor base := by
        intro x f1 s1 he hx h
        split at h
        · rename_i u hvs
          have hu : ∀ {R' : Rho} {ys : List Value}, VRels R' [u] ys → VRel R' u (if h : ys.toArray.size = 1 then ys.toArray[0] else .tuple ys.toArray) := by
            intro R' ys hy
            simp only [VRels] at hy
            obtain ⟨y, ys', rfl, h1, rfl⟩ := hy
            simpa using h1
          split at h
          · injection h with h; injection h with h1 h2; subst h1 h2
            exact body he hx hvs (fun hg => hg.drop hI) hu
          · injection h with h; injection h with h1 h2; subst h1 h2
            exact body he hx hvs (fun hg => hg.end_ hI) hu
        · rename_i vs hne hvs
          have hu : ∀ {R' : Rho} {ys : List Value}, VRels R' vs ys → VRel R' (mkTup vs) (if h : ys.toArray.size = 1 then ys.toArray[0] else .tuple ys.toArray) := by
            intro R' ys hy
            have hl := hy.length
            rw [dif_neg]
            · exact VRel.mkTup hy
            · intro h1
              have h1 : vs.length = 1 := by simp at h1; omega
              obtain ⟨u, rfl⟩ := List.length_eq_one_iff.1 h1
              exact hne u rfl
          split at h
          · injection h with h; injection h with h1 h2; subst h1 h2
            exact body he hx hvs (fun hg => hg.drop hI) hu
          · injection h with h; injection h with h1 h2; subst h1 h2
            exact body he hx hvs (fun hg => hg.end_ hI) hu
        · cases h
      split at h
      · rename_i f1 s1 he; exact main he (.inl rfl) h
      · rename_i f1 s1 he; exact main he (.inr rfl) h
      · cases h
    · cases h
  · cases h
/-- Nothing that stood there has turned, and nothing of it was written. -/
theorem Went.far {s : AS} {w w' : World} {fl b : Nat} (hI : Inv R s w fl b) (hb : Below w.heap.size w w') : Went R R s s w w' fl b :=
  ⟨Ext.refl _, fun r _ => r, Nat.le_refl _, fun _ _ => rfl, ⟨hI.rel.below hb, Nat.le_trans hI.hb hb.size, hI.hf, hI.own, fun hg => hI.glo_below hg (hb.mono hI.hb), hI.kgl⟩, hb.mono hI.hb, fun r => .inl ⟨_, _, r⟩, fun _ h => h,
    fun _ r _ => ⟨hb.block _ (hI.rel.dom r).2, rfl⟩, fun k hk _ => hb.block k hk⟩
theorem knowCall_ok (hK : KnowOk P) {call : CallE} (hcall : CallOk P call) : CallOk P (knowCall call) := by
  intro floor g l s v s' h R w base xs hI hl
  unfold knowCall at h
  split at h
  · rename_i r hr
    injection h with h
    injection h with h1 h2
    subst h1 h2
    obtain ⟨h3, h4⟩ := findC_ok hr
    obtain ⟨h5, h6⟩ := hK.call _ _ _ h3
    rw [mapL_eq] at h3 h4
    rw [mapL_eq] at h6
    exact (h6 w xs hI.globs (flats_ok hI h4 hl)).mono fun e w' ⟨he, hb⟩ => ⟨R, gval r, he, ground_ok h5, Went.far hI hb⟩
  · exact hcall h hI hl
theorem ev_ok (hK : KnowOk P) (hm : P.follows .mixedOrders = true) : ∀ n, EvOk P (ev P n)
  | 0 => ⟨fun h => (by cases h), fun h => (by cases h), fun h => (by cases h), fun h => (by cases h)⟩
  | n + 1 =>
    have hE := ev_ok hK hm n
    ⟨codeStep_ok hK hE hm, loopStep_ok hE, scopeStep_ok hE, knowCall_ok hK (callStep_ok hE)⟩
theorem inv0 {w : World} (hg : Globs Env.gl w) : Inv (fun _ _ _ => False) ⟨0, [], [], Env.gl⟩ w 0 w.heap.size :=
  ⟨⟨fun h => h.elim, fun h => h.elim, (fun h => by cases h), (fun h => by cases h)⟩, Nat.le_refl _, Nat.le_refl _, fun h => h.elim, fun h => hg _ _ h, rfl⟩
/-- A RUN WITH LETTERS: what the kernel reckons is what the call comes to, in whatever memory that holds the variables, if the tables are right. -/
theorem sym_ok (hK : KnowOk P) (hm : P.follows .mixedOrders = true) {n : Nat} {g : FuncId} {l : List AV} {v : AV} (h : comes P Env.gl n g l = some v) (hl : l.all ground = true) (hv : ground v = true) {w : World} (hg : Globs Env.gl w) :
    Calls P g (l.map gval).toArray w fun e w' => e = .returned (gval v) ∧ Below w.heap.size w w' := by
  unfold comes at h
  split at h
  · rename_i u s he
    injection h with h
    subst h
    exact ((ev_ok hK hm n).call he (inv0 hg) (grounds_ok hl)).mono fun e w' ⟨R', x, he, hx, hg⟩ => ⟨by rw [he, VRel.uniq hv hx], hg.below⟩
  · cases h
theorem lit_ok (hK : KnowOk P) (hm : P.follows .mixedOrders = true) {n : Nat} {g : FuncId} {l : List Value} {v : Value} {s : AS} (h : (ev P n).call 0 g (l.map .lit) ⟨0, [], [], Env.gl⟩ = some (.lit v, s)) {w : World} (hg : Globs Env.gl w) :
    Calls P g l.toArray w fun e w' => e = .returned v ∧ Below w.heap.size w w' :=
  ((ev_ok hK hm n).call h (inv0 hg) (VRels.lits_ l)).mono fun e w' ⟨R', x, he, hx, hg⟩ => ⟨by rw [he, lit_inv hx], hg.below⟩
end
section
variable {P : Program}
theorem Globs.nil (w : World) : Globs [] w := fun _ _ h => by cases h
@[reducible] noncomputable def noEnv (gl : List (Nat × List AV)) : Env := ⟨fun _ => .int .i64 0, fun _ => rfl, gl⟩
theorem noKnow_ok (gl : List (Nat × List AV)) : @KnowOk (noEnv gl) noKnow P := @KnowOk.mk (noEnv gl) noKnow P (fun _ _ _ h => by cases h) (fun _ _ _ h => by cases h)
/-- A CLOSED RUN: what the kernel reckons is what the call comes to, in whatever memory, whatever the tape. -/
theorem closed_ok (hm : P.follows .mixedOrders = true) {n : Nat} {g : FuncId} {l : List Value} {v : Value} {s : AS} {gl : List (Nat × List AV)} (h : (@ev noKnow P n).call 0 g (mapL .lit l) ⟨0, [], [], gl⟩ = some (.lit v, s)) {w : World} (hg : Globs gl w) :
    Calls P g l.toArray w fun e w' => e = .returned v ∧ Below w.heap.size w w' := by
  rw [mapL_eq] at h
  exact @lit_ok (noEnv gl) noKnow P (noKnow_ok gl) hm n g l v s h w hg
theorem closed_with (hm : P.follows .mixedOrders = true) {gl : List (Nat × List AV)} {n : Nat} {g : FuncId} {l : List Value} {b : Bool} (h : saysG P gl n g l b = true) {w : World} (hg : Globs gl w) :
    Calls P g l.toArray w fun e w' => e = .returned (.bool b) ∧ Below w.heap.size w w' := by
  unfold saysG at h
  split at h
  · rename_i c s he
    have e : c = b := by simpa using h
    subst e
    exact closed_ok hm he hg
  · cases h
theorem closed_bool (hm : P.follows .mixedOrders = true) {n : Nat} {g : FuncId} {b : Bool} (h : saysB P n g b = true) (w : World) :
    Calls P g #[] w fun e w' => e = .returned (.bool b) ∧ Below w.heap.size w w' := closed_with hm (l := []) h (Globs.nil w)
end
end Go.Proofs.YtkbjlijcnlkbgaaDoor
set_option linter.unusedSimpArgs false
set_option linter.unusedVariables false
namespace Go.Proofs.YtkbjlijcnlkbgaaDoor
open Go Go.RowKit

theorem size_of_cell {w : World} {b o : Nat} {v : Value} (h : w.cell? ⟨b, o, none⟩ = some v) : b < w.heap.size := by
  unfold World.cell? at h
  cases hb : w.heap[b]? with
  | none => simp [hb] at h
  | some x => exact (Array.getElem?_eq_some_iff.1 hb).1
theorem gDe : Tryd.prog.globalNamed "math/bits.deBruijn64tab" = some 0 := by kernel_rfl
theorem gDeType : (Tryd.prog.globals[0]?).map (·.type) = some 104 := by kernel_rfl
theorem cDe : Tryd.prog.cellsOf 104 = 64 := by kernel_rfl
theorem cU8 : Tryd.prog.cellsOf 5 = 1 := by kernel_rfl
def glT : List (Nat × List AV) := [(0, Lib.deBruijn64tab.map fun (x : Nat) => AV.lit (.int .u8 (x : Nat)))]
theorem globs_of {W : World} {laid : List (String × DataW Unit)} (hl : laid.filter (fun x => x.1 == "math/bits.deBruijn64tab") = [("math/bits.deBruijn64tab", Rows.laid_math_bits_deBruijn64tab)]) (hL : laidMetH Tryd.prog laid W) : Globs glT W := by
  have h := hL.filter (fun x => x.1 == "math/bits.deBruijn64tab")
  rw [hl] at h
  have h1 : Lib.TabIs Tryd.prog W "math/bits.deBruijn64tab" .u8 (Lib.deBruijn64tab.map Int.ofNat) := Lib.tabIs_of_head (rest := []) gDe gDeType Tryd.underlying104 Tryd.underlying5 cU8 cDe h
  have hlen : Lib.deBruijn64tab.length = 64 := by decide
  have c1 : ∀ j, j < 64 → W.cell? ⟨0, j, none⟩ = some (.int .u8 ((Lib.deBruijn64tab.getD j 0 : Nat) : Int)) := fun j hj => by
    have := h1.cell gDe j (by rw [List.length_map, hlen]; exact hj)
    rw [this]; simp [List.getD]
    cases Lib.deBruijn64tab[j]? <;> rfl
  intro g B hB
  unfold glT at hB
  rw [look_cons] at hB
  split at hB
  · rename_i e
    injection hB with hB
    have e : 0 = g := e
    subst e hB
    refine ⟨size_of_cell (c1 0 (by decide)), fun i v hv => ?_⟩
    have hi : i < 64 := by
      have := (List.getElem?_eq_some_iff.1 hv).1
      rw [List.length_map, hlen] at this; exact this
    rw [List.getElem?_map] at hv
    cases hx : Lib.deBruijn64tab[i]? with
    | none => rw [hx] at hv; cases hv
    | some x =>
      rw [hx] at hv
      injection hv with hv
      refine ⟨_, hv.symm, ?_⟩
      rw [c1 i hi]
      simp [List.getD, hx]
  · cases hB
end Go.Proofs.YtkbjlijcnlkbgaaDoor
set_option linter.unusedSimpArgs false
set_option linter.unusedVariables false
namespace Go.Proofs.YtkbjlijcnlkbgaaDoor
open Go Go.RowKit

set_option maxRecDepth 100000 in
theorem awake3_says : saysG Tryd.prog glT 5000 7 [] true = true := by kernel_rfl
theorem awake3_c (w : World) (hg : Globs glT w) : Calls Tryd.prog 7 #[] w fun e w' => e = .returned (.bool true) ∧ Below w.heap.size w w' := closed_with (by kernel_rfl) awake3_says hg
theorem Globs.below {gl : List (Nat × List AV)} {w w' : World} (h : Globs gl w) {n : Nat} (hb : Below n w w') (hn : w.heap.size ≤ n) : Globs gl w' := fun g B hB => by
  obtain ⟨h1, h2⟩ := h g B hB
  refine ⟨Nat.lt_of_lt_of_le h1 hb.size, fun i v hv => ?_⟩
  obtain ⟨u, e, c⟩ := h2 i v hv
  exact ⟨u, e, (hb.cell (p := ⟨g, i, none⟩) (by show g < n; omega)).trans c⟩
end Go.Proofs.YtkbjlijcnlkbgaaDoor
set_option linter.unusedSimpArgs false
set_option linter.unusedVariables false
namespace Go.Proofs.YtkbjlijcnlkbgaaDoor
open Go Go.RowKit Nt

theorem tabs_of {w : World} (h : Globs glT w) : Bt.Tabs w := by
  have hlk : look 0 glT = some (Lib.deBruijn64tab.map fun (x : Nat) => AV.lit (.int .u8 (x : Nat))) := by
    unfold glT; rw [look_cons, if_pos rfl]
  obtain ⟨h1, h2⟩ := h _ _ hlk
  refine ⟨fun j hj => ?_, h1⟩
  obtain ⟨u, e, c⟩ := h2 j (AV.lit (.int .u8 ((Lib.deBruijn64tab[j]'hj : Nat) : Int))) (by rw [List.getElem?_map, List.getElem?_eq_getElem hj]; rfl)
  injection e with e
  rw [c, ← e]
  simp [List.getD, List.getElem?_eq_getElem hj]
/-- The mantissa and the exponent of a float that is finite. -/
theorem pm_small (x : Nat) : Bt.pm x < 18446744073709551616 := Nat.lt_trans (Bt.pm_lt x) (by decide)
theorem tz_low {m : Nat} (h0 : 0 < m) (hm : m < 18446744073709551616) : lowN m = Bt.tz m ∧ odN m = Bt.od m := by
  obtain ⟨h1, h2, _⟩ := Bt.tz_spec h0 hm
  exact od_unique h2 h1.symm
theorem pex_bounds {x : Nat} (hx : x < 18446744073709551616) (hf : Bt.finB x = true) : -1074 ≤ Bt.pex x ∧ Bt.pex x ≤ 971 := by
  have hr := (Bt.finB_true x).1 hf
  by_cases h : Bt.Ff.rung x < 4503599627370496
  · rw [Bt.pex_sub h]; omega
  · rw [Bt.pex_nor h]; omega
theorem float_ok {x : Nat} (hx : x < 18446744073709551616) (hf : Bt.finB x = true) : mkOk3 (Bt.pm x) (Bt.pex x) := by
  by_cases h0 : Bt.pm x = 0
  · exact Or.inl h0
  · have h1 := (Bt.tz_spec (by omega) (pm_small x)).2.2
    have h2 := (tz_low (by omega) (pm_small x)).1
    have h3 := pex_bounds hx hf
    refine Or.inr ⟨?_, by omega, by omega⟩
    exact fits_le (abs_fits (pm_small x)) (odN_le _)
theorem rung_pm {x : Nat} (h : Bt.Ff.rung x = 0) : Bt.pm x = 0 := by rw [Bt.pm_sub (by omega), h]
/-- What is made of a float. -/
def FlPost (x : Nat) (w : World) (e : Ending) (w' : World) : Prop := e = .returned (.tuple #[(mkD (Bt.Ff.sgn x) (Bt.pm x) (Bt.pex x)).v, .int .i64 0]) ∧ Below w.heap.size w w'
theorem box_tabs {w : World} {b : Obj} (h : Bt.Tabs w) : Bt.Tabs (w.alloc b) := h.below ((Below.refl _ _).alloc (Nat.le_refl _) _)
end Go.Proofs.YtkbjlijcnlkbgaaDoor
set_option linter.unusedSimpArgs false
set_option linter.unusedVariables false
namespace Go.Proofs.YtkbjlijcnlkbgaaDoor
open Go Go.RowKit Nt

theorem ff_exp (x : Nat) (hx : x < 18446744073709551616) : bits BinOp.and IntKind.u64 ((x : Int) / 4503599627370496) 2047 = ((Bt.Ff.rung x / 4503599627370496 : Nat) : Int) := by
  have h := u64_and_nat (x / 4503599627370496) 2047 (by omega) (by decide)
  rw [show ((2047 : Nat) : Int) = 2047 from rfl, Int.natCast_ediv] at h
  rw [show ((4503599627370496 : Nat) : Int) = 4503599627370496 from rfl] at h
  rw [h]
  congr 1
  have h2 := Nat.and_two_pow_sub_one_eq_mod (x / 4503599627370496) 11
  rw [show (2 : Nat) ^ 11 - 1 = 2047 from rfl, show (2 : Nat) ^ 11 = 2048 from rfl] at h2
  rw [h2]
  unfold Bt.Ff.rung
  omega
theorem ff_man (x : Nat) (hx : x < 18446744073709551616) : bits BinOp.and IntKind.u64 (x : Int) 4503599627370495 = (Bt.frac x : Int) := by
  rw [show (4503599627370495 : Int) = ((4503599627370495 : Nat) : Int) from rfl, u64_and_nat x _ hx (by decide), Bt.frac_eq]
  congr 1
  have h2 := Nat.and_two_pow_sub_one_eq_mod x 52
  rw [show (2 : Nat) ^ 52 - 1 = 4503599627370495 from rfl, show (2 : Nat) ^ 52 = 4503599627370496 from rfl] at h2
  rw [h2]
  unfold Bt.Ff.rung
  omega
theorem ff_sgn (x : Nat) (hx : x < 18446744073709551616) : ((x : Int) / 9223372036854775808 == 1) = Bt.Ff.sgn x := by
  unfold Bt.Ff.sgn
  rw [Bool.eq_iff_iff, beq_iff_eq, beq_iff_eq]; omega
end Go.Proofs.YtkbjlijcnlkbgaaDoor
set_option linter.unusedSimpArgs false
set_option linter.unusedVariables false
namespace Go.Proofs.YtkbjlijcnlkbgaaDoor
open Go Go.RowKit Nt

theorem boxd {w w1 : World} {b : Obj} (hb : Below ((w.alloc b).drew).heap.size ((w.alloc b).drew) w1) : Below w.heap.size w w1 := (((Below.refl _ _).alloc (Nat.le_refl _) _).drew).trans (hb.mono (show w.heap.size ≤ (w.alloc b).heap.size by simp))
end Go.Proofs.YtkbjlijcnlkbgaaDoor
set_option linter.unusedSimpArgs false
set_option linter.unusedVariables false
namespace Go.Proofs.YtkbjlijcnlkbgaaDoor
open Go Go.RowKit Nt

/-- A Dyad stands at block B. -/
def BoxAt (w : World) (B : Nat) (g : Bool) (s : ByteArray) (x : Int) : Prop := B < w.heap.size ∧ w.cell? ⟨B, 0, none⟩ = some (.bool g) ∧ w.cell? ⟨B, 1, none⟩ = some (.string s) ∧ w.cell? ⟨B, 2, none⟩ = some (.int .i64 x)
theorem BoxAt.step {w w' : World} {B : Nat} {g : Bool} {s : ByteArray} {x : Int} (h : BoxAt w B g s x) (hb : Below w.heap.size w w') : BoxAt w' B g s x := by
  obtain ⟨h0, h1, h2, h3⟩ := h
  exact ⟨Nat.lt_of_lt_of_le h0 hb.size, (hb.cell (p := ⟨B, 0, none⟩) h0).trans h1, (hb.cell (p := ⟨B, 1, none⟩) h0).trans h2, (hb.cell (p := ⟨B, 2, none⟩) h0).trans h3⟩
theorem BoxAt.new (w : World) (g : Bool) (s : ByteArray) (x : Int) (T : TypeId) : BoxAt (w.alloc (.cells #[.bool g, .string s, .int .i64 x] T)) w.heap.size g s x :=
  ⟨by simp, (World.cell?_alloc_at _ _ _ _ rfl).trans rfl, (World.cell?_alloc_at _ _ _ _ rfl).trans rfl, (World.cell?_alloc_at _ _ _ _ rfl).trans rfl⟩
/-- From w on, with one Dyad in its box. -/
def On1 (w : World) (g : Bool) (s : ByteArray) (x : Int) (wc : World) : Prop := Below w.heap.size w wc ∧ BoxAt wc w.heap.size g s x
theorem On1.step {w : World} {g : Bool} {s : ByteArray} {x : Int} {wc w' : World} (h : On1 w g s x wc) (hb : Below wc.heap.size wc w') : On1 w g s x w' := ⟨below_chain h.1 hb, h.2.step hb⟩
theorem On1.new (w : World) (g : Bool) (s : ByteArray) (x : Int) (T : TypeId) : On1 w g s x (w.alloc (.cells #[.bool g, .string s, .int .i64 x] T)) := ⟨(Below.refl _ _).alloc (Nat.le_refl _) _, BoxAt.new w g s x T⟩
/-- And a second box, with the Dyad's magnitude. -/
def On2 (w : World) (g : Bool) (s : ByteArray) (x : Int) (B : Nat) (wc : World) : Prop := On1 w g s x wc ∧ BoxAt wc B false s x
theorem On2.step {w : World} {g : Bool} {s : ByteArray} {x : Int} {B : Nat} {wc w' : World} (h : On2 w g s x B wc) (hb : Below wc.heap.size wc w') : On2 w g s x B w' := ⟨h.1.step hb, h.2.step hb⟩
theorem On2.start {w : World} {g : Bool} {s : ByteArray} {x : Int} {w1 : World} {T : TypeId} (h : On1 w g s x w1) : On2 w g s x w1.heap.size ((w1.alloc (.cells #[.bool false, .string s, .int .i64 x] T)).drew) := by
  have e : Below w1.heap.size w1 (w1.alloc (.cells #[.bool false, .string s, .int .i64 x] T)) := (Below.refl _ _).alloc (Nat.le_refl _) _
  exact ⟨h.step e.drew, (BoxAt.new w1 false s x T).step (Below.refl _ _).drew⟩
end Go.Proofs.YtkbjlijcnlkbgaaDoor
set_option linter.unusedSimpArgs false
set_option linter.unusedVariables false
namespace Go.Proofs.YtkbjlijcnlkbgaaDoor
open Go Go.RowKit Nt

/-- What both make: the same Dyad, the same error. -/
def Two (f g : FuncId) (args : Array Value) : Prop := ∃ (d : Dy) (e : Int), (∀ w, Globs glT w → Calls Tryd.prog f args w fun r w' => r = .returned (.tuple #[d.v, .int .i64 e]) ∧ Below w.heap.size w w') ∧ (∀ w, Calls Tryd.prog g args w fun r w' => r = .returned (.tuple #[d.v, .int .i64 e]) ∧ Below w.heap.size w w')
/-- A Dyad in a block. -/
def Box3 (w : World) (B : Nat) (a b c : Value) : Prop := Blk w B 25 #[a, b, c]
theorem Box3.facts {w : World} {B : Nat} {a b c : Value} (h : Box3 w B a b c) : B < w.heap.size ∧ w.cell? ⟨B, 0, none⟩ = some a ∧ w.cell? ⟨B, 1, none⟩ = some b ∧ w.cell? ⟨B, 2, none⟩ = some c ∧ w.frozen? ⟨B, 0, none⟩ = false ∧ w.frozen? ⟨B, 1, none⟩ = false ∧ w.frozen? ⟨B, 2, none⟩ = false :=
  ⟨Blk.lt h, (Blk.cell h 0).trans rfl, (Blk.cell h 1).trans rfl, (Blk.cell h 2).trans rfl, Blk.frozen h 0, Blk.frozen h 1, Blk.frozen h 2⟩
theorem Box3.step {w w' : World} {B : Nat} {a b c : Value} (h : Box3 w B a b c) (hb : Below w.heap.size w w') : Box3 w' B a b c := Blk.below h hb (Blk.lt h)
theorem Box3.new (w : World) (a b c : Value) : Box3 (w.alloc (.cells #[a, b, c] 25)) w.heap.size a b c := Blk.new w _ _
theorem Box3.more {w : World} {B : Nat} {a b c : Value} (h : Box3 w B a b c) (o : Obj) : Box3 (w.alloc o) B a b c := Blk.alloc h o
theorem Box3.put {w : World} {B : Nat} {a b c : Value} (h : Box3 w B a b c) (a' b' c' : Value) : Box3 (((w.setCell ⟨B, 0, none⟩ a').setCell ⟨B, 1, none⟩ b').setCell ⟨B, 2, none⟩ c') B a' b' c' := by
  have := ((Blk.set_ h 0 a').set_ 1 b').set_ 2 c'
  unfold Box3
  simpa using this
theorem Box3.far {w : World} {B C : Nat} {a b c : Value} (h : Box3 w B a b c) (hne : B ≠ C) (a' b' c' : Value) : Box3 (((w.setCell ⟨C, 0, none⟩ a').setCell ⟨C, 1, none⟩ b').setCell ⟨C, 2, none⟩ c') B a b c :=
  Blk.far (Blk.far (Blk.far h (p := ⟨C, 0, none⟩) hne a') (p := ⟨C, 1, none⟩) hne b') (p := ⟨C, 2, none⟩) hne c'
theorem below_put {n : Nat} {w W : World} {A : Nat} (hb : Below n w W) (hA : n ≤ A) (a' b' c' : Value) : Below n w (((W.setCell ⟨A, 0, none⟩ a').setCell ⟨A, 1, none⟩ b').setCell ⟨A, 2, none⟩ c') :=
  ((hb.setCell (p := ⟨A, 0, none⟩) hA a').setCell (p := ⟨A, 1, none⟩) hA b').setCell (p := ⟨A, 2, none⟩) hA c'
theorem below_then {a b c : World} (h1 : Below a.heap.size a b) (h2 : Below b.heap.size b c) : Below a.heap.size a c := h1.trans (h2.mono h1.size)
end Go.Proofs.YtkbjlijcnlkbgaaDoor
set_option linter.unusedSimpArgs false
set_option linter.unusedVariables false
namespace Go.Proofs.YtkbjlijcnlkbgaaDoor
open Go Go.RowKit Nt

/-- From w on, with two Dyads in boxes. -/
def TB (w : World) (a b : Dt) (W : World) : Prop := Below w.heap.size w W ∧ Box3 W w.heap.size (.bool a.g) (.string a.s) (.int .i64 a.x) ∧ Box3 W (w.heap.size + 1) (.bool b.g) (.string b.s) (.int .i64 b.x)
theorem TB.start (w : World) (a b : Dt) : TB w a b ((w.alloc (.cells #[.bool a.g, .string a.s, .int .i64 a.x] 25)).alloc (.cells #[.bool b.g, .string b.s, .int .i64 b.x] 25)) := by
  have e : (w.alloc (.cells #[.bool a.g, .string a.s, .int .i64 a.x] 25)).heap.size = w.heap.size + 1 := by simp
  refine ⟨((Below.refl _ _).alloc (Nat.le_refl _) _).alloc (by simp) _, (Box3.new w _ _ _).more _, ?_⟩
  rw [← e]
  exact Box3.new _ _ _ _
theorem TB.step {w : World} {a b : Dt} {W W' : World} (h : TB w a b W) (hb : Below W.heap.size W W') : TB w a b W' := ⟨below_then h.1 hb, h.2.1.step hb, h.2.2.step hb⟩
theorem TB.more {w : World} {a b : Dt} {W : World} (h : TB w a b W) (o : Obj) : TB w a b (W.alloc o) := h.step ((Below.refl _ _).alloc (Nat.le_refl _) _)
theorem TB.drawn {w : World} {a b : Dt} {W : World} (h : TB w a b W) (n : Nat) : TB w a b (W.drewN n) := h.step (below_drewN (Below.refl _ _) n)
theorem TB.drew {w : World} {a b : Dt} {W : World} (h : TB w a b W) : TB w a b W.drew := h.step (Below.refl _ _).drew
/-- Where the highest one stands. -/
@[irreducible] def topD (d : Dy) : Int := (nd 2 d.n : Nat) - 1 + d.x
theorem topD_eq (d : Dy) : topD d = (nd 2 d.n : Nat) - 1 + d.x := by unfold topD; rfl
@[irreducible] def upN (a b : Dy) : Nat := a.n * 2 ^ (a.x - b.x).toNat
theorem upN_eq (a b : Dy) : upN a b = a.n * 2 ^ (a.x - b.x).toNat := by unfold upN; rfl
@[irreducible] def magC (a b : Dy) : Int := if topD a < topD b then -1 else if topD b < topD a then 1 else cmpN (upN a b) (upN b a)
theorem magC_lt {a b : Dy} (h : topD a < topD b) : magC a b = -1 := by unfold magC; rw [if_pos h]
theorem magC_gt {a b : Dy} (h : topD b < topD a) : magC a b = 1 := by unfold magC; rw [if_neg (by omega), if_pos h]
theorem magC_eq {a b : Dy} (h : topD a = topD b) : magC a b = cmpN (upN a b) (upN b a) := by unfold magC; rw [if_neg (by omega), if_neg (by omega)]
def Dy.t (d : Dy) : Dt := ⟨d.g, natS d.n, d.x⟩
theorem Dy.t_ok {d : Dy} (h : d.Num) : d.t.Ok := Or.inr ⟨d.n, h.1, h.2.1, rfl, h.2.2.1, h.2.2.2⟩
theorem up_fits {a b : Dy} (ha : a.Num) (hb : b.Num) (h : topD a = topD b) (hx : b.x < a.x) : fits (a.n * 2 ^ (a.x - b.x).toNat) ∧ upN a b = a.n * 2 ^ (a.x - b.x).toNat ∧ upN b a = b.n := by
  refine ⟨(fits_shift (odd_ne ha.2.1)).2 ?_, upN_eq a b, ?_⟩
  · have h1 := bits_131072' hb.1
    rw [topD_eq, topD_eq] at h
    omega
  · rw [upN_eq, show (b.x - a.x).toNat = 0 by omega, Nat.pow_zero, Nat.mul_one]
end Go.Proofs.YtkbjlijcnlkbgaaDoor
set_option linter.unusedSimpArgs false
set_option linter.unusedVariables false
namespace Go.Proofs.YtkbjlijcnlkbgaaDoor
open Go Go.RowKit Nt

@[irreducible] def sgD (d : Dy) : Int := if d.n = 0 then 0 else sgnI d.g
theorem sgD_zero : sgD Dy.zero = 0 := by unfold sgD Dy.zero; rfl
theorem sgD_num {d : Dy} (h : d.n ≠ 0) : sgD d = sgnI d.g := by unfold sgD; rw [if_neg h]
theorem sgD_ne {d : Dy} (h : d.n ≠ 0) : sgD d ≠ 0 := by rw [sgD_num h]; exact sgn_ne2 d.g
theorem Dy.num_of {d : Dy} (h : d.Ok) (hs : sgD d ≠ 0) : d.Num := by
  rcases h with rfl | h
  · exact absurd sgD_zero hs
  · exact h
theorem Dy.zero_of {d : Dy} (h : d.Ok) (hs : sgD d = 0) : d = Dy.zero := by
  rcases h with rfl | h
  · rfl
  · exact absurd hs (sgD_ne (odd_ne h.2.1))
theorem sgD_b (d : Dy) : sgD d = -1 ∨ sgD d = 0 ∨ sgD d = 1 := by
  unfold sgD
  by_cases h : d.n = 0
  · rw [if_pos h]; exact Or.inr (Or.inl rfl)
  · rw [if_neg h]
    cases d.g
    · exact Or.inr (Or.inr sgn_f)
    · exact Or.inl sgn_t
theorem Dy.ok_t {d : Dy} (h : d.Ok) : d.t.Ok := by
  rcases h with rfl | h
  · exact Or.inl ⟨natS_zero, rfl, rfl⟩
  · exact Dy.t_ok h
theorem Dy.small {d : Dy} (h : d.Ok) : (natS d.n).size ≤ 16384 := Dt.small (Dy.ok_t h)
theorem DSign_c (d : Dy) (h : d.Ok) (w : World) : Calls Tryd.prog 61 #[.agg #[.bool d.g, .string (natS d.n), .int .i64 d.x]] w fun e w' => e = .returned (.int .i64 (sgD d)) ∧ Below w.heap.size w w' := by
  rcases h with rfl | h
  · rw [sgD_zero]
    show Calls _ _ #[.agg #[.bool false, .string (natS 0), .int .i64 0]] _ _
    rw [natS_zero]; exact DSign_zero w
  · rw [sgD_num (odd_ne h.2.1)]
    exact DSign_num d.g d.n d.x w h.1 h.2.1 h.2.2.1 h.2.2.2
@[irreducible] def cmpD (a b : Dy) : Int := if sgD a < sgD b then -1 else if sgD b < sgD a then 1 else if sgD a = 0 then 0 else sgD a * magC a b
theorem cmpD_lt {a b : Dy} (h : sgD a < sgD b) : cmpD a b = -1 := by unfold cmpD; rw [if_pos h]
theorem cmpD_gt {a b : Dy} (h : sgD b < sgD a) : cmpD a b = 1 := by unfold cmpD; rw [if_neg (by omega), if_pos h]
theorem cmpD_zero {a b : Dy} (h : sgD a = sgD b) (h0 : sgD a = 0) : cmpD a b = 0 := by unfold cmpD; rw [if_neg (by omega), if_neg (by omega), if_pos h0]
theorem cmpD_eq {a b : Dy} (h : sgD a = sgD b) (h0 : sgD a ≠ 0) : cmpD a b = sgD a * magC a b := by unfold cmpD; rw [if_neg (by omega), if_neg (by omega), if_neg h0]
theorem cmpD_self (a : Dy) : cmpD a a = 0 := by
  by_cases h : sgD a = 0
  · exact cmpD_zero rfl h
  · rw [cmpD_eq rfl h, magC_eq rfl, cmpN_eq, Int.mul_zero]
theorem magC_b (a b : Dy) : magC a b = -1 ∨ magC a b = 0 ∨ magC a b = 1 := by
  unfold magC cmpN
  split
  · exact Or.inl rfl
  · split
    · exact Or.inr (Or.inr rfl)
    · split
      · exact Or.inl rfl
      · split
        · exact Or.inr (Or.inl rfl)
        · exact Or.inr (Or.inr rfl)
theorem dts2 (W : World) (a b : Dt) (T : TypeId) : Dts (W.alloc (.cells #[.bool a.g, .string a.s, .int .i64 a.x, .bool b.g, .string b.s, .int .i64 b.x] T)) (some ⟨W.heap.size, 0, none⟩) [a, b] := fun _ => by
  refine ⟨_, rfl, by simp, fun j hj => ?_⟩
  have hc : ∀ o, (W.alloc (.cells #[.bool a.g, .string a.s, .int .i64 a.x, .bool b.g, .string b.s, .int .i64 b.x] T)).cell? ⟨W.heap.size, o, none⟩ = #[.bool a.g, .string a.s, .int .i64 a.x, .bool b.g, .string b.s, .int .i64 b.x][o]? := fun o => (Blk.new W T _).cell o
  have hj2 : j = 0 ∨ j = 1 := by simp at hj; omega
  rcases hj2 with rfl | rfl
  · refine ⟨?_, ?_, ?_⟩
    · rw [Nat.zero_mul, add_plain0, hc]; rfl
    · rw [Nat.zero_mul, add_plain0, hc]; rfl
    · rw [Nat.zero_mul, add_plain0, hc]; rfl
  · refine ⟨?_, ?_, ?_⟩
    · rw [Nat.one_mul, add_plain0, hc]; rfl
    · rw [Nat.one_mul, add_plain0, hc]; rfl
    · rw [Nat.one_mul, add_plain0, hc]; rfl
theorem Dall2 (a b : Dt) (W : World) (T : TypeId) (A : Nat) (hA : A = W.heap.size) (ha : a.s.size ≤ 9223372036854775807) (hb : b.s.size ≤ 9223372036854775807) :
    Calls Tryd.prog 9 #[.slice (some ⟨A, 0, none⟩) 2 2] (W.alloc (.cells #[.bool a.g, .string a.s, .int .i64 a.x, .bool b.g, .string b.s, .int .i64 b.x] T)) fun e w' => e = .returned (.int .i64 (dE [a, b])) ∧ Below (W.alloc (.cells #[.bool a.g, .string a.s, .int .i64 a.x, .bool b.g, .string b.s, .int .i64 b.x] T)).heap.size (W.alloc (.cells #[.bool a.g, .string a.s, .int .i64 a.x, .bool b.g, .string b.s, .int .i64 b.x] T)) w' := by
  subst hA
  exact Dall_c _ 2 [a, b] _ (by simp) (fun t ht => by
    rcases List.mem_cons.1 ht with rfl | ht
    · exact ha
    · rw [List.mem_singleton.1 ht]; exact hb) (dts2 W a b T)
theorem ne_toList {m n : Nat} (h : m ≠ n) : ¬ (natS m).toList = (natS n).toList := fun c => h ((natS_list_eq m n).1 c)
theorem sm_wrap {s m : Int} (hs : s = -1 ∨ s = 0 ∨ s = 1) (hm : m = -1 ∨ m = 0 ∨ m = 1) : wrap64 (s * m) = s * m := by
  rcases hs with rfl | rfl | rfl <;> rcases hm with rfl | rfl | rfl <;> exact IntWalk.wrap64_in _ (by decide)
end Go.Proofs.YtkbjlijcnlkbgaaDoor
set_option linter.unusedSimpArgs false
set_option linter.unusedVariables false
namespace Go.Proofs.YtkbjlijcnlkbgaaDoor
open Go Go.RowKit Nt

theorem neg_sgn {s : Int} (h : s = -1 ∨ s = 0 ∨ s = 1) : wrap64 (-s) = -s := by rcases h with rfl | rfl | rfl <;> exact IntWalk.wrap64_in _ (by decide)
end Go.Proofs.YtkbjlijcnlkbgaaDoor
set_option linter.unusedSimpArgs false
set_option linter.unusedVariables false
namespace Go.Proofs.YtkbjlijcnlkbgaaDoor
open Go Go.RowKit Nt

theorem fo_gt {x y : Nat} (hx : ¬ Bt.Ff.isn x) (hy : ¬ Bt.Ff.isn y) : (FloatKind.f64.format.order x y == some Ordering.gt) = decide (Bt.Ff.srung y < Bt.Ff.srung x) := by
  rw [show FloatKind.f64.format.order x y = _ from Bt.Ff.order_eq x y, if_neg (fun c => c.elim hx hy)]
  simp only [compare, compareOfLessAndEq]
  rw [Bool.eq_iff_iff, beq_iff_eq, decide_eq_true_iff]
  by_cases h1 : Bt.Ff.srung x < Bt.Ff.srung y
  · rw [if_pos h1]; constructor
    · intro h; cases h
    · intro h; omega
  · rw [if_neg h1]
    by_cases h2 : Bt.Ff.srung x = Bt.Ff.srung y
    · rw [if_pos h2]; constructor
      · intro h; cases h
      · intro h; omega
    · rw [if_neg h2]; exact ⟨fun _ => by omega, fun _ => rfl⟩
theorem fo_lt {x y : Nat} (hx : ¬ Bt.Ff.isn x) (hy : ¬ Bt.Ff.isn y) : (FloatKind.f64.format.order x y == some Ordering.lt) = decide (Bt.Ff.srung x < Bt.Ff.srung y) := by
  rw [show FloatKind.f64.format.order x y = _ from Bt.Ff.order_eq x y, if_neg (fun c => c.elim hx hy)]
  simp only [compare, compareOfLessAndEq]
  rw [Bool.eq_iff_iff, beq_iff_eq, decide_eq_true_iff]
  by_cases h1 : Bt.Ff.srung x < Bt.Ff.srung y
  · rw [if_pos h1]; exact ⟨fun _ => h1, fun _ => rfl⟩
  · rw [if_neg h1]
    by_cases h2 : Bt.Ff.srung x = Bt.Ff.srung y
    · rw [if_pos h2]; constructor
      · intro h; cases h
      · intro h; omega
    · rw [if_neg h2]; constructor
      · intro h; cases h
      · intro h; omega
theorem sr_max : Bt.Ff.srung 9218868437227405311 = 9218868437227405311 := by decide
theorem sr_min : Bt.Ff.srung 18442240474082181119 = -9218868437227405311 := by decide
theorem sr_zero : Bt.Ff.srung 0 = 0 := by decide
theorem in_max : ¬ Bt.Ff.isn 9218868437227405311 := by decide
theorem in_min : ¬ Bt.Ff.isn 18442240474082181119 := by decide
theorem in_zero : ¬ Bt.Ff.isn 0 := by decide
/-- A float is no number, an infinity, or finite: what Go's comparisons say of it. -/
theorem fl_kinds {x : Nat} (hx : x < 18446744073709551616) :
    (Bt.Ff.isn x ∧ (FloatKind.f64.format.order x x != some Ordering.eq) = true) ∨
    (¬ Bt.Ff.isn x ∧ Bt.finB x = false ∧ (FloatKind.f64.format.order x x != some Ordering.eq) = false ∧ (FloatKind.f64.format.order x 9218868437227405311 == some Ordering.gt) = true ∧ (FloatKind.f64.format.order x 0 == some Ordering.gt) = true ∧ Bt.Ff.sgn x = false) ∨
    (¬ Bt.Ff.isn x ∧ Bt.finB x = false ∧ (FloatKind.f64.format.order x x != some Ordering.eq) = false ∧ (FloatKind.f64.format.order x 9218868437227405311 == some Ordering.gt) = false ∧ (FloatKind.f64.format.order x 18442240474082181119 == some Ordering.lt) = true ∧ (FloatKind.f64.format.order x 0 == some Ordering.gt) = false ∧ Bt.Ff.sgn x = true) ∨
    (Bt.finB x = true ∧ (FloatKind.f64.format.order x x != some Ordering.eq) = false ∧ (FloatKind.f64.format.order x 9218868437227405311 == some Ordering.gt) = false ∧ (FloatKind.f64.format.order x 18442240474082181119 == some Ordering.lt) = false) := by
  have hr : Bt.Ff.rung x < 9223372036854775808 := by unfold Bt.Ff.rung; omega
  by_cases hn : Bt.Ff.isn x
  · exact Or.inl ⟨hn, by rw [Bt.isn_ne, decide_eq_true hn]⟩
  · have hnn : (FloatKind.f64.format.order x x != some Ordering.eq) = false := by rw [Bt.isn_ne, decide_eq_false hn]
    have hl : Bt.Ff.rung x ≤ 9218868437227405312 := by unfold Bt.Ff.isn at hn; omega
    rw [fo_gt hn in_max, fo_lt hn in_min, fo_gt hn in_zero, sr_max, sr_min, sr_zero]
    by_cases hf : Bt.finB x = true
    · have hfr := (Bt.finB_true x).1 hf
      refine Or.inr (Or.inr (Or.inr ⟨hf, hnn, decide_eq_false ?_, decide_eq_false ?_⟩))
      · unfold Bt.Ff.srung; split <;> omega
      · unfold Bt.Ff.srung; split <;> omega
    · have hf' : Bt.finB x = false := by simpa using hf
      have hfr := (Bt.finB_false x).1 hf'
      cases hs : Bt.Ff.sgn x
      · refine Or.inr (Or.inl ⟨hn, hf', hnn, decide_eq_true ?_, decide_eq_true ?_, rfl⟩)
        · unfold Bt.Ff.srung; rw [hs, if_neg (by decide)]; omega
        · unfold Bt.Ff.srung; rw [hs, if_neg (by decide)]; omega
      · refine Or.inr (Or.inr (Or.inl ⟨hn, hf', hnn, decide_eq_false ?_, decide_eq_true ?_, decide_eq_false ?_, rfl⟩))
        · unfold Bt.Ff.srung; rw [hs, if_pos rfl]; omega
        · unfold Bt.Ff.srung; rw [hs, if_pos rfl]; omega
        · unfold Bt.Ff.srung; rw [hs, if_pos rfl]; omega
/-- From w on, with one Dyad in a box. -/
def OB (w : World) (a : Dt) (W : World) : Prop := Below w.heap.size w W ∧ Box3 W w.heap.size (.bool a.g) (.string a.s) (.int .i64 a.x)
theorem OB.start (w : World) (a : Dt) : OB w a (w.alloc (.cells #[.bool a.g, .string a.s, .int .i64 a.x] 25)) := ⟨(Below.refl _ _).alloc (Nat.le_refl _) _, Box3.new w _ _ _⟩
theorem OB.step {w : World} {a : Dt} {W W' : World} (h : OB w a W) (hb : Below W.heap.size W W') : OB w a W' := ⟨below_then h.1 hb, h.2.step hb⟩
theorem OB.more {w : World} {a : Dt} {W : World} (h : OB w a W) (o : Obj) : OB w a (W.alloc o) := h.step ((Below.refl _ _).alloc (Nat.le_refl _) _)
/-- A Dyad against a float. -/
@[irreducible] def agR (d : Dy) (x : Nat) : Int := if Bt.Ff.isn x then 0 else if Bt.finB x = true then cmpD d (mkD (Bt.Ff.sgn x) (Bt.pm x) (Bt.pex x)) else if Bt.Ff.sgn x then 1 else -1
@[irreducible] def agE (x : Nat) : Int := if Bt.Ff.isn x then 5 else 0
theorem fin_isn {x : Nat} (h : Bt.finB x = true) : ¬ Bt.Ff.isn x := by have := (Bt.finB_true x).1 h; unfold Bt.Ff.isn; omega
theorem agR_nan {d : Dy} {x : Nat} (h : Bt.Ff.isn x) : agR d x = 0 ∧ agE x = 5 := by unfold agR agE; rw [if_pos h, if_pos h]; exact ⟨rfl, rfl⟩
theorem agR_inf {d : Dy} {x : Nat} (h : ¬ Bt.Ff.isn x) (hf : Bt.finB x = false) (b : Bool) (hs : Bt.Ff.sgn x = b) : agR d x = (if b = true then 1 else -1) ∧ agE x = 0 := by
  unfold agR agE; rw [if_neg h, if_neg h, hf, hs, if_neg (by decide)]; exact ⟨rfl, rfl⟩
theorem agR_fin {d : Dy} {x : Nat} (hf : Bt.finB x = true) : agR d x = cmpD d (mkD (Bt.Ff.sgn x) (Bt.pm x) (Bt.pex x)) ∧ agE x = 0 := by
  unfold agR agE; rw [if_neg (fin_isn hf), if_neg (fin_isn hf), if_pos hf]; exact ⟨rfl, rfl⟩
end Go.Proofs.YtkbjlijcnlkbgaaDoor
set_option linter.unusedSimpArgs false
set_option linter.unusedVariables false
namespace Go.Proofs.YtkbjlijcnlkbgaaDoor
open Go Go.RowKit Nt

theorem rMayT_no (t : Dt) (w : World) (hs : t.s.size ≤ 9223372036854775807) (h : ¬ t.Ok) : Calls Tryd.prog 5 #[.agg #[.bool t.g, .string t.s, .int .i64 t.x]] w fun e w' => e = .returned (.bool false) ∧ Below w.heap.size w w' := rMay3_bad t.g t.s t.x w hs h
theorem rMayT_ok (d : Dy) (w : World) (h : d.Ok) : Calls Tryd.prog 5 #[.agg #[.bool d.g, .string (natS d.n), .int .i64 d.x]] w fun e w' => e = .returned (.bool true) ∧ Below w.heap.size w w' := by
  rcases h with rfl | h
  · show Calls _ _ #[.agg #[.bool false, .string (natS 0), .int .i64 0]] _ _
    rw [natS_zero]; exact rMay3_zero w
  · exact rMay3_num d.g d.n d.x w h.1 h.2.1 h.2.2.1 h.2.2.2
theorem Dt.dy {t : Dt} (h : t.Ok) : ∃ d : Dy, d.Ok ∧ t = d.t := by
  obtain ⟨d, h1, h2, h3, h4⟩ := DOk_dy h
  exact ⟨d, h1, by obtain ⟨g, s, x⟩ := t; simp only at h2 h3 h4; rw [h2, h3, h4]; rfl⟩
end Go.Proofs.YtkbjlijcnlkbgaaDoor
set_option linter.unusedSimpArgs false
set_option linter.unusedVariables false
namespace Go.Proofs.YtkbjlijcnlkbgaaDoor
open Go Go.RowKit Nt

theorem low_word {n i : Nat} (hz : ∀ j, j < i → dgt W n j = 0) (hd : dgt W n i ≠ 0) : lowN n = 64 * i + Lib.ctz 64 (dgt W n i) := by
  have h0 : n % W ^ i = 0 := by
    have := mod_eq_of_digits (b := W) n 0 i (fun j hj => by rw [hz j hj, dgt_def, Nat.zero_div, Nat.zero_mod])
    rwa [Nat.zero_mod] at this
  have hdl : dgt W n i < 18446744073709551616 := wd_lt n i
  obtain ⟨t1, t2, t3⟩ := Bt.tz_spec (Nat.pos_of_ne_zero hd) hdl
  have e : Lib.ctz 64 (dgt W n i) = Bt.tz (dgt W n i) := rfl
  rw [e]
  have hm : n = W ^ i * (n / W ^ i) := by have := Nat.div_add_mod n (W ^ i); rw [h0] at this; omega
  have hd2 : n / W ^ i = dgt W n i + W * (n / W ^ i / W) := by
    rw [dgt_def]; have := Nat.mod_add_div (n / W ^ i) W; omega
  generalize dgt W n i = d at *
  generalize n / W ^ i / W = q at *
  generalize hmm : n / W ^ i = m at *
  clear hz h0 e hd hdl hmm
  have hp : W = 2 ^ Bt.tz d * 2 ^ (64 - Bt.tz d) := by rw [← Nat.pow_add, show Bt.tz d + (64 - Bt.tz d) = 64 by omega]; exact W_two
  refine (od_unique (o := Bt.od d + 2 ^ (64 - Bt.tz d) * q) ?_ ?_).1
  · rw [show 64 - Bt.tz d = (64 - Bt.tz d - 1) + 1 by omega, Nat.pow_succ]
    have : 2 ^ (64 - Bt.tz d - 1) * 2 * q = 2 * (2 ^ (64 - Bt.tz d - 1) * q) := by rw [Nat.mul_comm (2 ^ (64 - Bt.tz d - 1)) 2, Nat.mul_assoc]
    omega
  · rw [hm, hd2, Nat.pow_add, Nat.pow_mul, ← W_two, Nat.add_mul, ← Nat.mul_assoc, Nat.mul_comm (Bt.od d), Nat.mul_assoc (W ^ i), t1]
    rw [Nat.mul_add]
    congr 1
    rw [hp]
    simp only [Nat.mul_assoc, Nat.mul_comm, Nat.mul_left_comm]
set_option maxRecDepth 100000 in
set_option maxHeartbeats 1000000 in
theorem LLow_c (A : Option Addr) (c n B : Nat) (w : World) (hL : nd W n ≤ 1000000000) (hr : Row w B A n (nd W n)) (hT : Bt.Tabs w) :
    Calls Tryd.prog 37 #[.slice A (nd W n) c] w fun e w' => e = .returned (.int .i64 (lowN n : Nat)) ∧ w = w' := by
  obtain ⟨L, hLe⟩ : ∃ L, L = nd W n := ⟨_, rfl⟩
  have HT := Lib.hid hT.1
  have hn : n < W ^ nd W n := lt_nd W2
  rw [← hLe] at hL hr hn ⊢
  have HR := Lib.hid hr
  have HN := Lib.hid hn
  clear hr hLe hT hn
  go_enter Tryd.func37, Tryd.ntmps37
  go_wp2_with fail
  go_loop [7] (fun i => ∃ k : Nat, k ≤ L ∧ i = .int .i64 k ∧ Hid (∀ j, j < k → dgt W n j = 0)) (fun i => L - (intOf i).toNat)
  case atStart => exact ⟨0, Nat.zero_le _, rfl, Lib.hid (fun j h => by omega)⟩
  case round =>
    obtain ⟨k, hk, rfl, hz⟩ := hrel
    by_cases hlt : k < L
    · obtain ⟨g, rfl, hg, hc⟩ := HR.out.at_ hlt
      have hdl := wd_lt n k
      by_cases hd : dgt W n k = 0
      · rw [hd] at hc
        have HZ := Lib.hid (show ∀ j, j < k + 1 → dgt W n j = 0 from fun j hj => by
          rcases Nat.lt_or_ge j k with h | h
          · exact hz.out j h
          · obtain rfl : j = k := by omega
            exact hd)
        clear hd hdl
        go_wp2_with fail
        go_round
        case rel => exact ⟨k + 1, by omega, by go_num, HZ⟩
        case measure => simp [intOf]; omega
      · have hne : (((dgt W n k : Nat) : Int) != 0) = true := by rw [bne_iff_ne]; omega
        have HE := Lib.hid (low_word hz.out hd)
        have KT := Lib.hid (fun w hT => Tryd.bits_TrailingZeros64 (dgt W n k) hdl w hT)
        have hct : Lib.ctz 64 (dgt W n k) < 64 := (Bt.tz_spec (Nat.pos_of_ne_zero hd) hdl).2.2
        generalize dgt W n k = d at *
        generalize Lib.ctz 64 d = t at *
        clear hd hdl
        go_wp2_with fail
        refine (KT.out _ (fun _ => HT.out)).mono ?_
        rintro e w' ⟨rfl, rfl⟩
        go_wp2_with fail
        go_ret
        exact ⟨by rw [HE.out, Int.natCast_add, Int.natCast_mul]; rfl, rfl⟩
    · obtain rfl : k = L := by omega
      have h0 : lowN n = 0 := by
        have : n = 0 := eq_of_digits (b := W) (L := k) HN.out (Nat.pow_pos W0) (fun i hi => by rw [hz.out i hi, dgt_def, Nat.zero_div, Nat.zero_mod])
        rw [this, lowN_zero]
      have HZ := Lib.hid h0
      clear h0
      go_wp2_with fail
      go_ret
      exact ⟨by rw [HZ.out]; rfl, rfl⟩
end Go.Proofs.YtkbjlijcnlkbgaaDoor
set_option linter.unusedSimpArgs false
set_option linter.unusedVariables false
namespace Go.Proofs.YtkbjlijcnlkbgaaDoor
open Go Go.RowKit Nt

theorem fit_shift (g : Bool) (n : Nat) (x : Int) : mkD g (odN n) (x + (lowN n : Int)) = mkD g n x ∧ mkE (odN n) (x + (lowN n : Int)) = mkE n x := by
  by_cases h0 : n = 0
  · subst h0; rw [odN_zero, mkD_zero, mkD_zero, mkE_zero, mkE_zero]; exact ⟨rfl, rfl⟩
  · have h := mkD_shift g (odN n) (lowN n) (x + (lowN n : Int))
    rw [← (odN_spec h0).2, show x + (lowN n : Int) - (lowN n : Int) = x by omega] at h
    exact ⟨h.1.symm, h.2.symm⟩
theorem nd2_W {n m : Nat} (h : nd W n ≤ m) : nd 2 n ≤ 64 * m := (nd_pow (b := 2) (c := W) (e := 64) (by omega) (by omega) W_two n m).2 h
theorem fit_bits {n : Nat} : (131072 < nd 2 n - lowN n) ↔ ¬ fits (odN n) := by
  by_cases h0 : n = 0
  · subst h0; rw [odN_zero, nd_zero]; exact ⟨fun c => by omega, fun c => absurd fits_zero c⟩
  · have h1 := nd_odN h0
    have h2 := bits_le (odN n) 16384
    unfold fits
    omega
theorem Row.allocd {w : World} {B : Nat} {A : Option Addr} {n L : Nat} (h : Row w B A n L) (hB : B ≤ w.heap.size) (b : Obj) : Row (w.alloc b) B A n L := h.below ((Below.refl _ _).alloc hB _)
set_option maxRecDepth 100000 in
set_option maxHeartbeats 1000000 in
theorem DFit_c (g : Bool) (n : Nat) (x : Int) (A : Option Addr) (c B : Nat) (w : World) (hn : nd W n ≤ 10000) (hx : -2000000 ≤ x ∧ x ≤ 2000000) (hr : Row w B A n (nd W n)) (hB : B ≤ w.heap.size) (hT : Bt.Tabs w) :
    Calls Tryd.prog 18 #[.bool g, .slice A (nd W n) c, .int .i64 x] w (MkPost g n x w) := by
  have hbits := nd2_W hn
  have hll : lowN n ≤ nd 2 n := by
    by_cases h0 : n = 0
    · rw [h0, lowN_zero]; omega
    · exact Nat.le_of_lt (low_lt h0 (lowN_is n))
  have hfb := @fit_bits n
  have K1 : Hid (∀ b, Calls Tryd.prog 37 #[.slice A (nd W n) c] (w.alloc b) fun e w' => e = .returned (.int .i64 (lowN n : Nat)) ∧ w.alloc b = w') := Lib.hid fun b => LLow_c A c n B _ (by omega) (hr.allocd hB b) (box_tabs hT)
  have K2 : Hid (∀ b, Calls Tryd.prog 38 #[.slice A (nd W n) c] (w.alloc b) fun e w' => e = .returned (.int .i64 (nd 2 n : Nat)) ∧ w.alloc b = w') := Lib.hid fun b => Len_c A c n B _ (by omega) (hr.allocd hB b)
  have K3 : Hid (∀ b, Calls Tryd.prog 40 #[.slice A (nd W n) c, .int .i64 (lowN n : Nat)] (w.alloc b) (NumPost (odN n) (w.alloc b))) := Lib.hid fun b => by
    have := Shr_c A c n (lowN n) B (w.alloc b) (by omega) (by omega) (hr.allocd hB b) (Nat.le_trans hB (by simp))
    unfold odN; exact this
  have hno : nd W (odN n) ≤ 10000 := Nat.le_trans (nd_mono W2 (odN_le n)) hn
  have K4 := Lib.hid (fun A' c' w' (hr' : Row w' w'.heap.size A' (odN n) (nd W (odN n))) => Bytes_c A' c' (odN n) w'.heap.size w' (by omega) hr' (Nat.le_refl _))
  have hfs := fit_shift g n x
  by_cases hfit : fits (odN n)
  · have KM : Hid (∀ w, Calls Tryd.prog 22 #[.bool g, .string (natS (odN n)), .int .i64 (x + (lowN n : Int))] w fun e w' => e = .returned (.tuple #[(mkD g n x).v, .int .i64 (mkE n x)]) ∧ Below w.heap.size w w') := Lib.hid fun w => by
      have := DMake_c g (odN n) (x + (lowN n : Int)) w hfit (by omega)
      unfold MkPost at this
      rw [hfs.1, hfs.2] at this
      exact this
    have h1 : ¬ (131072 : Int) < ((nd 2 n : Nat) : Int) - ((lowN n : Nat) : Int) := by
      have : ¬ 131072 < nd 2 n - lowN n := fun c => hfb.1 c hfit
      omega
    clear hfb hr hB hT hfit hfs
    clear hno hn
    unfold MkPost
    generalize mkD g n x = D at *
    generalize mkE n x = E at *
    go_enter Tryd.func18, Tryd.ntmps18
    go_wp2_with fail
    refine (K1.out _).mono ?_
    rintro e w' ⟨rfl, rfl⟩
    go_wp2_with fail
    refine (K2.out _).mono ?_
    rintro e w' ⟨rfl, rfl⟩
    go_wp2_with fail
    refine (K3.out _).mono ?_
    rintro e w1 hnp
    obtain ⟨A3, c3, rfl, hc3, hr3, hb3⟩ := hnp.get
    have HR3 := Lib.hid hr3
    clear hr3 hc3 hnp
    go_wp2_with fail
    refine (K4.out _ _ _ HR3.out).mono ?_
    rintro e w2 ⟨rfl, hb4⟩
    have hb := below_then hb3 hb4
    clear hb3 hb4
    go_wp2_with fail
    refine (KM.out _).mono ?_
    rintro e w3 ⟨rfl, hb5⟩
    have hb := below_then hb hb5
    obtain ⟨hcl, hfz⟩ := bcell hb
    have hsz := box1 hb
    clear hb5
    unfold Dy.v
    go_wp2_with fail
    refine bodyPost_ret (v := .tuple #[D.v, .int .i64 E]) (by simp [results, Tryd.results18, go_sem, hcl, hsz, Dy.v]) rfl ⟨rfl, ?_⟩
    repeat (refine Below.setCell ?_ (by simp) _)
    exact box_below hb
  · have hno2 : ¬ mkOk3 n x := by
      rintro (h | ⟨h, _⟩)
      · subst h; rw [odN_zero] at hfit; exact hfit fits_zero
      · exact hfit h
    have HNO := Lib.hid hno2
    have h1 : (131072 : Int) < ((nd 2 n : Nat) : Int) - ((lowN n : Nat) : Int) := by
      have := hfb.2 hfit
      omega
    clear hfb hr hB hT hfit hfs hno2
    clear hno hn
    go_enter Tryd.func18, Tryd.ntmps18
    go_wp2_with fail
    refine (K1.out _).mono ?_
    rintro e w' ⟨rfl, rfl⟩
    go_wp2_with fail
    refine (K2.out _).mono ?_
    rintro e w' ⟨rfl, rfl⟩
    go_wp2_with fail
    refine bodyPost_ret (v := .tuple #[.agg #[.bool false, .string ⟨#[]⟩, .int .i64 0], .int .i64 4]) (by simp [results, Tryd.results18, go_sem]) rfl (MkPost.no HNO.out rfl ?_)
    repeat (refine Below.setCell ?_ (by simp) _)
    exact (Below.refl _ _).alloc (Nat.le_refl _) _
end Go.Proofs.YtkbjlijcnlkbgaaDoor
set_option linter.unusedSimpArgs false
set_option linter.unusedVariables false
namespace Go.Proofs.YtkbjlijcnlkbgaaDoor
open Go Go.RowKit Nt

def sgnd (g : Bool) (m : Nat) : Int := if g then -(m : Int) else (m : Int)
def sumG (g h : Bool) (X Y : Nat) : Bool := if g = h then g else if X < Y then h else g
def sumN (g h : Bool) (X Y : Nat) : Nat := if g = h then X + Y else if X < Y then Y - X else X - Y
theorem sum_abs (g h : Bool) (X Y : Nat) : (sgnd g X + sgnd h Y).natAbs = sumN g h X Y := by
  unfold sgnd sumN
  cases g <;> cases h <;> simp <;> (try split) <;> omega
theorem sum_sgn (g h : Bool) (X Y : Nat) (h0 : sumN g h X Y ≠ 0) : decide (sgnd g X + sgnd h Y < 0) = sumG g h X Y := by
  by_cases hl : X < Y <;> cases g <;> cases h <;> simp [sgnd, sumN, sumG, hl] at h0 ⊢ <;> omega
theorem sum_mk (g h : Bool) (X Y : Nat) (x : Int) : mkD (decide (sgnd g X + sgnd h Y < 0)) (sgnd g X + sgnd h Y).natAbs x = mkD (sumG g h X Y) (sumN g h X Y) x := by
  rw [sum_abs]
  by_cases h0 : sumN g h X Y = 0
  · rw [h0, mkD_zero, mkD_zero]
  · rw [sum_sgn g h X Y h0]
/-- a and b, a's exponent not below b's. -/
@[irreducible] def hiD (a b : Dy) : Dy := mkD (sumG a.g b.g (upN a b) b.n) (sumN a.g b.g (upN a b) b.n) b.x
@[irreducible] def hiE (a b : Dy) : Int := mkE (sumN a.g b.g (upN a b) b.n) b.x
theorem hiD_eq (a b : Dy) : hiD a b = mkD (sumG a.g b.g (upN a b) b.n) (sumN a.g b.g (upN a b) b.n) b.x := by unfold hiD; rfl
theorem hiE_eq (a b : Dy) : hiE a b = mkE (sumN a.g b.g (upN a b) b.n) b.x := by unfold hiE; rfl
@[irreducible] def addD (a b : Dy) : Dy := if a.n = 0 then b else if b.n = 0 then a else if a.x < b.x then hiD b a else hiD a b
@[irreducible] def addE (a b : Dy) : Int := if a.n = 0 then 0 else if b.n = 0 then 0 else if a.x < b.x then hiE b a else hiE a b
theorem add_zl {a b : Dy} (h : a.n = 0) : addD a b = b ∧ addE a b = 0 := by unfold addD addE; rw [if_pos h, if_pos h]; exact ⟨rfl, rfl⟩
theorem add_zr {a b : Dy} (h0 : a.n ≠ 0) (h : b.n = 0) : addD a b = a ∧ addE a b = 0 := by unfold addD addE; rw [if_neg h0, if_neg h0, if_pos h, if_pos h]; exact ⟨rfl, rfl⟩
theorem add_lt {a b : Dy} (h0 : a.n ≠ 0) (h1 : b.n ≠ 0) (h : a.x < b.x) : addD a b = hiD b a ∧ addE a b = hiE b a := by unfold addD addE; rw [if_neg h0, if_neg h0, if_neg h1, if_neg h1, if_pos h, if_pos h]; exact ⟨rfl, rfl⟩
theorem add_ge {a b : Dy} (h0 : a.n ≠ 0) (h1 : b.n ≠ 0) (h : ¬ a.x < b.x) : addD a b = hiD a b ∧ addE a b = hiE a b := by unfold addD addE; rw [if_neg h0, if_neg h0, if_neg h1, if_neg h1, if_neg h, if_neg h]; exact ⟨rfl, rfl⟩
theorem add_Ok {a b : Dy} (ha : a.Ok) (hb : b.Ok) : (addD a b).Ok := by
  unfold addD
  split
  · exact hb
  · split
    · exact ha
    · split
      · rw [hiD_eq]; exact mkD_Ok _ _ _
      · rw [hiD_eq]; exact mkD_Ok _ _ _
theorem sgnd_i64 {m : Nat} (h : m ≤ 9223372036854775807) : IntKind.i64.wrap (m : Int) = (m : Int) ∧ IntKind.i64.wrap (-(m : Int)) = -(m : Int) := ⟨IntWalk.i64_in _ (by omega), IntWalk.i64_in _ (by omega)⟩
set_option maxRecDepth 100000 in
theorem Dsigned_c (g : Bool) (m : Nat) (w : World) (hm : m ≤ 9223372036854775807) :
    Calls Tryd.prog 35 #[.bool g, .int .u64 (m : Nat)] w fun e w' => e = .returned (.int .i64 (sgnd g m)) ∧ w = w' := by
  obtain ⟨h1, h2⟩ := sgnd_i64 hm
  have h3 : wrap64 (m : Int) = (m : Int) := IntWalk.wrap64_in _ (by omega)
  have h4 : wrap64 (-(m : Int)) = -(m : Int) := IntWalk.wrap64_in _ (by omega)
  cases g
  · go_enter Tryd.func35, Tryd.ntmps35
    go_wp2
    go_ret
    exact ⟨rfl, rfl⟩
  · go_enter Tryd.func35, Tryd.ntmps35
    go_wp2
    go_ret
    exact ⟨rfl, rfl⟩
end Go.Proofs.YtkbjlijcnlkbgaaDoor
set_option linter.unusedSimpArgs false
set_option linter.unusedVariables false
namespace Go.Proofs.YtkbjlijcnlkbgaaDoor
open Go Go.RowKit Nt

theorem len64_nd (m : Nat) (hm : m < 18446744073709551616) (w : World) : Calls Tryd.prog 34 #[.int .u64 (m : Nat)] w fun e w' => e = .returned (.int .i64 (nd 2 m : Nat)) ∧ w' = w := by
  have := Tryd.bits_Len64 (m : Int) w (by omega) (by omega)
  rw [Int.toNat_natCast, bitLen_nd hm] at this
  exact this
/-- What briefSum leaves: nothing, or the sum. -/
def BrPost (a b : Dy) (w : World) (e : Ending) (w' : World) : Prop := ∃ (D : Dy) (ok : Bool), e = .returned (.tuple #[.agg #[.bool D.g, .string (natS D.n), .int .i64 D.x], .bool ok]) ∧ (ok = true → D = hiD a b ∧ hiE a b = 0) ∧ Below w.heap.size w w'
theorem TB3 {w : World} {a b : Dt} {W w1 : World} {o : Obj} (h : TB w a b W) (hb : Below (W.alloc o).heap.size (W.alloc o) w1) : TB w a b w1 := (h.more o).step hb
theorem pow_lt62 {m j : Nat} (h : nd 2 m + j ≤ 62) : m * 2 ^ j < 4611686018427387904 := by
  have h1 : m < 2 ^ nd 2 m := lt_nd (by omega)
  have h2 : m * 2 ^ j < 2 ^ nd 2 m * 2 ^ j := Nat.mul_lt_mul_of_pos_right h1 (Nat.two_pow_pos j)
  rw [← Nat.pow_add] at h2
  exact Nat.lt_of_lt_of_le h2 (Nat.le_trans (Nat.pow_le_pow_right (by omega) h) (by decide))
theorem lt62 {m : Nat} (h : nd 2 m ≤ 62) : m < 4611686018427387904 := by
  have := pow_lt62 (m := m) (j := 0) (by omega)
  rwa [Nat.pow_zero, Nat.mul_one] at this
set_option maxRecDepth 100000 in
set_option maxHeartbeats 2000000 in
theorem Dbrief_no (a b : Dy) (j : Nat) (w : World) (ha : a.Num) (hb : b.Num) (hj : j ≤ 3000000) (hno : brB a.n = false ∨ (brB a.n = true ∧ brB b.n = false) ∨ (brB a.n = true ∧ brB b.n = true ∧ 62 < j) ∨ (brB a.n = true ∧ brB b.n = true ∧ ¬ 62 < j ∧ 62 < nd 2 a.n + j) ∨ (brB a.n = true ∧ brB b.n = true ∧ ¬ 62 < j ∧ ¬ 62 < nd 2 a.n + j ∧ 62 < nd 2 b.n)) :
    Calls Tryd.prog 15 #[.agg #[.bool a.g, .string (natS a.n), .int .i64 a.x], .agg #[.bool b.g, .string (natS b.n), .int .i64 b.x], .int .i64 (j : Nat)] w (BrPost a b w) := by
  have KA := Lib.hid (fun w => Small_c a.n w ha.1)
  have KB := Lib.hid (fun w => Small_c b.n w hb.1)
  have hba := bits_131072' ha.1
  have hbb := bits_131072' hb.1
  have T0 := TB.start w a.t b.t
  unfold Dy.t at T0
  have KLa : Hid (∀ w, brB a.n = true → Calls Tryd.prog 34 #[.int .u64 (brN a.n : Nat)] w fun e w' => e = .returned (.int .i64 (nd 2 a.n : Nat)) ∧ w' = w) := Lib.hid fun w h => by
    have h1 := br_lt.1 (brB_true h)
    have h2 : brN a.n = a.n := brN_yes (brB_true h)
    rw [h2]; exact len64_nd a.n h1 w
  have KLb : Hid (∀ w, brB b.n = true → Calls Tryd.prog 34 #[.int .u64 (brN b.n : Nat)] w fun e w' => e = .returned (.int .i64 (nd 2 b.n : Nat)) ∧ w' = w) := Lib.hid fun w h => by
    have h1 := br_lt.1 (brB_true h)
    have h2 : brN b.n = b.n := brN_yes (brB_true h)
    rw [h2]; exact len64_nd b.n h1 w
  clear ha hb
  rcases hno with c1 | ⟨c1, c2⟩ | ⟨c1, c2, c3⟩ | ⟨c1, c2, c3, c4⟩ | ⟨c1, c2, c3, c4, c5⟩
  all_goals
    go_enter Tryd.func15, Tryd.ntmps15
    go_wp2_with fail
    refine (KA.out _).mono ?_
    rintro e w1 ⟨rfl, hb⟩
    have hb1 := (TB.start w a.t b.t).more (.cells #[.bool false, .string ⟨#[]⟩, .int .i64 0] 25) |>.1
    obtain ⟨hcl, hfz⟩ := bcell hb
    have hsz : w.heap.size + 2 < w1.heap.size := by have := hb.size; simp at this; omega
    replace T0 := TB3 T0 hb
    obtain ⟨p0, p1, p2, p3, p4, p5, p6⟩ := T0.2.1.facts
    obtain ⟨q0, q1, q2, q3, q4, q5, q6⟩ := T0.2.2.facts
    go_wp2_with fail
    refine (KB.out _).mono ?_
    rintro e w2 ⟨rfl, hbb2⟩
    replace T0 := T0.step hbb2
    have hb3 := hb.trans (hbb2.mono hb.size)
    clear hb hbb2 hcl hfz p0 p1 p2 p3 p4 p5 p6 q0 q1 q2 q3 q4 q5 q6
    obtain ⟨hcl, hfz⟩ := bcell hb3
    have hsz2 : w.heap.size + 2 < w2.heap.size := by have := hb3.size; simp at this; omega
    go_wp2_with (first
      | (go_at_call 34; (with_reducible refine (KLa.out _ c1).mono ?_); rintro e w' ⟨rfl, rfl⟩)
      | (go_at_call 34; (with_reducible refine (KLb.out _ c2).mono ?_); rintro e w' ⟨rfl, rfl⟩))
    refine bodyPost_ret (v := .tuple #[.agg #[.bool false, .string ⟨#[]⟩, .int .i64 0], .bool false]) (by simp [results, Tryd.results15, go_sem, hcl, hsz, hsz2]) rfl ⟨Dy.zero, false, by rw [← natS_zero]; rfl, fun c => (by cases c), ?_⟩
    repeat (refine Below.setCell ?_ (by simp; omega) _)
    exact T0.1
end Go.Proofs.YtkbjlijcnlkbgaaDoor
set_option linter.unusedSimpArgs false
set_option linter.unusedVariables false
namespace Go.Proofs.YtkbjlijcnlkbgaaDoor
open Go Go.RowKit Nt

theorem shl_u64 {m j X : Nat} (hX : X = m * 2 ^ j) (h : X < 18446744073709551616) : Hid (IntKind.u64.wrap ((m : Int) * 2 ^ j) = (X : Int)) := Lib.hid (by
  rw [wr_pow (s := 2 ^ j) rfl, ← hX, IntKind.wrap_u64]; clear hX; omega)
theorem sgnd_b (g : Bool) {m : Nat} (h : m < 4611686018427387904) : -4611686018427387904 < sgnd g m ∧ sgnd g m < 4611686018427387904 := by
  unfold sgnd; cases g <;> simp <;> omega
set_option maxRecDepth 100000 in
set_option maxHeartbeats 2000000 in
theorem Dbrief_yes (a b : Dy) (j : Nat) (w : World) (ha : a.Num) (hb : b.Num) (hj : j = (a.x - b.x).toNat) (c1 : brB a.n = true) (c2 : brB b.n = true) (c3 : ¬ 62 < j) (c4 : ¬ 62 < nd 2 a.n + j) (c5 : ¬ 62 < nd 2 b.n) :
    Calls Tryd.prog 15 #[.agg #[.bool a.g, .string (natS a.n), .int .i64 a.x], .agg #[.bool b.g, .string (natS b.n), .int .i64 b.x], .int .i64 (j : Nat)] w (BrPost a b w) := by
  have hna : brN a.n = a.n := brN_yes (brB_true c1)
  have hnb : brN b.n = b.n := brN_yes (brB_true c2)
  have KA := Lib.hid (fun w => Small_c a.n w ha.1)
  have KB := Lib.hid (fun w => Small_c b.n w hb.1)
  rw [hna, c1] at KA
  rw [hnb, c2] at KB
  have T0 := TB.start w a.t b.t
  unfold Dy.t at T0
  have KLa := Lib.hid (fun w => len64_nd a.n (br_lt.1 (brB_true c1)) w)
  have KLb := Lib.hid (fun w => len64_nd b.n (br_lt.1 (brB_true c2)) w)
  obtain ⟨X, hX⟩ : ∃ X, X = a.n * 2 ^ j := ⟨_, rfl⟩
  have hXb : X < 4611686018427387904 := by rw [hX]; exact pow_lt62 (by omega)
  have hYb : b.n < 4611686018427387904 := lt62 (by omega)
  have HSH := shl_u64 hX (by omega)
  have KSa := Lib.hid (fun w => Dsigned_c a.g X w (by omega))
  have KSb := Lib.hid (fun w => Dsigned_c b.g b.n w (by omega))
  have hs1 := sgnd_b a.g hXb
  have hs2 := sgnd_b b.g hYb
  have hxb := hb.2.2
  obtain ⟨S, hS⟩ : ∃ S, sgnd a.g X + sgnd b.g b.n = S := ⟨_, rfl⟩
  have KO := Lib.hid (fun w => DOf_c S b.x w (by omega) (by omega))
  have hmk := sum_mk a.g b.g X b.n b.x
  have hme := sum_abs a.g b.g X b.n
  rw [hS] at hmk hme
  have hup : upN a b = X := by rw [upN_eq, ← hj, hX]
  have hD : mkD (decide (S < 0)) S.natAbs b.x = hiD a b := by rw [hiD_eq, hup]; exact hmk
  have hE : mkE S.natAbs b.x = hiE a b := by rw [hiE_eq, hup, hme]
  unfold MkPost at KO
  rw [hD, hE] at KO
  have hw : IntKind.i64.wrap S = S := IntWalk.i64_in _ (by omega)
  have hw2 : wrap64 S = S := IntWalk.wrap64_in _ (by omega)
  have HD : (hiE a b == 0) = true ↔ hiE a b = 0 := beq_iff_eq
  clear hX hmk hme hup hD hE ha hb hna hnb c1 c2 hj
  generalize sgnd a.g X = s1 at *
  generalize sgnd b.g b.n = s2 at *
  have HDD := Lib.hid HD
  clear HD
  generalize hE9 : hiE a b = E at *
  have HE9 := Lib.hid hE9
  clear hE9
  generalize hh : hiD a b = D at *
  have HH := Lib.hid hh
  clear hh
  go_enter Tryd.func15, Tryd.ntmps15
  go_wp2_with fail
  refine (KA.out _).mono ?_
  rintro e w1 ⟨rfl, hb⟩
  have hsz : w.heap.size + 2 < w1.heap.size := by have := hb.size; simp at this; omega
  replace T0 := TB3 T0 hb
  obtain ⟨p0, p1, p2, p3, p4, p5, p6⟩ := T0.2.1.facts
  obtain ⟨q0, q1, q2, q3, q4, q5, q6⟩ := T0.2.2.facts
  go_wp2_with fail
  refine (KB.out _).mono ?_
  rintro e w2 ⟨rfl, hbb2⟩
  replace T0 := T0.step hbb2
  have hb3 := hb.trans (hbb2.mono hb.size)
  clear hb hbb2 p0 p1 p2 p3 p4 p5 p6 q0 q1 q2 q3 q4 q5 q6
  go_wp2_with (first
    | (go_at_call 34; (with_reducible refine (KLa.out _).mono ?_); rintro e w' ⟨rfl, rfl⟩)
    | (go_at_call 34; (with_reducible refine (KLb.out _).mono ?_); rintro e w' ⟨rfl, rfl⟩))
  have L0 := fun W (h : TB w ⟨a.g, natS a.n, a.x⟩ ⟨b.g, natS b.n, b.x⟩ W) => h.2.1.facts.2.1
  have L3 := fun W (h : TB w ⟨a.g, natS a.n, a.x⟩ ⟨b.g, natS b.n, b.x⟩ W) => h.2.2.facts.2.1
  go_region_held3 (TB w ⟨a.g, natS a.n, a.x⟩ ⟨b.g, natS b.n, b.x⟩) (first | assumption | exact TB.step (by assumption) (by assumption) | exact TB.drew (by assumption) | exact TB.drawn (by assumption) _)
    (first
      | (go_at_call 35; rw [HSH.out]; (with_reducible refine (KSa.out _).mono ?_); rintro e w' ⟨rfl, rfl⟩)
      | (go_at_call 35; (with_reducible refine (KSb.out _).mono ?_); rintro e w' ⟨rfl, rfl⟩))
  rename_i hHeld
  clear T0 L0 L3
  have T0 := hHeld
  clear hHeld
  have hb4 := hb3.drew
  clear hb3
  generalize w'.drew = w3 at *
  obtain ⟨p0, p1, p2, p3, p4, p5, p6⟩ := T0.2.1.facts
  obtain ⟨q0, q1, q2, q3, q4, q5, q6⟩ := T0.2.2.facts
  go_wp2_with fail
  refine (KO.out _).mono ?_
  rintro e w4 ⟨rfl, hb5⟩
  replace T0 := T0.step hb5
  have hb6 := (hb4.trans (hb5.mono hb4.size)).alloc (hb4.trans (hb5.mono hb4.size)).size (.cells #[.bool D.g, .string (natS D.n), .int .i64 D.x] 25)
  have hb7 := (T0.more (.cells #[.bool D.g, .string (natS D.n), .int .i64 D.x] 25)).1
  clear hb4 hb5 p0 p1 p2 p3 p4 p5 p6 q0 q1 q2 q3 q4 q5 q6
  obtain ⟨hcl, hfz⟩ := bcell hb6
  have hsz2 : w.heap.size + 2 < w4.heap.size + 1 := by have := hb6.size; simp at this; omega
  unfold Dy.v
  by_cases hE0 : E = 0
  · subst hE0
    go_wp2_with fail
    refine bodyPost_ret (v := .tuple #[.agg #[.bool D.g, .string (natS D.n), .int .i64 D.x], .bool true]) (by simp [results, Tryd.results15, go_sem, hcl, hsz, hsz2]) rfl ⟨D, true, rfl, fun _ => ⟨HH.out.symm, HE9.out⟩, ?_⟩
    repeat (refine Below.setCell ?_ (by simp; omega) _)
    exact hb7
  · have hE1 : (E == 0) = false := by rw [beq_eq_false_iff_ne]; exact hE0
    go_wp2_with fail
    refine bodyPost_ret (v := .tuple #[.agg #[.bool D.g, .string (natS D.n), .int .i64 D.x], .bool false]) (by simp [results, Tryd.results15, go_sem, hcl, hsz, hsz2]) rfl ⟨D, false, rfl, fun c => (by cases c), ?_⟩
    repeat (refine Below.setCell ?_ (by simp; omega) _)
    exact hb7
end Go.Proofs.YtkbjlijcnlkbgaaDoor
set_option linter.unusedSimpArgs false
set_option linter.unusedVariables false
namespace Go.Proofs.YtkbjlijcnlkbgaaDoor
open Go Go.RowKit Nt

theorem Dbrief_c (a b : Dy) (j : Nat) (w : World) (ha : a.Num) (hb : b.Num) (hj : j = (a.x - b.x).toNat) (hj2 : j ≤ 3000000) :
    Calls Tryd.prog 15 #[.agg #[.bool a.g, .string (natS a.n), .int .i64 a.x], .agg #[.bool b.g, .string (natS b.n), .int .i64 b.x], .int .i64 (j : Nat)] w (BrPost a b w) := by
  cases c1 : brB a.n with
  | false => exact Dbrief_no a b j w ha hb hj2 (Or.inl c1)
  | true =>
    cases c2 : brB b.n with
    | false => exact Dbrief_no a b j w ha hb hj2 (Or.inr (Or.inl ⟨c1, c2⟩))
    | true =>
      by_cases c3 : 62 < j
      · exact Dbrief_no a b j w ha hb hj2 (Or.inr (Or.inr (Or.inl ⟨c1, c2, c3⟩)))
      · by_cases c4 : 62 < nd 2 a.n + j
        · exact Dbrief_no a b j w ha hb hj2 (Or.inr (Or.inr (Or.inr (Or.inl ⟨c1, c2, c3, c4⟩))))
        · by_cases c5 : 62 < nd 2 b.n
          · exact Dbrief_no a b j w ha hb hj2 (Or.inr (Or.inr (Or.inr (Or.inr ⟨c1, c2, c3, c4, c5⟩))))
          · exact Dbrief_yes a b j w ha hb hj c1 c2 c3 c4 c5
/-- From w on: two Dyads in boxes, and a third box for what is answered. -/
def TC (w : World) (a b : Dt) (W : World) : Prop := TB w a b W ∧ Box3 W (w.heap.size + 2) (.bool false) (.string ⟨#[]⟩) (.int .i64 0)
theorem TC.start (w : World) (a b : Dt) : TC w a b (((w.alloc (.cells #[.bool a.g, .string a.s, .int .i64 a.x] 25)).alloc (.cells #[.bool b.g, .string b.s, .int .i64 b.x] 25)).alloc (.cells #[.bool false, .string ⟨#[]⟩, .int .i64 0] 25)) := by
  refine ⟨(TB.start w a b).more _, ?_⟩
  have := Box3.new ((w.alloc (.cells #[.bool a.g, .string a.s, .int .i64 a.x] 25)).alloc (.cells #[.bool b.g, .string b.s, .int .i64 b.x] 25)) (.bool false) (.string ⟨#[]⟩) (.int .i64 0)
  simpa using this
theorem TC.step {w : World} {a b : Dt} {W W' : World} (h : TC w a b W) (hb : Below W.heap.size W W') : TC w a b W' := ⟨h.1.step hb, h.2.step hb⟩
theorem TC.more {w : World} {a b : Dt} {W : World} (h : TC w a b W) (o : Obj) : TC w a b (W.alloc o) := h.step ((Below.refl _ _).alloc (Nat.le_refl _) _)
theorem TC.drawn {w : World} {a b : Dt} {W : World} (h : TC w a b W) (n : Nat) : TC w a b (W.drewN n) := h.step (below_drewN (Below.refl _ _) n)
theorem TC.drew {w : World} {a b : Dt} {W : World} (h : TC w a b W) : TC w a b W.drew := h.step (Below.refl _ _).drew
theorem TC.fin {w : World} {a b : Dt} {W : World} (h : TC w a b W) (x y z : Value) : Below w.heap.size w (((W.setCell ⟨w.heap.size + 2, 0, none⟩ x).setCell ⟨w.heap.size + 2, 1, none⟩ y).setCell ⟨w.heap.size + 2, 2, none⟩ z) := below_put h.1.1 (by omega) x y z
set_option maxRecDepth 100000 in
set_option maxHeartbeats 2000000 in
theorem DAdd_bad (a b : Dt) (w : World) (ha : a.s.size ≤ 9223372036854775807) (hb : b.s.size ≤ 9223372036854775807) (hn : ¬ (a.Ok ∧ b.Ok)) :
    Calls Tryd.prog 10 #[.agg #[.bool a.g, .string a.s, .int .i64 a.x], .agg #[.bool b.g, .string b.s, .int .i64 b.x]] w fun e w' => e = .returned (.tuple #[.agg #[.bool false, .string ⟨#[]⟩, .int .i64 0], .int .i64 2]) ∧ Below w.heap.size w w' := by
  have he : dE [a, b] = 2 := by
    by_cases h : a.Ok
    · exact dE_no (t := b) (by simp) (fun c => hn ⟨h, c⟩)
    · exact dE_no (t := a) (by simp) h
  have KA := Lib.hid (fun W T A hA => Dall2 a b W T A hA ha hb)
  rw [he] at KA
  have T0 := TC.start w a b
  clear ha hb hn he
  go_enter Tryd.func10, Tryd.ntmps10
  go_wp2_with fail
  refine (KA.out _ _ _ (by simp)).mono ?_
  rintro e w1 ⟨rfl, hb⟩
  replace T0 := (T0.more _).step hb
  clear hb
  obtain ⟨r0, r1, r2, r3, r4, r5, r6⟩ := T0.2.facts
  go_wp2_with fail
  refine bodyPost_ret (v := .tuple #[.agg #[.bool false, .string ⟨#[]⟩, .int .i64 0], .int .i64 2]) (by simp [results, Tryd.results10, go_sem, r0, r1, r2, r3]) rfl ⟨rfl, ?_⟩
  repeat (refine Below.setCell ?_ (by simp; omega) _)
  exact T0.1.1
theorem all_ok2 (a b : Dy) (ha : a.Ok) (hb : b.Ok) (W : World) (T : TypeId) (A : Nat) (hA : A = W.heap.size) :
    Calls Tryd.prog 9 #[.slice (some ⟨A, 0, none⟩) 2 2] (W.alloc (.cells #[.bool a.g, .string (natS a.n), .int .i64 a.x, .bool b.g, .string (natS b.n), .int .i64 b.x] T)) fun e w' => e = .returned (.int .i64 0) ∧ Below (W.alloc (.cells #[.bool a.g, .string (natS a.n), .int .i64 a.x, .bool b.g, .string (natS b.n), .int .i64 b.x] T)).heap.size (W.alloc (.cells #[.bool a.g, .string (natS a.n), .int .i64 a.x, .bool b.g, .string (natS b.n), .int .i64 b.x] T)) w' := by
  have := Dall2 a.t b.t W T A hA (by have := Dy.small ha; show (natS a.n).size ≤ _; omega) (by have := Dy.small hb; show (natS b.n).size ≤ _; omega)
  rwa [dE_ok (fun t ht => by
    rcases List.mem_cons.1 ht with rfl | ht
    · exact Dy.ok_t ha
    · rw [List.mem_singleton.1 ht]; exact Dy.ok_t hb)] at this
set_option maxRecDepth 100000 in
set_option maxHeartbeats 2000000 in
theorem DAdd_zl (b : Dy) (w : World) (hb : b.Ok) :
    Calls Tryd.prog 10 #[.agg #[.bool false, .string ⟨#[]⟩, .int .i64 0], .agg #[.bool b.g, .string (natS b.n), .int .i64 b.x]] w fun e w' => e = .returned (.tuple #[.agg #[.bool b.g, .string (natS b.n), .int .i64 b.x], .int .i64 0]) ∧ Below w.heap.size w w' := by
  have KA := Lib.hid (fun W T A hA => all_ok2 Dy.zero b (Or.inl rfl) hb W T A hA)
  simp only [Dy.zero, natS_zero] at KA
  have T0 := TC.start w ⟨false, ⟨#[]⟩, 0⟩ b.t
  unfold Dy.t at T0
  clear hb
  go_enter Tryd.func10, Tryd.ntmps10
  go_wp2_with fail
  refine (KA.out _ _ _ (by simp)).mono ?_
  rintro e w1 ⟨rfl, hb⟩
  replace T0 := (T0.more _).step hb
  clear hb
  obtain ⟨p0, p1, p2, p3, p4, p5, p6⟩ := T0.1.2.1.facts
  obtain ⟨q0, q1, q2, q3, q4, q5, q6⟩ := T0.1.2.2.facts
  obtain ⟨r0, r1, r2, r3, r4, r5, r6⟩ := T0.2.facts
  go_wp2_with fail
  refine bodyPost_ret (v := .tuple #[.agg #[.bool b.g, .string (natS b.n), .int .i64 b.x], .int .i64 0]) (by simp [results, Tryd.results10, go_sem, r0, r1, r2, r3]) rfl ⟨rfl, ?_⟩
  repeat (refine Below.setCell ?_ (by simp; omega) _)
  exact T0.1.1
set_option maxRecDepth 100000 in
set_option maxHeartbeats 2000000 in
theorem DAdd_zr (a : Dy) (w : World) (ha : a.Num) :
    Calls Tryd.prog 10 #[.agg #[.bool a.g, .string (natS a.n), .int .i64 a.x], .agg #[.bool false, .string ⟨#[]⟩, .int .i64 0]] w fun e w' => e = .returned (.tuple #[.agg #[.bool a.g, .string (natS a.n), .int .i64 a.x], .int .i64 0]) ∧ Below w.heap.size w w' := by
  have KA := Lib.hid (fun W T A hA => all_ok2 a Dy.zero (Or.inr ha) (Or.inl rfl) W T A hA)
  simp only [Dy.zero, natS_zero] at KA
  have T0 := TC.start w a.t ⟨false, ⟨#[]⟩, 0⟩
  unfold Dy.t at T0
  have hE := natS_full (odd_ne ha.2.1)
  have hE2 := natS_full2 (odd_ne ha.2.1)
  clear ha
  go_enter Tryd.func10, Tryd.ntmps10
  go_wp2_with fail
  refine (KA.out _ _ _ (by simp)).mono ?_
  rintro e w1 ⟨rfl, hb⟩
  replace T0 := (T0.more _).step hb
  clear hb
  obtain ⟨p0, p1, p2, p3, p4, p5, p6⟩ := T0.1.2.1.facts
  obtain ⟨q0, q1, q2, q3, q4, q5, q6⟩ := T0.1.2.2.facts
  obtain ⟨r0, r1, r2, r3, r4, r5, r6⟩ := T0.2.facts
  go_wp2_with fail
  refine bodyPost_ret (v := .tuple #[.agg #[.bool a.g, .string (natS a.n), .int .i64 a.x], .int .i64 0]) (by simp [results, Tryd.results10, go_sem, r0, r1, r2, r3]) rfl ⟨rfl, ?_⟩
  repeat (refine Below.setCell ?_ (by simp; omega) _)
  exact T0.1.1
end Go.Proofs.YtkbjlijcnlkbgaaDoor
set_option linter.unusedSimpArgs false
set_option linter.unusedVariables false
namespace Go.Proofs.YtkbjlijcnlkbgaaDoor
open Go Go.RowKit Nt

theorem TC.swap {w : World} {a b : Dt} {W : World} (h : TC w a b W) : TC w b a ((((((W.setCell ⟨w.heap.size, 0, none⟩ (.bool b.g)).setCell ⟨w.heap.size, 1, none⟩ (.string b.s)).setCell ⟨w.heap.size, 2, none⟩ (.int .i64 b.x)).setCell ⟨w.heap.size + 1, 0, none⟩ (.bool a.g)).setCell ⟨w.heap.size + 1, 1, none⟩ (.string a.s)).setCell ⟨w.heap.size + 1, 2, none⟩ (.int .i64 a.x)) := by
  obtain ⟨⟨h1, h2, h3⟩, h4⟩ := h
  refine ⟨⟨below_put (below_put h1 (Nat.le_refl _) _ _ _) (by omega) _ _ _, ?_, ?_⟩, ?_⟩
  · exact Box3.far (h2.put _ _ _) (by omega) _ _ _
  · exact Box3.put (Box3.far h3 (by omega) _ _ _) _ _ _
  · exact Box3.far (Box3.far h4 (by omega) _ _ _) (by omega) _ _ _
/-- Too far apart. -/
theorem hi_long {p q : Dy} (hp : p.Num) (hq : q.Num) (hx : 131072 < p.x - q.x) : hiD p q = Dy.zero ∧ hiE p q = 4 := by
  obtain ⟨j, hj⟩ : ∃ j, j = (p.x - q.x).toNat := ⟨_, rfl⟩
  obtain ⟨E, hE⟩ : ∃ E, E = 131072 := ⟨_, rfl⟩
  have hj2 : E + 1 ≤ j := by omega
  have hup : upN p q = p.n * 2 ^ j := by rw [upN_eq, ← hj]
  have hy : q.n < 2 ^ E := (lt_pow_iff (b := 2) (by omega) E q.n).2 (by rw [hE]; exact bits_131072' hq.1)
  have hX : 2 ^ (E + 1) ≤ upN p q := by
    rw [hup]
    exact Nat.le_trans (Nat.pow_le_pow_right (by omega) hj2) (Nat.le_mul_of_pos_left _ (Nat.pos_of_ne_zero (odd_ne hp.2.1)))
  have hev : upN p q % 2 = 0 := by
    rw [hup, show j = (j - 1) + 1 by omega, Nat.pow_succ, ← Nat.mul_assoc]; exact Nat.mul_mod_left _ _
  have hqo := hq.2.1
  rw [Nat.pow_succ] at hX
  have hbig : ∀ N, nd 2 N ≤ 131072 → N < 2 ^ E := fun N h => (lt_pow_iff (b := 2) (by omega) E N).2 (by omega)
  generalize (2 : Nat) ^ E = P at *
  clear hE hj2 hj
  have key : ∀ N, N % 2 = 1 → P ≤ N → ¬ mkOk3 N q.x := by
    intro N ho hN hk
    rcases hk with hk | ⟨hk, _⟩
    · exact odd_ne ho hk
    · rw [odN_odd ho] at hk
      have h2 := hbig N (bits_131072' hk)
      omega
  have hN : ¬ mkOk3 (sumN p.g q.g (upN p q) q.n) q.x := by
    unfold sumN
    split
    · exact key _ (by omega) (by omega)
    · rw [if_neg (by omega)]
      exact key _ (by omega) (by omega)
  exact ⟨by rw [hiD_eq, mkD_no hN], by rw [hiE_eq, mkE_no hN]⟩
theorem hi_same {p q : Dy} (h : p.g = q.g) (X : Nat) (hX : upN p q = X) : hiD p q = mkD p.g (X + q.n) q.x ∧ hiE p q = mkE (X + q.n) q.x := by
  rw [hiD_eq, hiE_eq, hX]; unfold sumG sumN; rw [if_pos h, if_pos h]; exact ⟨rfl, rfl⟩
theorem hi_lt {p q : Dy} (h : ¬ p.g = q.g) (X : Nat) (hX : upN p q = X) (hl : X < q.n) : hiD p q = mkD q.g (q.n - X) q.x ∧ hiE p q = mkE (q.n - X) q.x := by
  rw [hiD_eq, hiE_eq, hX]; unfold sumG sumN; rw [if_neg h, if_neg h, if_pos hl, if_pos hl]; exact ⟨rfl, rfl⟩
theorem hi_ge {p q : Dy} (h : ¬ p.g = q.g) (X : Nat) (hX : upN p q = X) (hl : ¬ X < q.n) : hiD p q = mkD p.g (X - q.n) q.x ∧ hiE p q = mkE (X - q.n) q.x := by
  rw [hiD_eq, hiE_eq, hX]; unfold sumG sumN; rw [if_neg h, if_neg h, if_neg hl, if_neg hl]; exact ⟨rfl, rfl⟩
theorem read_nat (n : Nat) (w : World) (hf : fits n) : Calls Tryd.prog 17 #[.string (natS n)] w (NumPost n w) := by
  have := Read_c (natS n) w (by rw [natS_size]; unfold fits at hf; omega)
  rwa [bytesN_natS] at this
theorem fits_W {n : Nat} (h : fits n) : nd W n ≤ 2048 := by
  have := words_bytes n
  unfold fits at h
  omega
end Go.Proofs.YtkbjlijcnlkbgaaDoor
set_option linter.unusedSimpArgs false
set_option linter.unusedVariables false
namespace Go.Proofs.YtkbjlijcnlkbgaaDoor
open Go Go.RowKit Nt

/-- As TC, whatever stands in the third box. -/
def TD (w : World) (a b : Dt) (W : World) : Prop := TB w a b W ∧ ∃ x y z, Box3 W (w.heap.size + 2) x y z
theorem TD.step {w : World} {a b : Dt} {W W' : World} (h : TD w a b W) (hb : Below W.heap.size W W') : TD w a b W' := by
  obtain ⟨h1, x, y, z, h2⟩ := h; exact ⟨h1.step hb, x, y, z, h2.step hb⟩
theorem TD.drawn {w : World} {a b : Dt} {W : World} (h : TD w a b W) (n : Nat) : TD w a b (W.drewN n) := h.step (below_drewN (Below.refl _ _) n)
theorem TD.drew {w : World} {a b : Dt} {W : World} (h : TD w a b W) : TD w a b W.drew := h.step (Below.refl _ _).drew
theorem TC.td {w : World} {a b : Dt} {W : World} (h : TC w a b W) : TD w a b W := ⟨h.1, _, _, _, h.2⟩
theorem TD.put {w : World} {a b : Dt} {W : World} (h : TD w a b W) (x y z : Value) : TD w a b (((W.setCell ⟨w.heap.size + 2, 0, none⟩ x).setCell ⟨w.heap.size + 2, 1, none⟩ y).setCell ⟨w.heap.size + 2, 2, none⟩ z) := by
  obtain ⟨⟨h1, h2, h3⟩, x', y', z', h4⟩ := h
  exact ⟨⟨below_put h1 (by omega) _ _ _, h2.far (by omega) _ _ _, h3.far (by omega) _ _ _⟩, _, _, _, h4.put _ _ _⟩
theorem TD.res {w : World} {a b : Dt} {W : World} (h : TD w a b W) : w.heap.size + 2 < W.heap.size ∧ (W.cell? ⟨w.heap.size + 2, 0, none⟩).isSome = true ∧ (W.cell? ⟨w.heap.size + 2, 1, none⟩).isSome = true ∧ (W.cell? ⟨w.heap.size + 2, 2, none⟩).isSome = true ∧ W.frozen? ⟨w.heap.size + 2, 0, none⟩ = false ∧ W.frozen? ⟨w.heap.size + 2, 1, none⟩ = false ∧ W.frozen? ⟨w.heap.size + 2, 2, none⟩ = false := by
  obtain ⟨h1, x, y, z, h4⟩ := h
  obtain ⟨r0, r1, r2, r3, r4, r5, r6⟩ := h4.facts
  exact ⟨r0, by rw [r1]; rfl, by rw [r2]; rfl, by rw [r3]; rfl, r4, r5, r6⟩
/-- What stands in a cell. -/
@[irreducible] def cellAt (W : World) (B i : Nat) : Value := (W.cell? ⟨B, i, none⟩).getD undef
theorem cellAt_eq {W : World} {B i : Nat} {v : Value} (h : W.cell? ⟨B, i, none⟩ = some v) : W.cell? ⟨B, i, none⟩ = some (cellAt W B i) := by unfold cellAt; rw [h]; rfl
theorem TD.cells {w : World} {a b : Dt} {W : World} (h : TD w a b W) : w.heap.size + 2 < W.heap.size ∧ W.cell? ⟨w.heap.size + 2, 0, none⟩ = some (cellAt W (w.heap.size + 2) 0) ∧ W.cell? ⟨w.heap.size + 2, 1, none⟩ = some (cellAt W (w.heap.size + 2) 1) ∧ W.cell? ⟨w.heap.size + 2, 2, none⟩ = some (cellAt W (w.heap.size + 2) 2) ∧ W.frozen? ⟨w.heap.size + 2, 0, none⟩ = false ∧ W.frozen? ⟨w.heap.size + 2, 1, none⟩ = false ∧ W.frozen? ⟨w.heap.size + 2, 2, none⟩ = false := by
  obtain ⟨h1, x, y, z, h4⟩ := h
  obtain ⟨r0, r1, r2, r3, r4, r5, r6⟩ := h4.facts
  exact ⟨r0, cellAt_eq r1, cellAt_eq r2, cellAt_eq r3, r4, r5, r6⟩
theorem nd_addW {x y m : Nat} (hx : nd W x ≤ m) (hy : nd W y ≤ m) : nd W (x + y) ≤ m + 1 := by
  refine nd_le W2 ?_
  have h1 := (lt_pow_iff W2 m x).2 hx
  have h2 := (lt_pow_iff W2 m y).2 hy
  rw [Nat.pow_succ]
  have h4 := Nat.mul_le_mul_left (W ^ m) W2
  omega
set_option maxRecDepth 100000 in
set_option maxHeartbeats 4000000 in
theorem DAdd_num (a b : Dy) (w : World) (ha : a.Num) (hb : b.Num) (hG : Globs glT w) :
    Calls Tryd.prog 10 #[.agg #[.bool a.g, .string (natS a.n), .int .i64 a.x], .agg #[.bool b.g, .string (natS b.n), .int .i64 b.x]] w fun e w' => e = .returned (.tuple #[(addD a b).v, .int .i64 (addE a b)]) ∧ Below w.heap.size w w' := by
  have KA := Lib.hid (fun W T A hA => all_ok2 a b (Or.inr ha) (Or.inr hb) W T A hA)
  have T0 := TC.start w a.t b.t
  have hsw : ∃ p q : Dy, p.Num ∧ q.Num ∧ q.x ≤ p.x ∧ Hid (addD a b = hiD p q ∧ addE a b = hiE p q) ∧ ((a.x < b.x ∧ p = b ∧ q = a) ∨ (¬ a.x < b.x ∧ p = a ∧ q = b)) := by
    by_cases h : a.x < b.x
    · exact ⟨b, a, hb, ha, by omega, Lib.hid (add_lt (odd_ne ha.2.1) (odd_ne hb.2.1) h), Or.inl ⟨h, rfl, rfl⟩⟩
    · exact ⟨a, b, ha, hb, by omega, Lib.hid (add_ge (odd_ne ha.2.1) (odd_ne hb.2.1) h), Or.inr ⟨h, rfl, rfl⟩⟩
  obtain ⟨p, q, hp, hq, hle, HADD, hsw⟩ := hsw
  clear ha hb
  obtain ⟨j, hj⟩ : ∃ j, j = (p.x - q.x).toNat := ⟨_, rfl⟩
  have hpx := hp.2.2
  have hqx := hq.2.2
  have hjx : p.x - q.x = (j : Int) := by omega
  have KB := Lib.hid (fun w => Dbrief_c p q j w hp hq hj (by omega))
  have hEp := natS_full (odd_ne hp.2.1)
  have hEp2 := natS_full2 (odd_ne hp.2.1)
  have hEq := natS_full (odd_ne hq.2.1)
  have hEq2 := natS_full2 (odd_ne hq.2.1)
  have HTB := Lib.hid (fun W (h : TC w p.t q.t W) => tabs_of (hG.below h.1.1 (Nat.le_refl _)))
  have HGG := Lib.hid hG
  have HP := Lib.hid hp
  have HQ := Lib.hid hq
  have HJ := Lib.hid hj
  clear hp hq hG hj
  rcases hsw with ⟨hlt, h1, h2⟩ | ⟨hlt, h1, h2⟩
  case' inl =>
    subst h1 h2
    unfold Dy.t at T0
    go_enter Tryd.func10, Tryd.ntmps10
    go_wp2_with fail
    refine (KA.out _ _ _ (by simp)).mono ?_
    rintro e w1 ⟨rfl, hb⟩
    replace T0 := (T0.more _).step hb
    clear hb
    obtain ⟨p0, p1, p2, p3, p4, p5, p6⟩ := T0.1.2.1.facts
    obtain ⟨q0, q1, q2, q3, q4, q5, q6⟩ := T0.1.2.2.facts
    go_wp2_with fail
    refine (KB.out _).mono ?_
    rintro e w2 ⟨D, ok, rfl, hok, hb⟩
    replace T0 := (TC.swap T0).step hb
    clear hb p0 p1 p2 p3 p4 p5 p6 q0 q1 q2 q3 q4 q5 q6
  case' inr =>
    subst h1 h2
    unfold Dy.t at T0
    go_enter Tryd.func10, Tryd.ntmps10
    go_wp2_with fail
    refine (KA.out _ _ _ (by simp)).mono ?_
    rintro e w1 ⟨rfl, hb⟩
    replace T0 := (T0.more _).step hb
    clear hb
    obtain ⟨p0, p1, p2, p3, p4, p5, p6⟩ := T0.1.2.1.facts
    obtain ⟨q0, q1, q2, q3, q4, q5, q6⟩ := T0.1.2.2.facts
    go_wp2_with fail
    refine (KB.out _).mono ?_
    rintro e w2 ⟨D, ok, rfl, hok, hb⟩
    replace T0 := T0.step hb
    clear hb p0 p1 p2 p3 p4 p5 p6 q0 q1 q2 q3 q4 q5 q6
  all_goals
    have hok2 := Lib.hid hok
    clear hok
    cases ok
    case' true =>
      have hDD := hok2.out rfl
      have HDD := Lib.hid hDD
      clear hDD hok2
      replace T0 := T0.more (.cells #[.bool D.g, .string (natS D.n), .int .i64 D.x] 25)
      obtain ⟨r0, r1, r2, r3, r4, r5, r6⟩ := T0.2.facts
      go_wp2_with fail
      refine bodyPost_ret (v := .tuple #[.agg #[.bool D.g, .string (natS D.n), .int .i64 D.x], .int .i64 0]) (by simp [results, Tryd.results10, go_sem, r0, r1, r2, r3]) rfl ⟨?_, ?_⟩
      · rw [HADD.out.1, HADD.out.2, ← HDD.out.1, HDD.out.2]; rfl
      · repeat (refine Below.setCell ?_ (by simp; omega) _)
        exact T0.1.1
  all_goals
    clear hok2
    have T1 : TC w p.t q.t _ := (T0.more (.cells #[.bool D.g, .string (natS D.n), .int .i64 D.x] 25))
    have HT0 := Lib.hid T0
    clear T0
    by_cases hlong : 131072 < j
    case' pos =>
      have hL := hi_long HP.out HQ.out (by omega)
      have HL := Lib.hid hL
      clear hL
      obtain ⟨r0, r1, r2, r3, r4, r5, r6⟩ := (HT0.out.more (.cells #[.bool D.g, .string (natS D.n), .int .i64 D.x] 25)).2.facts
      go_wp2_with fail
      refine bodyPost_ret (v := .tuple #[.agg #[.bool false, .string ⟨#[]⟩, .int .i64 0], .int .i64 4]) (by simp [results, Tryd.results10, go_sem, r0, r1, r2, r3]) rfl ⟨?_, ?_⟩
      · rw [HADD.out.1, HADD.out.2, HL.out.1, HL.out.2, Dy.zero_v]
      · repeat (refine Below.setCell ?_ (by simp; omega) _)
        exact T1.1.1
  all_goals
    obtain ⟨X, hX⟩ : ∃ X, X = p.n * 2 ^ j := ⟨_, rfl⟩
    have HUP := Lib.hid (show upN p q = X by rw [upN_eq, ← HJ.out, hX])
    have hfp := fits_W HP.out.1
    have hfq := fits_W HQ.out.1
    have hXW : nd W X ≤ 4097 := by
      have h1 := nd_mul_pow (j := j) (odd_ne HP.out.2.1)
      rw [← hX] at h1
      have h2 := bits_131072' HP.out.1
      exact (nd_pow (b := 2) (c := W) (e := 64) (by omega) (by omega) W_two X 4097).1 (by omega)
    have KRp := Lib.hid (fun w => read_nat p.n w HP.out.1)
    have KRq := Lib.hid (fun w => read_nat q.n w HQ.out.1)
    have KS : Hid (∀ (A : Option Addr) (c : Nat) (W' : World), Row W' W'.heap.size A p.n (nd W p.n) → Calls Tryd.prog 16 #[.slice A (nd W p.n) c, .int .i64 (j : Nat)] W' (NumPost X W')) := Lib.hid fun A c W' h => by
      rw [hX]; exact Shl_c A c p.n j W'.heap.size W' (by omega) h (Nat.le_refl _)
    clear hX
    have L0 : ∀ W, TC w p.t q.t W → W.cell? ⟨w.heap.size, 0, none⟩ = some (.bool p.g) := fun W h => h.1.2.1.facts.2.1
    have L1 : ∀ W, TC w p.t q.t W → W.cell? ⟨w.heap.size, 1, none⟩ = some (.string (natS p.n)) := fun W h => h.1.2.1.facts.2.2.1
    have L2 : ∀ W, TC w p.t q.t W → W.cell? ⟨w.heap.size, 2, none⟩ = some (.int .i64 p.x) := fun W h => h.1.2.1.facts.2.2.2.1
    have L3 : ∀ W, TC w p.t q.t W → W.cell? ⟨w.heap.size + 1, 0, none⟩ = some (.bool q.g) := fun W h => h.1.2.2.facts.2.1
    have L4 : ∀ W, TC w p.t q.t W → W.cell? ⟨w.heap.size + 1, 1, none⟩ = some (.string (natS q.n)) := fun W h => h.1.2.2.facts.2.2.1
    have L5 : ∀ W, TC w p.t q.t W → W.cell? ⟨w.heap.size + 1, 2, none⟩ = some (.int .i64 q.x) := fun W h => h.1.2.2.facts.2.2.2.1
    go_wp2_with fail
    go_region_held3 (TC w p.t q.t) (first | assumption | exact TC.step (by assumption) (by assumption) | exact TC.drew (by assumption) | exact TC.drawn (by assumption) _)
      (first
        | (go_at_call 16; (refine (KS.out _ _ _ (by assumption)).mono ?_); rintro e wb hnp2; obtain ⟨A2, c2, rfl, hc2, hr2, hb8⟩ := hnp2.get)
        | (go_at_call 17; (with_reducible refine (KRp.out _).mono ?_); rintro e wa hnp1; obtain ⟨A1, c1, rfl, hc1, hr1, hb7⟩ := hnp1.get)
        | (go_at_call 17; (with_reducible refine (KRq.out _).mono ?_); rintro e wc hnp3; obtain ⟨A3, c3, rfl, hc3, hr3, hb9⟩ := hnp3.get))
    rename_i hHeld
    have hx2 := (hr2.below hb9).more hb9.size
    have HX2 := Lib.hid hx2
    have HY2 := Lib.hid hr3
    have T2 := hHeld
    clear hHeld T1 HT0 hr1 hr2 hr3 hx2 hc1 hc2 hc3 hnp1 hnp2 hnp3 hb7 hb8 hb9
    have KF : Hid (∀ (g : Bool) (N : Nat) (A : Option Addr) (c : Nat) (W' : World), nd W N ≤ 10000 → Row W' W'.heap.size A N (nd W N) → Bt.Tabs W' → Calls Tryd.prog 18 #[.bool g, .slice A (nd W N) c, .int .i64 q.x] W' (MkPost g N q.x W')) := Lib.hid fun g N A c W' h1 h2 h3 => DFit_c g N q.x A c W'.heap.size W' h1 (by have := HQ.out.2.2; omega) h2 (Nat.le_refl _) h3
    obtain ⟨p0, p1, p2, p3, p4, p5, p6⟩ := T2.1.2.1.facts
    obtain ⟨q0, q1, q2, q3, q4, q5, q6⟩ := T2.1.2.2.facts
    replace p1 : wc.cell? ⟨w.heap.size, 0, none⟩ = some (.bool p.g) := p1
    replace q1 : wc.cell? ⟨w.heap.size + 1, 0, none⟩ = some (.bool q.g) := q1
    replace HTB : Hid (∀ W, TD w p.t q.t W → Bt.Tabs W) := Lib.hid fun W h => tabs_of (HGG.out.below h.1.1 (Nat.le_refl _))
    clear L0 L1 L2 L3 L4 L5
    by_cases hg : p.g = q.g
    case' pos =>
      have HNW : Hid (nd W (X + q.n) ≤ 10000) := Lib.hid (Nat.le_trans (nd_addW (x := X) (y := q.n) (m := 4097) (by omega) (by omega)) (by omega))
      have HRES := Lib.hid (hi_same hg X HUP.out)
      go_wp2_with fail
      clear p0 p1 p2 p3 p4 p5 p6 q0 q1 q2 q3 q4 q5 q6
      have T3 : TD w p.t q.t wc.drew := T2.drew.td
      have KO := Lib.hid (Add_c A2 A3 c2 c3 X q.n _ wc.drew (by omega) (by omega) (HX2.out.drewN 1) (HY2.out.drewN 1) (Nat.le_refl _))
      have M0 : ∀ W, TD w p.t q.t W → W.cell? ⟨w.heap.size, 0, none⟩ = some (.bool p.g) := fun W h => h.1.2.1.facts.2.1
      have M3 : ∀ W, TD w p.t q.t W → W.cell? ⟨w.heap.size + 1, 0, none⟩ = some (.bool q.g) := fun W h => h.1.2.2.facts.2.1
      have M5 : ∀ W, TD w p.t q.t W → W.cell? ⟨w.heap.size + 1, 2, none⟩ = some (.int .i64 q.x) := fun W h => h.1.2.2.facts.2.2.2.1
      have M6 := fun W (h : TD w p.t q.t W) => h.cells.2.1
      have M7 := fun W (h : TD w p.t q.t W) => h.cells.2.2.1
      have M8 := fun W (h : TD w p.t q.t W) => h.cells.2.2.2.1
      have M9 := fun W (h : TD w p.t q.t W) => h.cells.2.2.2.2.1
      have M10 := fun W (h : TD w p.t q.t W) => h.cells.2.2.2.2.2.1
      have M11 := fun W (h : TD w p.t q.t W) => h.cells.2.2.2.2.2.2
      go_region_held3 (TD w p.t q.t) (first | assumption | exact TD.step (by assumption) (by assumption) | exact TD.put (by assumption) _ _ _ | exact TD.drew (by assumption) | exact TD.drawn (by assumption) _)
        (first
          | (go_at_call 19; (refine KO.out.mono ?_); rintro e wd hnp4; obtain ⟨A4, c4, rfl, hc4, hr4, hb10⟩ := hnp4.get)
          | (go_at_call 18; (refine (KF.out _ _ _ _ _ HNW.out (by assumption) (HTB.out _ (by assumption))).mono ?_); rintro e we ⟨rfl, hb11⟩; have HSV := Lib.hid (TD.step (a := p.t) (b := q.t) (w := w) (by assumption) hb11); unfold Dy.v))
      obtain ⟨r0, r1, r2, r3, r4, r5, r6⟩ := HSV.out.cells
      have hfin := below_put HSV.out.1.1 (show w.heap.size ≤ w.heap.size + 2 by omega)
      clear T3 M0 M3 M5 M6 M7 M8 M9 M10 M11
      go_wp2_with fail
      refine bodyPost_ret (v := .tuple #[(mkD q.g (X + q.n) q.x).v, .int .i64 (mkE (X + q.n) q.x)]) (by simp [results, Tryd.results10, go_sem, r0, r1, r2, r3, Dy.v]) rfl ⟨?_, ?_⟩
      · rw [HADD.out.1, HADD.out.2, HRES.out.1, HRES.out.2, hg]
      · exact hfin _ _ _
    case' neg =>
      have hgb : (p.g == q.g) = false := beq_eq_false_iff_ne.2 hg
      have KC := Lib.hid (Cmp_c A2 A3 c2 c3 X q.n _ wc (by omega) (by omega) HX2.out HY2.out)
      go_wp2_with fail
      refine KC.out.mono ?_
      rintro e w6 ⟨rfl, nn, rfl⟩
      clear p0 p1 p2 p3 p4 p5 p6 q0 q1 q2 q3 q4 q5 q6
      by_cases hl : X < q.n
      case' pos =>
        have hcn := cmp_neg hl
        have HRES := Lib.hid (hi_lt hg X HUP.out hl)
        have HNW : Hid (nd W (q.n - X) ≤ 10000) := Lib.hid (Nat.le_trans (nd_mono W2 (Nat.sub_le _ _)) (by omega))
        generalize cmpN X q.n = cc at *
        go_wp2_with fail
        have T3 : TD w p.t q.t (wc.drewN nn).drew := (T2.drawn nn).drew.td
        have KO := Lib.hid (Sub_c A3 A2 c3 c2 q.n X _ (wc.drewN nn).drew (Nat.le_of_lt hl) (by omega) (HY2.out.drewN (nn + 1)) (HX2.out.drewN (nn + 1)) (Nat.le_refl _))
        have M0 : ∀ W, TD w p.t q.t W → W.cell? ⟨w.heap.size, 0, none⟩ = some (.bool p.g) := fun W h => h.1.2.1.facts.2.1
        have M3 : ∀ W, TD w p.t q.t W → W.cell? ⟨w.heap.size + 1, 0, none⟩ = some (.bool q.g) := fun W h => h.1.2.2.facts.2.1
        have M5 : ∀ W, TD w p.t q.t W → W.cell? ⟨w.heap.size + 1, 2, none⟩ = some (.int .i64 q.x) := fun W h => h.1.2.2.facts.2.2.2.1
        have M6 := fun W (h : TD w p.t q.t W) => h.cells.2.1
        have M7 := fun W (h : TD w p.t q.t W) => h.cells.2.2.1
        have M8 := fun W (h : TD w p.t q.t W) => h.cells.2.2.2.1
        have M9 := fun W (h : TD w p.t q.t W) => h.cells.2.2.2.2.1
        have M10 := fun W (h : TD w p.t q.t W) => h.cells.2.2.2.2.2.1
        have M11 := fun W (h : TD w p.t q.t W) => h.cells.2.2.2.2.2.2
        go_region_held3 (TD w p.t q.t) (first | assumption | exact TD.step (by assumption) (by assumption) | exact TD.put (by assumption) _ _ _ | exact TD.drew (by assumption) | exact TD.drawn (by assumption) _)
          (first
            | (go_at_call 21; (refine KO.out.mono ?_); rintro e wd hnp4; obtain ⟨A4, c4, rfl, hc4, hr4, hb10⟩ := hnp4.get)
            | (go_at_call 18; (refine (KF.out _ _ _ _ _ HNW.out (by assumption) (HTB.out _ (by assumption))).mono ?_); rintro e we ⟨rfl, hb11⟩; have HSV := Lib.hid (TD.step (a := p.t) (b := q.t) (w := w) (by assumption) hb11); unfold Dy.v))
        obtain ⟨r0, r1, r2, r3, r4, r5, r6⟩ := HSV.out.cells
        have hfin := below_put HSV.out.1.1 (show w.heap.size ≤ w.heap.size + 2 by omega)
        clear T3 M0 M3 M5 M6 M7 M8 M9 M10 M11
        go_wp2_with fail
        refine bodyPost_ret (v := .tuple #[(mkD q.g (q.n - X) q.x).v, .int .i64 (mkE (q.n - X) q.x)]) (by simp [results, Tryd.results10, go_sem, r0, r1, r2, r3, Dy.v]) rfl ⟨?_, ?_⟩
        · rw [HADD.out.1, HADD.out.2, HRES.out.1, HRES.out.2]
        · exact hfin _ _ _
      case' neg =>
        have hcn := cmp_pos (Nat.le_of_not_lt hl)
        have HRES := Lib.hid (hi_ge hg X HUP.out hl)
        have HNW : Hid (nd W (X - q.n) ≤ 10000) := Lib.hid (Nat.le_trans (nd_mono W2 (Nat.sub_le _ _)) (by omega))
        generalize cmpN X q.n = cc at *
        go_wp2_with fail
        have T3 : TD w p.t q.t (wc.drewN nn).drew := (T2.drawn nn).drew.td
        have KO := Lib.hid (Sub_c A2 A3 c2 c3 X q.n _ (wc.drewN nn).drew (Nat.le_of_not_lt hl) (by omega) (HX2.out.drewN (nn + 1)) (HY2.out.drewN (nn + 1)) (Nat.le_refl _))
        have M0 : ∀ W, TD w p.t q.t W → W.cell? ⟨w.heap.size, 0, none⟩ = some (.bool p.g) := fun W h => h.1.2.1.facts.2.1
        have M3 : ∀ W, TD w p.t q.t W → W.cell? ⟨w.heap.size + 1, 0, none⟩ = some (.bool q.g) := fun W h => h.1.2.2.facts.2.1
        have M5 : ∀ W, TD w p.t q.t W → W.cell? ⟨w.heap.size + 1, 2, none⟩ = some (.int .i64 q.x) := fun W h => h.1.2.2.facts.2.2.2.1
        have M6 := fun W (h : TD w p.t q.t W) => h.cells.2.1
        have M7 := fun W (h : TD w p.t q.t W) => h.cells.2.2.1
        have M8 := fun W (h : TD w p.t q.t W) => h.cells.2.2.2.1
        have M9 := fun W (h : TD w p.t q.t W) => h.cells.2.2.2.2.1
        have M10 := fun W (h : TD w p.t q.t W) => h.cells.2.2.2.2.2.1
        have M11 := fun W (h : TD w p.t q.t W) => h.cells.2.2.2.2.2.2
        go_region_held3 (TD w p.t q.t) (first | assumption | exact TD.step (by assumption) (by assumption) | exact TD.put (by assumption) _ _ _ | exact TD.drew (by assumption) | exact TD.drawn (by assumption) _)
          (first
            | (go_at_call 21; (refine KO.out.mono ?_); rintro e wd hnp4; obtain ⟨A4, c4, rfl, hc4, hr4, hb10⟩ := hnp4.get)
            | (go_at_call 18; (refine (KF.out _ _ _ _ _ HNW.out (by assumption) (HTB.out _ (by assumption))).mono ?_); rintro e we ⟨rfl, hb11⟩; have HSV := Lib.hid (TD.step (a := p.t) (b := q.t) (w := w) (by assumption) hb11); unfold Dy.v))
        obtain ⟨r0, r1, r2, r3, r4, r5, r6⟩ := HSV.out.cells
        have hfin := below_put HSV.out.1.1 (show w.heap.size ≤ w.heap.size + 2 by omega)
        clear T3 M0 M3 M5 M6 M7 M8 M9 M10 M11
        go_wp2_with fail
        refine bodyPost_ret (v := .tuple #[(mkD p.g (X - q.n) q.x).v, .int .i64 (mkE (X - q.n) q.x)]) (by simp [results, Tryd.results10, go_sem, r0, r1, r2, r3, Dy.v]) rfl ⟨?_, ?_⟩
        · rw [HADD.out.1, HADD.out.2, HRES.out.1, HRES.out.2]
        · exact hfin _ _ _
end Go.Proofs.YtkbjlijcnlkbgaaDoor
set_option linter.unusedSimpArgs false
set_option linter.unusedVariables false
namespace Go.Proofs.YtkbjlijcnlkbgaaDoor
open Go Go.RowKit Nt

set_option maxRecDepth 100000 in
set_option maxHeartbeats 2000000 in
theorem rAdd3_zl (b : Dy) (w : World) (g : Bool) (x : Int) :
    Calls Tryd.prog 13 #[.agg #[.bool g, .string ⟨#[]⟩, .int .i64 x], .agg #[.bool b.g, .string (natS b.n), .int .i64 b.x]] w fun e w' => e = .returned (.tuple #[.agg #[.bool b.g, .string (natS b.n), .int .i64 b.x], .int .i64 0]) ∧ Below w.heap.size w w' := by
  have T0 := TC.start w ⟨g, ⟨#[]⟩, x⟩ b.t
  unfold Dy.t at T0
  obtain ⟨r0, r1, r2, r3, r4, r5, r6⟩ := T0.2.facts
  go_enter Tryd.func13, Tryd.ntmps13
  go_wp2_with fail
  refine bodyPost_ret (v := .tuple #[.agg #[.bool b.g, .string (natS b.n), .int .i64 b.x], .int .i64 0]) (by simp [results, Tryd.results13, go_sem, r0, r1, r2, r3]) rfl ⟨rfl, ?_⟩
  repeat (refine Below.setCell ?_ (by simp; omega) _)
  first
    | exact T0.1.1
    | exact (((Below.refl _ _).alloc (Nat.le_refl _) _).alloc (by simp) _).alloc (by simp; omega) _
set_option maxRecDepth 100000 in
set_option maxHeartbeats 2000000 in
theorem rAdd3_zr (a : Dy) (w : World) (ha : a.n ≠ 0) (g : Bool) (x : Int) :
    Calls Tryd.prog 13 #[.agg #[.bool a.g, .string (natS a.n), .int .i64 a.x], .agg #[.bool g, .string ⟨#[]⟩, .int .i64 x]] w fun e w' => e = .returned (.tuple #[.agg #[.bool a.g, .string (natS a.n), .int .i64 a.x], .int .i64 0]) ∧ Below w.heap.size w w' := by
  have T0 := TC.start w a.t ⟨g, ⟨#[]⟩, x⟩
  unfold Dy.t at T0
  have hE := natS_full ha
  have hE2 := natS_full2 ha
  clear ha
  go_enter Tryd.func13, Tryd.ntmps13
  go_wp2_with fail
  refine bodyPost_ret (v := .tuple #[.agg #[.bool a.g, .string (natS a.n), .int .i64 a.x], .int .i64 0]) (by simp [results, Tryd.results13, go_sem]) rfl ⟨rfl, ?_⟩
  repeat (refine Below.setCell ?_ (by simp; omega) _)
  first
    | exact T0.1.1
    | exact (((Below.refl _ _).alloc (Nat.le_refl _) _).alloc (by simp) _).alloc (by simp; omega) _
theorem nd_add256 {x y m : Nat} (hx : nd 256 x ≤ m) (hy : nd 256 y ≤ m) : nd 256 (x + y) ≤ m + 1 := by
  refine nd_le (by omega) ?_
  have h1 := (lt_pow_iff (b := 256) (by omega) m x).2 hx
  have h2 := (lt_pow_iff (b := 256) (by omega) m y).2 hy
  rw [Nat.pow_succ]; omega
set_option maxRecDepth 100000 in
set_option maxHeartbeats 4000000 in
theorem rAdd3_ge (p q : Dy) (w : World) (hp : p.Num) (hq : q.Num) (hle : q.x ≤ p.x) :
    Calls Tryd.prog 13 #[.agg #[.bool p.g, .string (natS p.n), .int .i64 p.x], .agg #[.bool q.g, .string (natS q.n), .int .i64 q.x]] w fun e w' => e = .returned (.tuple #[(hiD p q).v, .int .i64 (hiE p q)]) ∧ Below w.heap.size w w' := by
  have T0 := TC.start w p.t q.t
  obtain ⟨j, hj⟩ : ∃ j, j = (p.x - q.x).toNat := ⟨_, rfl⟩
  have hpx := hp.2.2
  have hqx := hq.2.2
  have hjx : p.x - q.x = (j : Int) := by omega
  have hEp := natS_full (odd_ne hp.2.1)
  have hEp2 := natS_full2 (odd_ne hp.2.1)
  have hEq := natS_full (odd_ne hq.2.1)
  have hEq2 := natS_full2 (odd_ne hq.2.1)
  have HP := Lib.hid hp
  have HQ := Lib.hid hq
  have HJ := Lib.hid hj
  have hlt : ¬ p.x < q.x := by omega
  clear hp hq hj hle
  unfold Dy.t at T0
  obtain ⟨p0, p1, p2, p3, p4, p5, p6⟩ := T0.1.2.1.facts
  obtain ⟨q0, q1, q2, q3, q4, q5, q6⟩ := T0.1.2.2.facts
  obtain ⟨r0, r1, r2, r3, r4, r5, r6⟩ := T0.2.facts
  by_cases hlong : 131080 < j
  · have HL := Lib.hid (hi_long HP.out HQ.out (by omega))
    go_enter Tryd.func13, Tryd.ntmps13
    go_wp2_with fail
    refine bodyPost_ret (v := .tuple #[.agg #[.bool false, .string ⟨#[]⟩, .int .i64 0], .int .i64 4]) (by simp [results, Tryd.results13, go_sem, r0, r1, r2, r3]) rfl ⟨?_, ?_⟩
    · rw [HL.out.1, HL.out.2, Dy.zero_v]
    · repeat (refine Below.setCell ?_ (by simp; omega) _)
      first
        | exact T0.1.1
        | exact (((Below.refl _ _).alloc (Nat.le_refl _) _).alloc (by simp) _).alloc (by simp; omega) _
  · obtain ⟨X, hX⟩ : ∃ X, X = p.n * 2 ^ j := ⟨_, rfl⟩
    have HUP := Lib.hid (show upN p q = X by rw [upN_eq, ← HJ.out, hX])
    have hfp : nd 256 p.n ≤ 16384 := HP.out.1
    have hfq : nd 256 q.n ≤ 16384 := HQ.out.1
    have hXW : nd 256 X ≤ 40000 := by
      have h1 := nd_mul_pow (j := j) (odd_ne HP.out.2.1)
      rw [← hX] at h1
      have h2 := bits_131072' HP.out.1
      exact (bits_le X 40000).1 (by omega)
    have KRp := Lib.hid (fun w => rOf3_c p.n w (by omega))
    have KRq := Lib.hid (fun w => rOf3_c q.n w (by omega))
    have KS : Hid (∀ (B : Nat) (A : Option Addr) (c : Nat) (W' : World), Own W' B 3 .i64 (.slice A (nd 256 p.n) c) (dl 256 p.n (nd 256 p.n)) → Calls Tryd.prog 26 #[.slice A (nd 256 p.n) c, .int .i64 (j : Nat)] W' (BigP X W')) := Lib.hid fun B A c W' h => by
      rw [hX]; exact rShifted3_c p.n j B A c W' (by omega) (by omega) h
    clear hX
    have T1 : TC w p.t q.t _ := T0
    have L1 : ∀ W, TC w p.t q.t W → W.cell? ⟨w.heap.size, 1, none⟩ = some (.string (natS p.n)) := fun W h => h.1.2.1.facts.2.2.1
    have L4 : ∀ W, TC w p.t q.t W → W.cell? ⟨w.heap.size + 1, 1, none⟩ = some (.string (natS q.n)) := fun W h => h.1.2.2.facts.2.2.1
    go_enter Tryd.func13, Tryd.ntmps13
    go_wp2_with fail
    go_region_held3 (TC w p.t q.t) (first | assumption | exact TC.step (by assumption) (by assumption) | exact TC.drew (by assumption) | exact TC.drawn (by assumption) _)
      (first
        | (go_at_call 26; (refine (KS.out _ _ _ _ (by assumption)).mono ?_); rintro e wb ⟨A2, c2, rfl, hown2, hb8⟩)
        | (go_at_call 27; (with_reducible refine (KRp.out _).mono ?_); rintro e wa ⟨v1, rfl, hown1, hb7⟩; obtain ⟨A1, c1, rfl, hc1⟩ := hown1.len; rw [dl_length] at hown1 hc1 ⊢)
        | (go_at_call 27; (with_reducible refine (KRq.out _).mono ?_); rintro e wc ⟨v3, rfl, hown3, hb9⟩; obtain ⟨A3, c3, rfl, hc3⟩ := hown3.len; rw [dl_length] at hown3 hc3 ⊢))
    rename_i hHeld
    have HX2 := Lib.hid (hown2.whole hb9)
    have HY2 := Lib.hid hown3
    have T2 := hHeld
    clear hHeld T1 T0 hown1 hown2 hown3 hc1 hc3 hb7 hb8 hb9 L1 L4 p0 p1 p2 p3 p4 p5 p6 q0 q1 q2 q3 q4 q5 q6 r0 r1 r2 r3 r4 r5 r6
    have KF : Hid (∀ (g : Bool) (N : Nat) (B : Nat) (A : Option Addr) (c : Nat) (W' : World), nd 256 N ≤ 100000 → Own W' B 3 .i64 (.slice A (nd 256 N) c) (dl 256 N (nd 256 N)) → Calls Tryd.prog 28 #[.bool g, .slice A (nd 256 N) c, .int .i64 q.x] W' (MkPost g N q.x W')) := Lib.hid fun g N B A c W' h1 h2 => rFit3_c g N q.x B A c W' h1 (by have := HQ.out.2.2; omega) h2
    obtain ⟨p0, p1, p2, p3, p4, p5, p6⟩ := T2.1.2.1.facts
    obtain ⟨q0, q1, q2, q3, q4, q5, q6⟩ := T2.1.2.2.facts
    replace p1 : wc.cell? ⟨w.heap.size, 0, none⟩ = some (.bool p.g) := p1
    replace q1 : wc.cell? ⟨w.heap.size + 1, 0, none⟩ = some (.bool q.g) := q1
    by_cases hg : p.g = q.g
    · have HNW : Hid (nd 256 (X + q.n) ≤ 100000) := Lib.hid (Nat.le_trans (nd_add256 (x := X) (y := q.n) (m := 40000) (by omega) (by omega)) (by omega))
      have HRES := Lib.hid (hi_same hg X HUP.out)
      go_wp2_with fail
      clear p0 p1 p2 p3 p4 p5 p6 q0 q1 q2 q3 q4 q5 q6
      have T3 : TD w p.t q.t wc.drew := T2.drew.td
      have KO := Lib.hid (rPlus3_c X q.n _ _ A2 A3 c2 c3 wc.drew (by omega) (by omega) (HX2.out.drewN 1) (HY2.out.drewN 1))
      have M0 : ∀ W, TD w p.t q.t W → W.cell? ⟨w.heap.size, 0, none⟩ = some (.bool p.g) := fun W h => h.1.2.1.facts.2.1
      have M3 : ∀ W, TD w p.t q.t W → W.cell? ⟨w.heap.size + 1, 0, none⟩ = some (.bool q.g) := fun W h => h.1.2.2.facts.2.1
      have M5 : ∀ W, TD w p.t q.t W → W.cell? ⟨w.heap.size + 1, 2, none⟩ = some (.int .i64 q.x) := fun W h => h.1.2.2.facts.2.2.2.1
      have M6 := fun W (h : TD w p.t q.t W) => h.cells.2.1
      have M7 := fun W (h : TD w p.t q.t W) => h.cells.2.2.1
      have M8 := fun W (h : TD w p.t q.t W) => h.cells.2.2.2.1
      have M9 := fun W (h : TD w p.t q.t W) => h.cells.2.2.2.2.1
      have M10 := fun W (h : TD w p.t q.t W) => h.cells.2.2.2.2.2.1
      have M11 := fun W (h : TD w p.t q.t W) => h.cells.2.2.2.2.2.2
      go_region_held3 (TD w p.t q.t) (first | assumption | exact TD.step (by assumption) (by assumption) | exact TD.put (by assumption) _ _ _ | exact TD.drew (by assumption) | exact TD.drawn (by assumption) _)
        (first
          | (go_at_call 29; (refine KO.out.mono ?_); rintro e wd ⟨A4, c4, rfl, hown4, hb10⟩)
          | (go_at_call 28; (refine (KF.out _ _ _ _ _ _ HNW.out (by assumption)).mono ?_); rintro e we ⟨rfl, hb11⟩; have HSV := Lib.hid (TD.step (a := p.t) (b := q.t) (w := w) (by assumption) hb11); unfold Dy.v))
      obtain ⟨r0, r1, r2, r3, r4, r5, r6⟩ := HSV.out.cells
      have hfin := below_put HSV.out.1.1 (show w.heap.size ≤ w.heap.size + 2 by omega)
      clear T3 M0 M3 M5 M6 M7 M8 M9 M10 M11
      go_wp2_with fail
      refine bodyPost_ret (v := .tuple #[(mkD q.g (X + q.n) q.x).v, .int .i64 (mkE (X + q.n) q.x)]) (by simp [results, Tryd.results13, go_sem, r0, r1, r2, r3, Dy.v]) rfl ⟨?_, ?_⟩
      · rw [HRES.out.1, HRES.out.2, hg]
      · exact hfin _ _ _
    · have hgb : (p.g == q.g) = false := beq_eq_false_iff_ne.2 hg
      have KC := Lib.hid (rCmp3_c X q.n _ _ A2 A3 c2 c3 wc (by omega) (by omega) HX2.out HY2.out)
      go_wp2_with fail
      refine KC.out.mono ?_
      rintro e w6 ⟨rfl, nn, rfl⟩
      clear p0 p1 p2 p3 p4 p5 p6 q0 q1 q2 q3 q4 q5 q6
      by_cases hl : X < q.n
      · have hcn : ¬ (0 : Int) ≤ cmpN X q.n := by rw [cmpN_lt hl]; decide
        have HRES := Lib.hid (hi_lt hg X HUP.out hl)
        have HNW : Hid (nd 256 (q.n - X) ≤ 100000) := Lib.hid (Nat.le_trans (nd_mono (by omega) (Nat.sub_le _ _)) (by omega))
        generalize cmpN X q.n = cc at *
        go_wp2_with fail
        have T3 : TD w p.t q.t (wc.drewN nn).drew := (T2.drawn nn).drew.td
        have KO := Lib.hid (rMinus3_c q.n X _ _ A3 A2 c3 c2 (wc.drewN nn).drew (Nat.le_of_lt hl) (by omega) (HY2.out.drewN (nn + 1)) (HX2.out.drewN (nn + 1)))
        have M0 : ∀ W, TD w p.t q.t W → W.cell? ⟨w.heap.size, 0, none⟩ = some (.bool p.g) := fun W h => h.1.2.1.facts.2.1
        have M3 : ∀ W, TD w p.t q.t W → W.cell? ⟨w.heap.size + 1, 0, none⟩ = some (.bool q.g) := fun W h => h.1.2.2.facts.2.1
        have M5 : ∀ W, TD w p.t q.t W → W.cell? ⟨w.heap.size + 1, 2, none⟩ = some (.int .i64 q.x) := fun W h => h.1.2.2.facts.2.2.2.1
        have M6 := fun W (h : TD w p.t q.t W) => h.cells.2.1
        have M7 := fun W (h : TD w p.t q.t W) => h.cells.2.2.1
        have M8 := fun W (h : TD w p.t q.t W) => h.cells.2.2.2.1
        have M9 := fun W (h : TD w p.t q.t W) => h.cells.2.2.2.2.1
        have M10 := fun W (h : TD w p.t q.t W) => h.cells.2.2.2.2.2.1
        have M11 := fun W (h : TD w p.t q.t W) => h.cells.2.2.2.2.2.2
        go_region_held3 (TD w p.t q.t) (first | assumption | exact TD.step (by assumption) (by assumption) | exact TD.put (by assumption) _ _ _ | exact TD.drew (by assumption) | exact TD.drawn (by assumption) _)
          (first
            | (go_at_call 31; (refine KO.out.mono ?_); rintro e wd ⟨A4, c4, rfl, hown4, hb10⟩)
            | (go_at_call 28; (refine (KF.out _ _ _ _ _ _ HNW.out (by assumption)).mono ?_); rintro e we ⟨rfl, hb11⟩; have HSV := Lib.hid (TD.step (a := p.t) (b := q.t) (w := w) (by assumption) hb11); unfold Dy.v))
        obtain ⟨r0, r1, r2, r3, r4, r5, r6⟩ := HSV.out.cells
        have hfin := below_put HSV.out.1.1 (show w.heap.size ≤ w.heap.size + 2 by omega)
        clear T3 M0 M3 M5 M6 M7 M8 M9 M10 M11
        go_wp2_with fail
        refine bodyPost_ret (v := .tuple #[(mkD q.g (q.n - X) q.x).v, .int .i64 (mkE (q.n - X) q.x)]) (by simp [results, Tryd.results13, go_sem, r0, r1, r2, r3, Dy.v]) rfl ⟨?_, ?_⟩
        · rw [HRES.out.1, HRES.out.2]
        · exact hfin _ _ _
      · have hcn : (0 : Int) ≤ cmpN X q.n := by
          rcases Nat.eq_or_lt_of_le (Nat.le_of_not_lt hl) with h | h
          · rw [h, cmpN_eq]; decide
          · rw [cmpN_gt h]; decide
        have HRES := Lib.hid (hi_ge hg X HUP.out hl)
        have HNW : Hid (nd 256 (X - q.n) ≤ 100000) := Lib.hid (Nat.le_trans (nd_mono (by omega) (Nat.sub_le _ _)) (by omega))
        generalize cmpN X q.n = cc at *
        go_wp2_with fail
        have T3 : TD w p.t q.t (wc.drewN nn).drew := (T2.drawn nn).drew.td
        have KO := Lib.hid (rMinus3_c X q.n _ _ A2 A3 c2 c3 (wc.drewN nn).drew (Nat.le_of_not_lt hl) (by omega) (HX2.out.drewN (nn + 1)) (HY2.out.drewN (nn + 1)))
        have M0 : ∀ W, TD w p.t q.t W → W.cell? ⟨w.heap.size, 0, none⟩ = some (.bool p.g) := fun W h => h.1.2.1.facts.2.1
        have M3 : ∀ W, TD w p.t q.t W → W.cell? ⟨w.heap.size + 1, 0, none⟩ = some (.bool q.g) := fun W h => h.1.2.2.facts.2.1
        have M5 : ∀ W, TD w p.t q.t W → W.cell? ⟨w.heap.size + 1, 2, none⟩ = some (.int .i64 q.x) := fun W h => h.1.2.2.facts.2.2.2.1
        have M6 := fun W (h : TD w p.t q.t W) => h.cells.2.1
        have M7 := fun W (h : TD w p.t q.t W) => h.cells.2.2.1
        have M8 := fun W (h : TD w p.t q.t W) => h.cells.2.2.2.1
        have M9 := fun W (h : TD w p.t q.t W) => h.cells.2.2.2.2.1
        have M10 := fun W (h : TD w p.t q.t W) => h.cells.2.2.2.2.2.1
        have M11 := fun W (h : TD w p.t q.t W) => h.cells.2.2.2.2.2.2
        go_region_held3 (TD w p.t q.t) (first | assumption | exact TD.step (by assumption) (by assumption) | exact TD.put (by assumption) _ _ _ | exact TD.drew (by assumption) | exact TD.drawn (by assumption) _)
          (first
            | (go_at_call 31; (refine KO.out.mono ?_); rintro e wd ⟨A4, c4, rfl, hown4, hb10⟩)
            | (go_at_call 28; (refine (KF.out _ _ _ _ _ _ HNW.out (by assumption)).mono ?_); rintro e we ⟨rfl, hb11⟩; have HSV := Lib.hid (TD.step (a := p.t) (b := q.t) (w := w) (by assumption) hb11); unfold Dy.v))
        obtain ⟨r0, r1, r2, r3, r4, r5, r6⟩ := HSV.out.cells
        have hfin := below_put HSV.out.1.1 (show w.heap.size ≤ w.heap.size + 2 by omega)
        clear T3 M0 M3 M5 M6 M7 M8 M9 M10 M11
        go_wp2_with fail
        refine bodyPost_ret (v := .tuple #[(mkD p.g (X - q.n) q.x).v, .int .i64 (mkE (X - q.n) q.x)]) (by simp [results, Tryd.results13, go_sem, r0, r1, r2, r3, Dy.v]) rfl ⟨?_, ?_⟩
        · rw [HRES.out.1, HRES.out.2]
        · exact hfin _ _ _
end Go.Proofs.YtkbjlijcnlkbgaaDoor
set_option linter.unusedSimpArgs false
set_option linter.unusedVariables false
namespace Go.Proofs.YtkbjlijcnlkbgaaDoor
open Go Go.RowKit Nt

/-- What Add leaves. -/
def AddPost (a b : Dy) (w : World) (e : Ending) (w' : World) : Prop := e = .returned (.tuple #[(addD a b).v, .int .i64 (addE a b)]) ∧ Below w.heap.size w w'
theorem DAdd_c (a b : Dy) (w : World) (ha : a.Ok) (hb : b.Ok) (hG : Globs glT w) :
    Calls Tryd.prog 10 #[.agg #[.bool a.g, .string (natS a.n), .int .i64 a.x], .agg #[.bool b.g, .string (natS b.n), .int .i64 b.x]] w (AddPost a b w) := by
  unfold AddPost
  rcases ha with rfl | ha
  · rw [(add_zl (a := Dy.zero) (b := b) rfl).1, (add_zl (a := Dy.zero) (b := b) rfl).2]
    show Calls _ _ #[.agg #[.bool false, .string (natS 0), .int .i64 0], _] _ _
    rw [natS_zero]; exact DAdd_zl b w hb
  · rcases hb with rfl | hb
    · rw [(add_zr (a := a) (b := Dy.zero) (odd_ne ha.2.1) rfl).1, (add_zr (a := a) (b := Dy.zero) (odd_ne ha.2.1) rfl).2]
      show Calls _ _ #[_, .agg #[.bool false, .string (natS 0), .int .i64 0]] _ _
      rw [natS_zero]; exact DAdd_zr a w ha
    · exact DAdd_num a b w ha hb hG
set_option maxRecDepth 100000 in
set_option maxHeartbeats 2000000 in
theorem rAdd3_swap (a b : Dy) (w : World) (ha : a.Num) (hb : b.Num) (hlt : a.x < b.x) :
    Calls Tryd.prog 13 #[.agg #[.bool a.g, .string (natS a.n), .int .i64 a.x], .agg #[.bool b.g, .string (natS b.n), .int .i64 b.x]] w fun e w' => e = .returned (.tuple #[(hiD b a).v, .int .i64 (hiE b a)]) ∧ Below w.heap.size w w' := by
  have K := Lib.hid (fun w => rAdd3_ge b a w hb ha (by omega))
  have hEp := natS_full (odd_ne ha.2.1)
  have hEp2 := natS_full2 (odd_ne ha.2.1)
  have hEq := natS_full (odd_ne hb.2.1)
  have hEq2 := natS_full2 (odd_ne hb.2.1)
  have T0 := TC.start w a.t b.t
  unfold Dy.t at T0
  obtain ⟨p0, p1, p2, p3, p4, p5, p6⟩ := T0.1.2.1.facts
  obtain ⟨q0, q1, q2, q3, q4, q5, q6⟩ := T0.1.2.2.facts
  clear ha hb
  generalize hiD b a = D at *
  generalize hiE b a = E at *
  go_enter Tryd.func13, Tryd.ntmps13
  go_wp2_with fail
  refine (K.out _).mono ?_
  rintro e w1 ⟨rfl, hb⟩
  replace T0 := T0.step hb
  obtain ⟨r0, r1, r2, r3, r4, r5, r6⟩ := T0.2.facts
  unfold Dy.v
  clear hb p0 p1 p2 p3 p4 p5 p6 q0 q1 q2 q3 q4 q5 q6
  go_wp2_with fail
  refine bodyPost_ret (v := .tuple #[D.v, .int .i64 E]) (by simp [results, Tryd.results13, go_sem, r0, r1, r2, r3, Dy.v]) rfl ⟨rfl, ?_⟩
  exact T0.fin _ _ _
theorem rAdd3_c (a b : Dy) (w : World) (ha : a.Ok) (hb : b.Ok) :
    Calls Tryd.prog 13 #[.agg #[.bool a.g, .string (natS a.n), .int .i64 a.x], .agg #[.bool b.g, .string (natS b.n), .int .i64 b.x]] w (AddPost a b w) := by
  unfold AddPost
  rcases ha with rfl | ha
  · rw [(add_zl (a := Dy.zero) (b := b) rfl).1, (add_zl (a := Dy.zero) (b := b) rfl).2]
    show Calls _ _ #[.agg #[.bool false, .string (natS 0), .int .i64 0], _] _ _
    rw [natS_zero]; exact rAdd3_zl b w false 0
  · rcases hb with rfl | hb
    · rw [(add_zr (a := a) (b := Dy.zero) (odd_ne ha.2.1) rfl).1, (add_zr (a := a) (b := Dy.zero) (odd_ne ha.2.1) rfl).2]
      show Calls _ _ #[_, .agg #[.bool false, .string (natS 0), .int .i64 0]] _ _
      rw [natS_zero]; exact rAdd3_zr a w (odd_ne ha.2.1) false 0
    · by_cases h : a.x < b.x
      · rw [(add_lt (odd_ne ha.2.1) (odd_ne hb.2.1) h).1, (add_lt (odd_ne ha.2.1) (odd_ne hb.2.1) h).2]
        exact rAdd3_swap a b w ha hb h
      · rw [(add_ge (odd_ne ha.2.1) (odd_ne hb.2.1) h).1, (add_ge (odd_ne ha.2.1) (odd_ne hb.2.1) h).2]
        exact rAdd3_ge a b w ha hb (by omega)
def negD (d : Dy) : Dy := if d.n = 0 then d else ⟨!d.g, d.n, d.x⟩
theorem negD_zero : negD Dy.zero = Dy.zero := by unfold negD; exact if_pos rfl
theorem negD_num {d : Dy} (h : d.n ≠ 0) : negD d = ⟨!d.g, d.n, d.x⟩ := by unfold negD; exact if_neg h
theorem negD_Ok {d : Dy} (h : d.Ok) : (negD d).Ok := by
  rcases h with rfl | h
  · rw [negD_zero]; exact Or.inl rfl
  · rw [negD_num (odd_ne h.2.1)]; exact Or.inr h
end Go.Proofs.YtkbjlijcnlkbgaaDoor
set_option linter.unusedSimpArgs false
set_option linter.unusedVariables false
namespace Go.Proofs.YtkbjlijcnlkbgaaDoor
open Go Go.RowKit Nt

/-- The sum from s on, up to the first that does not fit. -/
def sumsD (s : Dy) : List Dy → Dy × Int
  | [] => (s, 0)
  | d :: r => if addE s d = 0 then sumsD (addD s d) r else (Dy.zero, addE s d)
theorem sumsD_nil (s : Dy) : sumsD s [] = (s, 0) := rfl
theorem sumsD_on {s d : Dy} {r : List Dy} (h : addE s d = 0) : sumsD s (d :: r) = sumsD (addD s d) r := by rw [sumsD, if_pos h]
theorem sumsD_off {s d : Dy} {r : List Dy} (h : addE s d ≠ 0) : sumsD s (d :: r) = (Dy.zero, addE s d) := by rw [sumsD, if_neg h]
/-- The rest of the list, at its next number. -/
theorem drop_at {l : List Dy} {k : Nat} (h : k < l.length) : l.drop k = l[k] :: l.drop (k + 1) := List.drop_eq_getElem_cons h
def SumPost (l : List Dy) (w : World) (e : Ending) (w' : World) : Prop := e = .returned (.tuple #[(sumsD Dy.zero l).1.v, .int .i64 (sumsD Dy.zero l).2]) ∧ Below w.heap.size w w'
theorem Dts.at_ {w w' : World} {A : Option Addr} {l : List Dy} (h : Dts w A (l.map Dy.t)) {k : Nat} (hk : k < l.length) (hb : Below w.heap.size w w') :
    ∃ ad, A = some ad ∧ w'.cell? (ad.add (k * 3)) = some (.bool l[k].g) ∧ w'.cell? ⟨(ad.add (k * 3)).block, (ad.add (k * 3)).off + 1, none⟩ = some (.string (natS l[k].n)) ∧ w'.cell? ⟨(ad.add (k * 3)).block, (ad.add (k * 3)).off + 2, none⟩ = some (.int .i64 l[k].x) := by
  obtain ⟨ad, e, hl, hc⟩ := (h.below hb) (by rw [List.length_map]; omega)
  have := hc k (by rw [List.length_map]; exact hk)
  simp only [List.getElem_map, Dy.t] at this
  exact ⟨ad, e, this⟩
end Go.Proofs.YtkbjlijcnlkbgaaDoor
set_option linter.unusedSimpArgs false
set_option linter.unusedVariables false
namespace Go.Proofs.YtkbjlijcnlkbgaaDoor
open Go Go.RowKit Nt

set_option maxRecDepth 100000 in
set_option maxHeartbeats 2000000 in
theorem DSum_c (l : List Dy) (A : Option Addr) (c : Nat) (w : World) (hl : l.length ≤ 9223372036854775807) (hok : ∀ d ∈ l, d.Ok) (h : Dts w A (l.map Dy.t)) (hG : Globs glT w) :
    Calls Tryd.prog 4 #[.slice A l.length c] w (SumPost l w) := by
  unfold SumPost
  have he : dE (l.map Dy.t) = 0 := dE_ok (fun t ht => by
    obtain ⟨d, hd, rfl⟩ := List.mem_map.1 ht
    exact Dy.ok_t (hok d hd))
  have KA : Hid (∀ W, Below w.heap.size w W → Calls Tryd.prog 9 #[.slice A l.length c] W fun e w' => e = .returned (.int .i64 0) ∧ Below W.heap.size W w') := Lib.hid (fun W hW => by
    have := Dall_c A c (l.map Dy.t) W (by rw [List.length_map]; exact hl) (fun t ht => by
      obtain ⟨d, hd, rfl⟩ := List.mem_map.1 ht
      exact Nat.le_trans (Dt.small (Dy.ok_t (hok d hd))) (by omega)) (h.below hW)
    rwa [he, List.length_map] at this)
  have HG : Hid (∀ W, Below w.heap.size w W → Globs glT W) := Lib.hid (fun W hW => hG.below hW (Nat.le_refl _))
  have HD := Lib.hid h
  have HOK := Lib.hid hok
  have HR : Below w.heap.size w (w.alloc (.cells #[.bool false, .string ⟨#[]⟩, .int .i64 0] 25)) := (Below.refl _ _).alloc (Nat.le_refl _) _
  have BR := Box3.new w (.bool false) (.string ⟨#[]⟩) (.int .i64 0)
  clear h hok hG he
  go_enter Tryd.func4, Tryd.ntmps4
  go_wp2_with fail
  refine (KA.out _ HR).mono ?_
  rintro e w1 ⟨rfl, hb1⟩
  replace HR := below_chain HR hb1
  replace BR := BR.step hb1
  obtain ⟨P, hP⟩ : ∃ P, P = w1.heap.size := ⟨_, rfl⟩
  have BP := Box3.new w1 (.bool false) (.string ⟨#[]⟩) (.int .i64 0)
  have BR2 := BR.more (.cells #[.bool false, .string ⟨#[]⟩, .int .i64 0] 25)
  have HR2 : Below w.heap.size w (w1.alloc (.cells #[.bool false, .string ⟨#[]⟩, .int .i64 0] 25)) := HR.alloc HR.size _
  have hRP : w.heap.size < P := by rw [hP]; exact BR.facts.1
  have HBP := Lib.hid BP
  have HBR := Lib.hid BR2
  have HB2 := Lib.hid HR2
  have HPE := Lib.hid hP
  clear hb1 BP BR2 HR2 HR BR hP
  go_wp2_with fail
  rw [← HPE.out]
  go_loopw [18] (fun i wr => ∃ (k : Nat) (S : Dy), k ≤ l.length ∧ i = .int .i64 k ∧ Hid S.Ok ∧ Hid (sumsD Dy.zero l = sumsD S (l.drop k)) ∧ Hid (Box3 wr P (.bool S.g) (.string (natS S.n)) (.int .i64 S.x)) ∧ Hid (Box3 wr w.heap.size (.bool false) (.string ⟨#[]⟩) (.int .i64 0)) ∧ Below w.heap.size w wr) (fun i _ => l.length - (intOf i).toNat)
  case atStart =>
    refine ⟨0, Dy.zero, Nat.zero_le _, rfl, Lib.hid (Or.inl rfl), Lib.hid (by rw [List.drop_zero]), Lib.hid ?_, Lib.hid HBR.out, HB2.out⟩
    have := HBP.out
    rw [← HPE.out] at this
    show Box3 _ P (.bool false) (.string (natS 0)) (.int .i64 0)
    rw [natS_zero]; exact this
  case round =>
    obtain ⟨k, S, hk, rfl, hS, hsum, hP, hR, hb⟩ := hrel
    by_cases hlt : k < l.length
    · obtain ⟨ad, rfl, c1, c2, c3⟩ := HD.out.at_ hlt hb
      have hd := HOK.out _ (List.getElem_mem hlt)
      have hsd := hsum.out
      rw [drop_at hlt] at hsd
      generalize l[k] = d at *
      have KD := Lib.hid (fun W (hW : Below w.heap.size w W) => DAdd_c S d W hS.out hd (HG.out W hW))
      unfold AddPost at KD
      obtain ⟨p0, p1, p2, p3, p4, p5, p6⟩ := hP.out.facts
      have hbA : Below w.heap.size w (wr.alloc (.cells #[.bool d.g, .string (natS d.n), .int .i64 d.x] 25)) := hb.alloc hb.size _
      have BP2 := Lib.hid (hP.out.more (.cells #[.bool d.g, .string (natS d.n), .int .i64 d.x] 25))
      have BR3 := Lib.hid (hR.out.more (.cells #[.bool d.g, .string (natS d.n), .int .i64 d.x] 25))
      have HBA := Lib.hid hbA
      have HLT := Lib.hid hlt
      have hDok := Lib.hid (add_Ok hS.out hd)
      by_cases hE : addE S d = 0
      · rw [sumsD_on hE] at hsd
        rw [hE] at KD
        have HSD := Lib.hid hsd
        generalize addD S d = D at *
        clear hE hsd hd hbA hlt
        go_wp2_with (go_at_call 10; refine (KD.out _ HBA.out).mono ?_; rintro e w2 ⟨rfl, hb2⟩; obtain ⟨q0, q1, q2, q3, q4, q5, q6⟩ := (BP2.out.step hb2).facts; have HB3 := Lib.hid hb2; unfold Dy.v; clear hb2 p0 p1 p2 p3 p4 p5 p6)
        go_roundw
        case rel =>
          exact ⟨k + 1, D, by have := HLT.out; omega, by go_num, hDok, HSD, Lib.hid ((BP2.out.step HB3.out).put _ _ _), Lib.hid ((BR3.out.step HB3.out).far (by omega) _ _ _), below_put (below_chain HBA.out HB3.out) (by omega) _ _ _⟩
        case measure => have := HLT.out; simp [intOf]; omega
      · rw [sumsD_off hE] at hsd
        have HSD := Lib.hid hsd
        generalize addD S d = D at *
        generalize addE S d = E at *
        clear hsd hd hbA hlt
        go_wp2_with (go_at_call 10; refine (KD.out _ HBA.out).mono ?_; rintro e w2 ⟨rfl, hb2⟩; obtain ⟨q0, q1, q2, q3, q4, q5, q6⟩ := (BP2.out.step hb2).facts; have HB3 := Lib.hid hb2; have BR4 := Lib.hid ((BR3.out.step hb2).far (show w.heap.size ≠ P by omega) (.bool D.g) (.string (natS D.n)) (.int .i64 D.x)); obtain ⟨r0, r1, r2, r3, r4, r5, r6⟩ := BR4.out.facts; unfold Dy.v; clear hb2 p0 p1 p2 p3 p4 p5 p6)
        refine bodyPost_ret (v := .tuple #[.agg #[.bool false, .string ⟨#[]⟩, .int .i64 0], .int .i64 E]) (by simp [results, Tryd.results4, go_sem, r0, r1, r2, r3]) rfl ⟨?_, below_put (below_put (below_chain HBA.out HB3.out) (by omega) _ _ _) (Nat.le_refl _) _ _ _⟩
        rw [HSD.out]
        show _ = Ending.returned (.tuple #[Dy.zero.v, .int .i64 E])
        rw [Dy.zero_v]
    · have hk2 : k = l.length := by omega
      have hsd := hsum.out
      rw [hk2, List.drop_length, sumsD_nil] at hsd
      have HSD := Lib.hid hsd
      obtain ⟨p0, p1, p2, p3, p4, p5, p6⟩ := hP.out.facts
      obtain ⟨r0, r1, r2, r3, r4, r5, r6⟩ := hR.out.facts
      clear hsd hk2
      go_wp2_with fail
      refine bodyPost_ret (v := .tuple #[.agg #[.bool S.g, .string (natS S.n), .int .i64 S.x], .int .i64 0]) (by simp [results, Tryd.results4, go_sem, r0, r1, r2, r3]) rfl ⟨?_, below_put hb (Nat.le_refl _) _ _ _⟩
      rw [HSD.out]
      rfl
end Go.Proofs.YtkbjlijcnlkbgaaDoor
set_option linter.unusedSimpArgs false
set_option linter.unusedVariables false
namespace Go.Proofs.YtkbjlijcnlkbgaaDoor
open Go Go.RowKit Nt

end Go.Proofs.YtkbjlijcnlkbgaaDoor
set_option linter.unusedSimpArgs false
set_option linter.unusedVariables false
namespace Go.Proofs.YtkbjlijcnlkbgaaDoor
open Go Go.RowKit Nt

@[irreducible] def mulD (a b : Dy) : Dy := mkD (a.g != b.g) (a.n * b.n) (a.x + b.x)
@[irreducible] def mulE (a b : Dy) : Int := mkE (a.n * b.n) (a.x + b.x)
theorem mulD_eq (a b : Dy) : mulD a b = mkD (a.g != b.g) (a.n * b.n) (a.x + b.x) := by unfold mulD; rfl
theorem mulE_eq (a b : Dy) : mulE a b = mkE (a.n * b.n) (a.x + b.x) := by unfold mulE; rfl
theorem mul_z {a b : Dy} (h : a.n = 0 ∨ b.n = 0) : mulD a b = Dy.zero ∧ mulE a b = 0 := by
  have e : a.n * b.n = 0 := by rcases h with h | h <;> rw [h] <;> simp
  rw [mulD_eq, mulE_eq, e, mkD_zero, mkE_zero]; exact ⟨rfl, rfl⟩
theorem mulD_Ok (a b : Dy) : (mulD a b).Ok := by rw [mulD_eq]; exact mkD_Ok _ _ _
/-- What Mul leaves. -/
def MulPost (a b : Dy) (w : World) (e : Ending) (w' : World) : Prop := e = .returned (.tuple #[(mulD a b).v, .int .i64 (mulE a b)]) ∧ Below w.heap.size w w'
end Go.Proofs.YtkbjlijcnlkbgaaDoor
set_option linter.unusedSimpArgs false
set_option linter.unusedVariables false
namespace Go.Proofs.YtkbjlijcnlkbgaaDoor
open Go Go.RowKit Nt

set_option maxRecDepth 100000 in
theorem nothing_c (w : World) : Calls Tryd.prog 6 #[.agg #[.bool false, .string ⟨#[]⟩, .int .i64 0], .int .i64 2] w fun e w' => e = .returned (.bool true) ∧ Below w.heap.size w w' := by
  go_enter Tryd.func6, Tryd.ntmps6
  go_wp2
  go_ret
  exact ⟨rfl, (Below.refl _ _).alloc (Nat.le_refl _) _⟩
end Go.Proofs.YtkbjlijcnlkbgaaDoor
set_option linter.unusedSimpArgs false
set_option linter.unusedVariables false
namespace Go.Proofs.YtkbjlijcnlkbgaaDoor
open Go Go.RowKit Nt

set_option maxRecDepth 100000 in
set_option maxHeartbeats 2000000 in
theorem DSum_bad (l : List Dt) (A : Option Addr) (c : Nat) (w : World) (hl : l.length ≤ 9223372036854775807) (hs : ∀ t ∈ l, t.s.size ≤ 9223372036854775807) (h : Dts w A l) (hn : dE l = 2) :
    Calls Tryd.prog 4 #[.slice A l.length c] w fun e w' => e = .returned (.tuple #[.agg #[.bool false, .string ⟨#[]⟩, .int .i64 0], .int .i64 2]) ∧ Below w.heap.size w w' := by
  have KA : Hid (∀ W, Below w.heap.size w W → Calls Tryd.prog 9 #[.slice A l.length c] W fun e w' => e = .returned (.int .i64 2) ∧ Below W.heap.size W w') := Lib.hid (fun W hW => by
    have := Dall_c A c l W hl hs (h.below hW)
    rwa [hn] at this)
  have HR : Below w.heap.size w (w.alloc (.cells #[.bool false, .string ⟨#[]⟩, .int .i64 0] 25)) := (Below.refl _ _).alloc (Nat.le_refl _) _
  have BR := Box3.new w (.bool false) (.string ⟨#[]⟩) (.int .i64 0)
  clear h hs hn
  go_enter Tryd.func4, Tryd.ntmps4
  go_wp2_with fail
  refine (KA.out _ HR).mono ?_
  rintro e w1 ⟨rfl, hb1⟩
  replace HR := below_chain HR hb1
  replace BR := BR.step hb1
  obtain ⟨r0, r1, r2, r3, r4, r5, r6⟩ := BR.facts
  clear hb1 KA
  go_wp2_with fail
  refine bodyPost_ret (v := .tuple #[.agg #[.bool false, .string ⟨#[]⟩, .int .i64 0], .int .i64 2]) (by simp [results, Tryd.results4, go_sem, r0, r1, r2, r3]) rfl ⟨rfl, below_put HR (Nat.le_refl _) _ _ _⟩
end Go.Proofs.YtkbjlijcnlkbgaaDoor
set_option linter.unusedSimpArgs false
set_option linter.unusedVariables false
namespace Go.Proofs.YtkbjlijcnlkbgaaDoor
open Go Go.RowKit Nt

/-- A block of room for n Dyads and one more, the first k of which are those of l. -/
def OwnDs (w : World) (G n : Nat) (l : List Dt) (k : Nat) : Prop := ∃ cs : Array Value, Blk w G 25 cs ∧ cs.size = (n + 1) * 3 ∧
  ∀ j (h : j < l.length), j < k → cs[j * 3]? = some (.bool l[j].g) ∧ cs[j * 3 + 1]? = some (.string l[j].s) ∧ cs[j * 3 + 2]? = some (.int .i64 l[j].x)
section
variable {w w' : World} {G n k : Nat} {l : List Dt}
theorem OwnDs.lt (h : OwnDs w G n l k) : G < w.heap.size := by obtain ⟨cs, h, _⟩ := h; exact h.lt
theorem OwnDs.below (h : OwnDs w G n l k) (hb : Below w.heap.size w w') : OwnDs w' G n l k := by
  obtain ⟨cs, h1, h2, h3⟩ := h
  exact ⟨cs, h1.below hb h1.lt, h2, h3⟩
theorem OwnDs.new (w : World) (z : Array Value) (hz : z.size = (n + 1) * 3) : OwnDs (w.alloc (.cells z 25)) w.heap.size n l 0 := ⟨_, Blk.new w _ _, hz, fun j _ h => absurd h (by omega)⟩
theorem OwnDs.room (h : OwnDs w G n l k) {i : Nat} (hi : i < (n + 1) * 3) : (w.cell? ⟨G, i, none⟩).isSome = true ∧ w.frozen? ⟨G, i, none⟩ = false := by
  obtain ⟨cs, h1, h2, h3⟩ := h
  exact ⟨by rw [h1.cell]; simp [h2, hi], h1.frozen i⟩
theorem OwnDs.three (h : OwnDs w G n l k) {i : Nat} (hi : i ≤ n) (a b c : Value) :
    ∃ cs : Array Value, Blk (((w.setCell ⟨G, i * 3, none⟩ a).setCell ⟨G, i * 3 + 1, none⟩ b).setCell ⟨G, i * 3 + 2, none⟩ c) G 25 cs ∧ cs.size = (n + 1) * 3 ∧
      cs[i * 3]? = some a ∧ cs[i * 3 + 1]? = some b ∧ cs[i * 3 + 2]? = some c ∧
      ∀ j (h : j < l.length), j < k → j ≠ i → cs[j * 3]? = some (.bool l[j].g) ∧ cs[j * 3 + 1]? = some (.string l[j].s) ∧ cs[j * 3 + 2]? = some (.int .i64 l[j].x) := by
  obtain ⟨cs, h1, h2, h3⟩ := h
  refine ⟨_, ((h1.set_ (i * 3) a).set_ (i * 3 + 1) b).set_ (i * 3 + 2) c, by simp [h2], ?_, ?_, ?_, fun j hj hk hne => ?_⟩
  · rw [Array.getElem?_setIfInBounds_ne (by omega), Array.getElem?_setIfInBounds_ne (by omega), Array.getElem?_setIfInBounds_self]; simp [h2]; omega
  · rw [Array.getElem?_setIfInBounds_ne (by omega), Array.getElem?_setIfInBounds_self]; simp [h2]; omega
  · rw [Array.getElem?_setIfInBounds_self]; simp [h2]; omega
  · obtain ⟨e1, e2, e3⟩ := h3 j hj hk
    refine ⟨?_, ?_, ?_⟩
    · rw [Array.getElem?_setIfInBounds_ne (by omega), Array.getElem?_setIfInBounds_ne (by omega), Array.getElem?_setIfInBounds_ne (by omega)]; exact e1
    · rw [Array.getElem?_setIfInBounds_ne (by omega), Array.getElem?_setIfInBounds_ne (by omega), Array.getElem?_setIfInBounds_ne (by omega)]; exact e2
    · rw [Array.getElem?_setIfInBounds_ne (by omega), Array.getElem?_setIfInBounds_ne (by omega), Array.getElem?_setIfInBounds_ne (by omega)]; exact e3
theorem OwnDs.put (h : OwnDs w G n l k) (hk : k < n) (hl : k < l.length) : OwnDs (((w.setCell ⟨G, k * 3, none⟩ (.bool l[k].g)).setCell ⟨G, k * 3 + 1, none⟩ (.string l[k].s)).setCell ⟨G, k * 3 + 2, none⟩ (.int .i64 l[k].x)) G n l (k + 1) := by
  obtain ⟨cs, h1, h2, e1, e2, e3, h3⟩ := h.three (i := k) (by omega) (.bool l[k].g) (.string l[k].s) (.int .i64 l[k].x)
  refine ⟨cs, h1, h2, fun j hj hlt => ?_⟩
  by_cases hjk : j = k
  · subst hjk; exact ⟨e1, e2, e3⟩
  · exact h3 j hj (by omega) hjk
end
/-- The whole row, and what lies behind it. -/
def OwnAll (w : World) (G n : Nat) (l : List Dt) : Prop := G < w.heap.size ∧
  (∀ j (h : j < l.length), w.cell? ⟨G, j * 3, none⟩ = some (.bool l[j].g) ∧ w.cell? ⟨G, j * 3 + 1, none⟩ = some (.string l[j].s) ∧ w.cell? ⟨G, j * 3 + 2, none⟩ = some (.int .i64 l[j].x)) ∧
  w.cell? ⟨G, n * 3, none⟩ = some (.bool false) ∧ w.cell? ⟨G, n * 3 + 1, none⟩ = some (.string ⟨#[]⟩) ∧ w.cell? ⟨G, n * 3 + 2, none⟩ = some (.int .i64 77)
theorem OwnDs.all_ {w : World} {G n : Nat} {l : List Dt} (h : OwnDs w G n l n) (hn : n = l.length) : OwnAll (((w.setCell ⟨G, n * 3, none⟩ (.bool false)).setCell ⟨G, n * 3 + 1, none⟩ (.string ⟨#[]⟩)).setCell ⟨G, n * 3 + 2, none⟩ (.int .i64 77)) G n l := by
  obtain ⟨cs, h1, h2, e1, e2, e3, h3⟩ := h.three (i := n) (Nat.le_refl _) (.bool false) (.string ⟨#[]⟩) (.int .i64 77)
  refine ⟨h1.lt, fun j hj => ?_, by rw [h1.cell]; exact e1, by rw [h1.cell]; exact e2, by rw [h1.cell]; exact e3⟩
  rw [h1.cell, h1.cell, h1.cell]
  exact h3 j hj (by omega) (by omega)
theorem OwnAll.below {w w' : World} {G n : Nat} {l : List Dt} (h : OwnAll w G n l) (hb : Below w.heap.size w w') : OwnAll w' G n l := by
  obtain ⟨h0, h1, e1, e2, e3⟩ := h
  refine ⟨Nat.lt_of_lt_of_le h0 hb.size, fun j hj => ?_, (hb.cell (p := ⟨G, n * 3, none⟩) h0).trans e1, (hb.cell (p := ⟨G, n * 3 + 1, none⟩) h0).trans e2, (hb.cell (p := ⟨G, n * 3 + 2, none⟩) h0).trans e3⟩
  obtain ⟨c1, c2, c3⟩ := h1 j hj
  exact ⟨(hb.cell (p := ⟨G, j * 3, none⟩) h0).trans c1, (hb.cell (p := ⟨G, j * 3 + 1, none⟩) h0).trans c2, (hb.cell (p := ⟨G, j * 3 + 2, none⟩) h0).trans c3⟩
theorem OwnAll.dts {w : World} {G n : Nat} {l : List Dt} (h : OwnAll w G n l) : Dts w (some ⟨G, 0, none⟩) l := fun _ => ⟨⟨G, 0, none⟩, rfl, h.1, fun j hj => by
  obtain ⟨c1, c2, c3⟩ := h.2.1 j hj
  rw [add_plain0]
  exact ⟨c1, c2, c3⟩⟩
/-- A list of Dyads that may be. -/
theorem Dts_dy : ∀ {l : List Dt}, (∀ t ∈ l, t.Ok) → ∃ d : List Dy, l = d.map Dy.t ∧ ∀ x ∈ d, x.Ok
  | [], _ => ⟨[], rfl, fun x h => by cases h⟩
  | t :: r, h => by
    obtain ⟨d, hd, he⟩ := Dts_dy (l := r) (fun u hu => h u (List.mem_cons_of_mem _ hu))
    obtain ⟨x, hx, hxe⟩ := Dt.dy (h t (List.mem_cons_self ..))
    refine ⟨x :: d, by rw [List.map_cons, ← hd, ← hxe], fun y hy => ?_⟩
    rcases List.mem_cons.1 hy with rfl | hy
    · exact hx
    · exact he y hy
/-- 'make([]Dyad, n + 1)': a row of the call's own. -/
theorem wpList_makeD {P : Program} (l : List Dt) (w : World) {ops : Array Oper} {rest : List Oper} {o : Oper} {a : Act} {Q : Exit → Act → World → Prop}
    (hg : o.guard = none) (x c : Operand) (t : TypeId) (hop : o.op = Op.makeSlice t x c)
    (i : TypeInfo) (h1 : P.underlying t = some (.slice 25)) (h2 : P.info? 25 = some i) (h3 : i.zero = some (.agg #[.bool false, .string ⟨#[]⟩, .int .i64 0])) (h4 : i.size = 3)
    (kl kc : IntKind) (L C : Int) (n : Nat) (hl : a.eval x = .int kl L) (hc : a.eval c = .int kc C) (hL : L = ((n + 1 : Nat) : Int)) (hC : C = ((n + 1 : Nat) : Int)) (b2 : i.bytes * (n + 1) ≤ 281474976710656) (b3 : n + 1 ≤ maxLen)
    (hK : ∀ w', OwnDs w' w.heap.size n l 0 → Below w.heap.size w w' → wpList P ops Q rest (a.put o.dst (.slice (some ⟨w.heap.size, 0, none⟩) (n + 1) (n + 1))) w') :
    wpList P ops Q (o :: rest) a w := by
  refine wpList_plain hg fun K hK' => ?_
  have hr := run_make (P := P) w t 25 i (.agg #[.bool false, .string ⟨#[]⟩, .int .i64 0]) h1 h2 h3 kl kc ((n + 1 : Nat) : Int) ((n + 1 : Nat) : Int) (by omega) (Int.le_refl _) (by
    have h : ((i.bytes * (n + 1) : Nat) : Int) ≤ 281474976710656 := by omega
    rwa [Int.natCast_mul] at h) (by have h := b3; simp [maxLen] at h ⊢; omega)
  rw [Int.toNat_natCast] at hr
  rw [h4] at hr
  subst hL
  subst hC
  have hfin := hK (w.alloc (.cells (madeCells (Value.agg #[.bool false, .string ⟨#[]⟩, .int .i64 0]).cells ((n + 1) * 3)) 25)) (OwnDs.new w _ (by simp [madeCells])) ((Below.refl _ _).alloc (Nat.le_refl _) _)
  unfold Oper.wp
  simp only [execOp, hop, hl, hc, Sem.run_bind, Sem.run_pure, hr, Result.andThen_ok]
  exact hK' _ _ hfin
/-- A Dyad stored into a row of the call's own. -/
theorem wpList_storeD {P : Program} {ops : Array Oper} {rest : List Oper} {op : Oper} {a : Act} {w : World} {Q : Exit → Act → World → Prop} (G i : Nat) (hgd : op.guard = none) (ty : TypeId) (x y : Operand) (ho : op.op = .store ty x y)
    (u v z : Value) (hx : a.eval x = .pointer (some ⟨G, i, none⟩)) (hy : a.eval y = .agg #[u, v, z]) (h1 : u.oneCell' = true) (h2 : v.oneCell' = true) (h3 : z.oneCell' = true) (hi : (P.info? ty).map (·.size) = some 3)
    (r0 : (w.cell? ⟨G, i, none⟩).isSome = true ∧ w.frozen? ⟨G, i, none⟩ = false) (r1 : (w.cell? ⟨G, i + 1, none⟩).isSome = true ∧ w.frozen? ⟨G, i + 1, none⟩ = false) (r2 : (w.cell? ⟨G, i + 2, none⟩).isSome = true ∧ w.frozen? ⟨G, i + 2, none⟩ = false)
    (h : ∀ W, W = (((w.setCell ⟨G, i, none⟩ u).setCell ⟨G, i + 1, none⟩ v).setCell ⟨G, i + 2, none⟩ z) → wpList P ops Q rest (a.put op.dst undef) W) : wpList P ops Q (op :: rest) a w :=
  wpList_store_mid hgd ty x y ho G i #[u, v, z] hx hy (fun j hj => by
    match j, hj with
    | 0, _ => exact r0
    | 1, _ => exact r1
    | 2, _ => exact r2
    | n + 3, hj => exact absurd hj (by simp)) (by rw [hi]; rfl) (by simp [h1, h2, h3]) (h _ rfl)
theorem below_three {w w' : World} {N G i j k : Nat} (h : Below N w w') (hG : N ≤ G) (a b c : Value) : Below N w (((w'.setCell ⟨G, i, none⟩ a).setCell ⟨G, j, none⟩ b).setCell ⟨G, k, none⟩ c) :=
  ((h.setCell (p := ⟨G, i, none⟩) hG a).setCell (p := ⟨G, j, none⟩) hG b).setCell (p := ⟨G, k, none⟩) hG c
theorem rMayT_any (t : Dt) (w : World) (h : t.Ok) : Calls Tryd.prog 5 #[.agg #[.bool t.g, .string t.s, .int .i64 t.x]] w fun e w' => e = .returned (.bool true) ∧ Below w.heap.size w w' := by
  obtain ⟨d, hd, rfl⟩ := Dt.dy h
  exact rMayT_ok d w hd
end Go.Proofs.YtkbjlijcnlkbgaaDoor
