/- Texts put together: Ev9c Ev10 Ev11 Sy EvT D6 P13 P17 P22 P23 D4 D8 DM D12 D15 D19 Fft B1t B2t Mtt B3t D20 B4t B5t B6t D60 D61 D23. -/
import Derived.Test.YtajcapliokblfaaGreatDoorU5
import Derived.Test.YtajcapliokblfaaGreatDoorRows
import Derived.LaidSub
import Derived.Lib.LaidTab
import Derived.Lib.TrailingZeros
import Derived.Test.YtajcapliokblfaaGreatDoorU4
import Derived.Test.YtajcapliokblfaaGreatDoorU3
import Derived.Test.YtajcapliokblfaaGreatDoorU1
import Derived.Test.YtajcapliokblfaaGreatDoorU2
import Derived.BigQuiet
import Derived.Deep.RegionLaw
import Ieee.Arith
import Derived.Test.YtajcapliokblfaaGreatDoorProg
import Derived.WalkKit
import Derived.WalkLawsBesides
import Derived.WalkSpells
import Derived.Outline
import Derived.Lib.Hide
import Derived.Deep.Light
import Derived.Laws.BitsAllLaws
import Derived.Laws.FloatArith
import Derived.Deep.QuietTactic
import Derived.Shelf.Strconv.Itoa0
import Derived.Laws.ShiftsVarLaws
import Derived.WalkSmall
set_option linter.unusedVariables false
set_option linter.unusedSectionVars false
set_option linter.unusedSimpArgs false
namespace Go.Proofs.YtajcapliokblfaaGreatDoor
open Go Go.RowKit
variable [Env] [Know]
/-- What stood where the region began stands yet, where no writer has come up. -/
def Stands (R0 : Rho) (s0 : AS) (w0 : World) (tf : List (Nat × Nat)) (L : Array Bool) (w : World) : Prop :=
  ∀ k b T B, look k s0.h = some B → (∀ j, (j, k) ∈ tf → L.getD j false = false) → R0 k b T → w.heap[b]? = w0.heap[b]?
theorem getD_set_f {L : Array Bool} {i j : Nat} (h : (L.setIfInBounds i true).getD j false = false) : L.getD j false = false := by
  cases hc : L.getD j false with
  | false => rfl
  | true => rw [getD_set_true hc] at h; cases h
theorem Stands.set {R0 : Rho} {s0 : AS} {w0 : World} {tf : List (Nat × Nat)} (L : Array Bool) (i : Nat) (w : World) (h : Stands R0 s0 w0 tf L w) : Stands R0 s0 w0 tf (L.setIfInBounds i true) w :=
  fun k b T B hk hn hr => h k b T B hk (fun j hj => getD_set_f (hn j hj)) hr
theorem Stands.unset {R0 : Rho} {s0 : AS} {w0 : World} {tf : List (Nat × Nat)} {i : Nat} (hi : ∀ p ∈ tf, p.1 ≠ i) (L : Array Bool) (w : World) (h : Stands R0 s0 w0 tf (L.setIfInBounds i true) w) : Stands R0 s0 w0 tf L w :=
  fun k b T B hk hn hr => h k b T B hk (fun j hj => by rw [getD_set_ne false (Ne.symm (hi _ hj))]; exact hn j hj) hr
def Live (s0 : AS) (tf : List (Nat × Nat)) (LP : Array Bool) (s : AS) : Prop :=
  ∀ k B, look k s0.h = some B → (∀ j, (j, k) ∈ tf → LP.getD j false = false) → look k s.h = look k s0.h
/-- A cell that was made ahead. -/
structure TkOk (P : Program) (ops : Array Oper) (fl : Nat → Bool) (w0 : World) (R : Rho) (w : World) (LP : Array Bool) (t : Tk) : Prop where
  isf : fl t.i = true
  un : LP.getD t.i true = false
  op : ∃ o inf z, ops[t.i]? = some o ∧ o.op = .alloc t.ty ∧ o.dst = some t.d ∧ P.info? t.ty = some inf ∧ inf.zero = some z ∧ t.C = z.cells
  blk : w.heap[t.b]? = some (.cells t.C t.ty (0, 0))
  new : w0.heap.size ≤ t.b
  no : ∀ k T', ¬ R k t.b T'
def Far (t u : Tk) : Prop := t.b ≠ u.b ∧ t.i ≠ u.i ∧ t.d ≠ u.d
theorem Far.symm {t u : Tk} (h : Far t u) : Far u t := ⟨h.1.symm, h.2.1.symm, h.2.2.symm⟩
theorem wpOp_load {P : Program} {ops : Array Oper} {Q : Exit → Act → World → Prop} {i : Nat} {o : Oper} {K : Act → World → Prop} {a : Act} {w : World} {x : Value} (hi : ops[i]? = some o) (hg : o.guard = none) {w' : World}
    (hr : (execOp a.eval o).run P w = .ok (.value x) w') (h : K (a.put o.dst x) w') : wpOp P ops Q i K a w := by
  unfold wpOp
  simp only [hi]
  rw [if_pos (by simp [Region.wanted, hg])]
  left
  unfold Oper.wp
  rw [hr]
  exact h
theorem noSel_of {ops : Array Oper} (hs : Region.noSelect ops = true) {i : Nat} {o : Oper} (hi : ops[i]? = some o) : ∀ cs b, o.op ≠ .select cs b := fun cs b => Region.noSelect_spec hs i o cs b hi
section
variable {P : Program} {ops : Array Oper} {fl : Nat → Bool} {w0 : World}
theorem TkOk.turn {R R' : Rho} {w w' : World} {LP LP' : Array Bool} {t : Tk} (h : TkOk P ops fl w0 R w LP t) (hun : LP'.getD t.i true = false) (hb : w'.heap[t.b]? = w.heap[t.b]?) (hno : ∀ k T', ¬ R' k t.b T') : TkOk P ops fl w0 R' w' LP' t :=
  ⟨h.isf, hun, h.op, hb.trans h.blk, h.new, hno⟩
theorem TkOk.lt {R : Rho} {w : World} {LP : Array Bool} {t : Tk} (h : TkOk P ops fl w0 R w LP t) : t.b < w.heap.size := by
  rcases Nat.lt_or_ge t.b w.heap.size with c | c
  · exact c
  · have := h.blk; rw [Array.getElem?_eq_none c] at this; cases this
set_option maxHeartbeats 3200000 in
theorem evalPlan_ok (hKn : KnowOk P) {call : CallE} (hcall : CallOk P call) {R0 : Rho} {s0 : AS} {floor base : Nat} (hns : Region.noSelect ops = true) {Q : Exit → Act → World → Prop} (hQ : ∀ c a w, ¬ Q (.panic c) a w)
    (hfl : FloOk P ops fl) {tf : List (Nat × Nat)} (hI0 : Inv R0 s0 w0 floor base) {a0 : Act} {f' : Fr} {s' : AS}
    (hK : ∀ R' a' w', Went R0 R' s0 s' w0 w' floor base → FRel R' f' a'.tmps → a'.defers = a0.defers → Q .normal a' w') :
    ∀ (N : Nat) (l : List Stp) {fuel : Nat} {LP : Array Bool} {T : List Tk} {R : Rho} {f : Fr} {s : AS} {aP : Act} {w : World} {kl tl : List (Nat × Nat)},
      fuel + l.length ≤ N → PlanOk ops fl l LP → evalPlan P call s0 floor ops l f s kl tl = some (f', s', tf) →
      Down ops (setT T LP) → cnt (setT T LP) ≤ fuel → (∀ t ∈ T, TkOk P ops fl w0 R w LP t) → T.Pairwise Far → Went R0 R s0 s w0 w floor base → FRel R f aP.tmps → aP.defers = a0.defers →
      Live s0 tf LP s → Stands R0 s0 w0 tf (setT T LP) w → (∀ p ∈ tl, LP.getD p.1 true = true) →
      wpAnyU P ops Q (Stands R0 s0 w0 tf) fuel (setT T LP) (putT T aP) w := by
  have hsel := Region.noSelect_spec hns
  intro N
  induction N with
  | zero =>
    intro l fuel LP T R f s aP w kl tl hN hp h hD hc hT hTp hG hf hd hL hS htl
    obtain rfl : fuel = 0 := by omega
    obtain rfl : l = [] := List.eq_nil_of_length_eq_zero (by omega)
    have hTn : T = [] := by
      cases T with
      | nil => rfl
      | cons t T =>
        exfalso
        have h1 := hT t List.mem_cons_self
        obtain ⟨o, ty, d, inf, z, g1, g2, g3, g4, g5, g6, g7, g8⟩ := hfl t.i h1.isf
        have : t.i ∈ Region.ready .any ops LP := mem_ready.2 ⟨h1.un, o, g1, fun e he hb => by rw [g7 e he] at hb; cases hb⟩
        rw [show Region.ready .any ops LP = [] from hp] at this
        cases this
    subst hTn
    have h' : some (f, s, tl) = some (f', s', tf) := h
    injection h' with h'
    injection h' with h1 h'
    injection h' with h2 h3
    subst h1 h2
    exact wpAnyU_done hp (hK R aP w hG hf hd) _
  | succ N ih =>
    intro l fuel LP T R f s aP w kl tl hN hp h hD hc hT hTp hG hf hd hL hS htl
    have hI := hG.inv
    have hTf : ∀ t ∈ T, fl t.i = true ∧ LP.getD t.i true = false := fun t ht => ⟨(hT t ht).isf, (hT t ht).un⟩
    have hTf2 : ∀ t ∈ T, fl t.i = true ∧ LP.getD t.i true = false ∧ ∃ o, ops[t.i]? = some o ∧ o.dst = some t.d := fun t ht =>
      let ⟨o, _, _, h1, _, h2, _⟩ := (hT t ht).op
      ⟨(hT t ht).isf, (hT t ht).un, o, h1, h2⟩
    have fuel_pos : ∀ {j}, j ∈ Region.ready .any ops (setT T LP) → ∃ n, fuel = n + 1 := fun {j} hj => by
      have := cnt_pos (mem_ready.1 hj).1
      exact ⟨fuel - 1, by omega⟩
    have cnt_next : ∀ {j n}, j ∈ Region.ready .any ops (setT T LP) → fuel = n + 1 → cnt ((setT T LP).setIfInBounds j true) ≤ n := fun {j n} hj hn => by
      have := cnt_set (mem_ready.1 hj).1
      omega
    -- a floating one is made now
    have float : ∀ m ∈ Region.ready .any ops (setT T LP), fl m = true → ∀ n, fuel = n + 1 →
        wpOp P ops Q m (fun a' w' => Stands R0 s0 w0 tf ((setT T LP).setIfInBounds m true) w' ∧ wpAnyU P ops Q (Stands R0 s0 w0 tf) n ((setT T LP).setIfInBounds m true) a' w') (putT T aP) w := by
      intro m hm hmf n hn
      obtain ⟨o, ty, d, inf, z, g1, g2, g3, g4, g5, g6, g7, g8⟩ := hfl m hmf
      obtain ⟨hun1, hun2⟩ := setT_un (mem_ready.1 hm).1
      let t : Tk := ⟨m, d, w.heap.size, ty, z.cells⟩
      let w1 : World := { w with heap := w.heap.push (.cells z.cells ty) }
      have hbl : Below w.heap.size w w1 := ⟨rfl, rfl, rfl, by show w.heap.size ≤ (w.heap.push _).size; simp, fun k hk => by show (w.heap.push _)[k]? = _; rw [Array.getElem?_push, if_neg (by omega)]⟩
      have hrun : (execOp (putT T aP).eval o).run P w = .ok (.value t.p) w1 := by
        obtain ⟨dst, op, type, pos, after, guard⟩ := o
        simp only at g2
        subst g2
        simp [execOp, Instr.alloc, zeroValue, typeInfo, g5, g6, newVar, newRow, t, Tk.p, w1]
      refine wpOp_load g1 g4 hrun ?_
      have hS1 : Stands R0 s0 w0 tf ((setT T LP).setIfInBounds m true) w1 := by
        refine Stands.set _ _ _ ?_
        intro k b T' B hk hn hr
        refine (hbl.block b ?_).trans (hS k b T' B hk hn hr)
        exact Nat.lt_of_lt_of_le (hI0.rel.dom hr).2 hG.below.size
      refine ⟨hS1, ?_⟩
      rw [g3]
      have hTnew : TkOk P ops fl w0 R w1 LP t := ⟨hmf, hun1, ⟨o, inf, z, g1, g2, g3, g5, g6, rfl⟩, by show (w.heap.push _)[w.heap.size]? = _; simp [t], hG.below.size, fun k T' r => by have := (hI.rel.dom r).2; exact absurd this (Nat.lt_irrefl _)⟩
      refine ih l (T := t :: T) (LP := LP) (R := R) (aP := aP) (by omega) hp h (hD.set hm) (cnt_next hm hn) ?_ ?_ ?_ hf hd hL hS1 htl
      · intro t' ht'
        rcases List.mem_cons.1 ht' with rfl | ht'
        · exact hTnew
        · exact (hT t' ht').turn (hT t' ht').un (hbl.block _ (hT t' ht').lt) (hT t' ht').no
      · refine List.pairwise_cons.2 ⟨fun u hu => ⟨?_, ?_, ?_⟩, hTp⟩
        · have := (hT u hu).lt
          show w.heap.size ≠ u.b
          omega
        · exact Ne.symm (hun2 u hu)
        · obtain ⟨ou, _, _, q1, _, q3, _⟩ := (hT u hu).op
          rcases g8 u.i ou q1 (hun2 u hu) with ⟨e, he, hb, hon⟩ | hap
          · obtain ⟨o2, ty2, d2, inf2, z2, k1, k2, k3, k4, k5, k6, k7, k8⟩ := hfl u.i (hT u hu).isf
            rw [q1] at k1
            injection k1 with k1
            subst k1
            rw [k7 e he] at hb
            cases hb
          · have := (Oper.apart_spec hap).2.1 d g3
            intro e
            exact this (by rw [q3]; exact congrArg some e.symm)
      · exact ⟨hG.ext, hG.old, hG.num, hG.keep, ⟨⟨hI.rel.fn, fun r => ⟨(hI.rel.dom r).1, Nat.lt_of_lt_of_le (hI.rel.dom r).2 hbl.size⟩, hI.rel.inj, fun hk => let ⟨b, T', r, q⟩ := hI.rel.blk hk; ⟨b, T', r, q.of_block (hbl.block b (hI.rel.dom r).2)⟩⟩, Nat.le_trans hI.hb hbl.size, hI.hf, hI.own, fun hg => hI.glo_below hg (hbl.mono hI.hb), hI.kgl⟩, hG.below.trans (hbl.mono hI.hb), hG.fresh, hG.more, fun hk r hn => let ⟨c1, c2⟩ := hG.wrote hk r hn; ⟨(hbl.block _ (Nat.lt_of_lt_of_le (hI0.rel.dom r).2 hG.below.size)).trans c1, c2⟩, fun b hb hn => (hbl.block b (Nat.lt_of_lt_of_le hb hG.below.size)).trans (hG.other b hb hn)⟩
    have setT_t : ∀ {L : Array Bool} {i : Nat}, (L.setIfInBounds i true).getD i true = true := fun {L i} => by
      rcases Nat.lt_or_ge i L.size with h' | h'
      · simp [Array.getD, h']
      · simp [Array.getD, Nat.not_lt.2 h']
    have keep_t : ∀ {L : Array Bool} {i j : Nat}, L.getD j true = true → (L.setIfInBounds i true).getD j true = true := fun {L i j} h => by
      by_cases e : i = j
      · subst e; exact setT_t
      · rw [getD_set_ne true e]; exact h
    have set_tf : ∀ {L : Array Bool} {i : Nat}, L.getD i true = false → (L.setIfInBounds i true).getD i false = true := fun {L i} h => by
      rcases Nat.lt_or_ge i L.size with h' | h'
      · simp [Array.getD, h']
      · simp [Array.getElem?_eq_none h'] at h
    -- on to the next step
    have cont : ∀ {i n : Nat} {r : List Stp} {o : Oper} {R1 : Rho} {f1 : Fr} {s1 : AS} {x : Value} {w1 : World} {kl1 tl1 : List (Nat × Nat)}, fuel = n + 1 → n + r.length ≤ N → PlanOk ops fl r (LP.setIfInBounds i true) → evalPlan P call s0 floor ops r f1 s1 kl1 tl1 = some (f', s', tf) → i ∈ Region.ready .any ops (setT T LP) → (∀ t ∈ T, t.i ≠ i) → (∀ t ∈ T, TkOk P ops fl w0 R1 w1 LP t) → Went R0 R1 s0 s1 w0 w1 floor base →
        FRel R1 f1 (aP.put o.dst x).tmps → Live s0 tf (LP.setIfInBounds i true) s1 → Stands R0 s0 w0 tf ((setT T LP).setIfInBounds i true) w1 → (∀ p ∈ tl1, (LP.setIfInBounds i true).getD p.1 true = true) →
        wpAnyU P ops Q (Stands R0 s0 w0 tf) n ((setT T LP).setIfInBounds i true) (putT T (aP.put o.dst x)) w1 := by
      intro i n r o R1 f1 s1 x w1 kl1 tl1 hn hN' hp' h' hi hne hT' hG' hf' hL' hS' htl'
      have hD' := hD.set hi
      have hc' := cnt_next hi hn
      rw [← setT_set] at hD' hc' hS' ⊢
      refine ih r hN' hp' h' hD' hc' (fun t ht => ?_) hTp hG' hf' (by rw [put_defers]; exact hd) hL' hS' htl'
      exact (hT' t ht).turn (by rw [getD_set_ne true (Ne.symm (hne t ht))]; exact (hT' t ht).un) rfl (hT' t ht).no
    cases l with
    | nil =>
      have hTn : T = [] := by
        cases T with
        | nil => rfl
        | cons t T =>
          exfalso
          have h1 := hT t List.mem_cons_self
          obtain ⟨o, ty, d, inf, z, g1, g2, g3, g4, g5, g6, g7, g8⟩ := hfl t.i h1.isf
          have : t.i ∈ Region.ready .any ops LP := mem_ready.2 ⟨h1.un, o, g1, fun e he hb => by rw [g7 e he] at hb; cases hb⟩
          rw [show Region.ready .any ops LP = [] from hp] at this
          cases this
      subst hTn
      have h' : some (f, s, tl) = some (f', s', tf) := h
      injection h' with h'
      injection h' with h1 h'
      injection h' with h2 h3
      subst h1 h2
      exact wpAnyU_done hp (hK R aP w hG hf hd) _
    | cons t l =>
      rw [evalPlan_cons] at h
      split at h
      case h_2 => cases h
      rename_i f1 s1 kl1 tl1 h1
      have hlen : fuel + (l.length + 1) ≤ N + 1 := hN
      cases t with
      | early i =>
        obtain ⟨p0, p1, p2, p3, p4⟩ := hp
        have hne : ∀ t ∈ T, t.i ≠ i := fun t ht e => by rw [← e, (hT t ht).isf] at p0; cases p0
        have hr := ready_setT p1 hne
        obtain ⟨n, rfl⟩ := fuel_pos hr
        obtain ⟨_, b2, _⟩ := evalPlan_lists l p4 h
        simp only [planOne] at h1
        split at h1
        · rename_i o ho
          have hap := apartT hfl ho p1 hTf2 hne
          have go : ∀ {v : AV} {x : Value}, VRel R v x → YieldsIf P ops (Si ops (Stands R0 s0 w0 tf) i) o x (putT T aP) → (putA f o.dst v, s, kl, tl) = (f1, s1, kl1, tl1) → wpAnyU P ops Q (Stands R0 s0 w0 tf) (n + 1) (setT T LP) (putT T aP) w := by
            intro v x hx hy he
            injection he with e1 he
            injection he with e2 he
            injection he with e3 e4
            subst e1 e2 e3 e4
            have hin2 : ∀ p ∈ tf, p.1 ≠ i := fun p hp e => by
              rcases b2 p hp with h2 | h2
              · have := htl p h2
                rw [e, (mem_ready.1 p1).1] at this
                cases this
              · rw [e, setT_t] at h2; cases h2
            refine wpAnyU_take hns (fun L i w h => Stands.set L i w h) hQ ho (free_setT p2) (Stands.unset hin2) hr hD hy hS ?_
            rw [← putT_put T aP o.dst x (fun t ht => (hap t ht).2)]
            exact cont rfl (by omega) p4 h hr hne hT hG (putA_ok hf o.dst hx) (fun k B hk hn => hL k B hk (fun j hj => getD_set_f (hn j hj))) (Stands.set _ _ _ hS) (fun p hp => keep_t (htl p hp))
          split at h1
          · rename_i hw
            have hw := wantA_ok hf hw
            split at h1
            · rename_i v hv
              obtain ⟨x, hx, hrun⟩ := evalWl_ok hKn hv hf
              exact go hx (.inl ⟨by rw [wanted_putT T aP hap]; exact hw, fun w' _ => by rw [execOp_putT (noSel_of hns ho) T aP hap]; exact hrun w'⟩) (Option.some.inj h1)
            · cases h1
          · rename_i hw
            have hw := wantA_ok hf hw
            exact go (VRel.lit_ undef) (.inr ⟨by rw [wanted_putT T aP hap]; exact hw, rfl⟩) (Option.some.inj h1)
          · cases h1
        · cases h1
      | held i =>
        obtain ⟨p0, p1, p2, p3, p4⟩ := hp
        have hne : ∀ t ∈ T, t.i ≠ i := fun t ht e => by rw [← e, (hT t ht).isf] at p0; cases p0
        have hr := ready_setT p1 hne
        obtain ⟨n, rfl⟩ := fuel_pos hr
        obtain ⟨_, b2, b3⟩ := evalPlan_lists l p4 h
        simp only [planOne] at h1
        split at h1
        · rename_i o ho
          have hap := apartT hfl ho p1 hTf2 hne
          have go : ∀ {v : AV} {x : Value}, VRel R v x → YieldsIf P ops (Si ops (Stands R0 s0 w0 tf) i) o x (putT T aP) → putA f o.dst v = f1 → s = s1 → tl = tl1 → wpAnyU P ops Q (Stands R0 s0 w0 tf) (n + 1) (setT T LP) (putT T aP) w := by
            intro v x hx hy e1 e2 e4
            subst e1 e2 e4
            have hin2 : ∀ p ∈ tf, p.1 ≠ i := fun p hp e => by
              rcases b2 p hp with h2 | h2
              · have := htl p h2
                rw [e, (mem_ready.1 p1).1] at this
                cases this
              · rw [e, setT_t] at h2; cases h2
            refine wpAnyU_take hns (fun L i w h => Stands.set L i w h) hQ ho (free_setT p2) (Stands.unset hin2) hr hD hy hS ?_
            rw [← putT_put T aP o.dst x (fun t ht => (hap t ht).2)]
            exact cont rfl (by omega) p4 h hr hne hT hG (putA_ok hf o.dst hx) (fun k B hk hn => hL k B hk (fun j hj => getD_set_f (hn j hj))) (Stands.set _ _ _ hS) (fun p hp => keep_t (htl p hp))
          split at h1
          · rename_i hw
            have hw := wantA_ok hf hw
            split at h1
            · rename_i v k hv
              split at h1
              · rename_i B0 hB0 htk
                have h1 := Option.some.inj h1
                injection h1 with e1 h1
                injection h1 with e2 h1
                injection h1 with e3 e4
                obtain ⟨x, b, T', B, hx, hB, hrb, hrun⟩ := load_mem (P := P) hI hf hv
                have hk0 : k < s0.n := by
                  obtain ⟨b', T', r', _⟩ := hI0.rel.blk hB0
                  exact (hI0.rel.dom r').1
                have hr0' := hG.old hrb hk0
                have good : ∀ {L : Array Bool} {w' : World}, Down ops L → L.getD i true = false → Stands R0 s0 w0 tf L w' → w'.heap[b]? = w0.heap[b]? := by
                  intro L w' hDL hiL hSL
                  refine hSL k b T' B0 hB0 (fun j hj => ?_) hr0'
                  rcases b3 (i, k) (by rw [← e3]; exact List.mem_cons_self) (j, k) hj rfl with h2 | h2
                  · rw [← e4] at h2
                    exact absurd rfl (hasK_false htk _ h2)
                  · cases hc : L.getD j false with
                    | false => rfl
                    | true =>
                      have := hDL.of_listed h2 hc
                      rw [getD_tf hiL] at this
                      cases this
                refine go hx (.inl ⟨by rw [wanted_putT T aP hap]; exact hw, fun w' hw' => ?_⟩) e1 e2 e4
                rw [execOp_putT (noSel_of hns ho) T aP hap]
                obtain ⟨L, hDL, hiL, hSL⟩ := hw'
                exact hrun w' ((good hDL hiL hSL).trans (good hD (mem_ready.1 hr).1 hS).symm)
              · cases h1
            · cases h1
          · rename_i hw
            have hw := wantA_ok hf hw
            have h1 := Option.some.inj h1
            injection h1 with e1 h1
            injection h1 with e2 h1
            injection h1 with e3 e4
            exact go (VRel.lit_ undef) (.inr ⟨by rw [wanted_putT T aP hap]; exact hw, rfl⟩) e1 e2 e4
          · cases h1
        · cases h1
      | solo i =>
        obtain ⟨p0, p1, p2, p3, p4⟩ := hp
        have hne : ∀ t ∈ T, t.i ≠ i := fun t ht e => by rw [← e, (hT t ht).isf] at p0; cases p0
        have hr := ready_setT p1 hne
        obtain ⟨n, rfl⟩ := fuel_pos hr
        obtain ⟨b1, b2, b3⟩ := evalPlan_lists l p4 h
        have hiu := (mem_ready.1 p1).1
        refine ⟨fun h0 => (by rw [h0] at hr; cases hr), fun m hm => ?_⟩
        cases hmf : fl m with
        | true => exact float m hm hmf n rfl
        | false =>
          have hmi : m = i := by
            rcases p2 m (noStray hD hiu hne p3 hTf hm) with e | e
            · exact e
            · rw [hmf] at e; cases e
          subst hmi
          simp only [planOne] at h1
          split at h1
          · rename_i o ho
            have hap := apartT hfl ho p1 hTf2 hne
            refine wpOp_putT hQ ho (noSel_of hns ho) T hap ?_
            unfold wpOp
            simp only [ho]
            split at h1
            · rename_i hw
              have hw := wantA_ok hf hw
              rw [if_pos hw]
              left
              split at h1
              · rename_i v s2 hv
                split at h1
                · have h1 := Option.some.inj h1
                  injection h1 with e1 h1
                  injection h1 with e2 h1
                  injection h1 with e3 e4
                  rw [appL_eq, mapL_eq] at e4
                  subst e1 e2
                  have htg : ∀ k, k ∈ s2.wr → (m, k) ∈ tf := fun k hk => b1 _ (by rw [← e4]; exact List.mem_append_left _ (List.mem_map.2 ⟨k, hk, rfl⟩))
                  have htl1 : ∀ p ∈ tl1, (LP.setIfInBounds m true).getD p.1 true = true := fun p hp => by
                    rw [← e4] at hp
                    rcases List.mem_append.1 hp with hp | hp
                    · obtain ⟨k', _, rfl⟩ := List.mem_map.1 hp
                      exact setT_t
                    · exact keep_t (htl p hp)
                  refine evalOp_ok hKn hcall (hI.wr_ []) hf hv fun R' x w' hx hg0 => ?_
                  have hg := hg0.merge
                  have hS' : Stands R0 s0 w0 tf ((setT T LP).setIfInBounds m true) w' := by
                    intro k b T' B hk hn hrb
                    have hk2 := hL k B hk (fun j hj => by
                      cases hc : LP.getD j false with
                      | false => rfl
                      | true =>
                        have := getD_set_f (hn j hj)
                        rw [setT_up hc] at this; cases this)
                    rw [hk] at hk2
                    have := (hg0.wrote hk2 (hG.ext _ _ _ hrb) (fun e => by
                      have h9 := hn m (htg k e)
                      rw [set_tf (mem_ready.1 hr).1] at h9; cases h9)).1
                    exact this.trans (hS k b T' B hk (fun j hj => getD_set_f (hn j hj)) hrb)
                  refine ⟨hS', ?_⟩
                  refine cont rfl (by omega) p4 h hr hne (fun t ht => ?_) (hG.trans hg) (putA_ok (hf.ext hg.ext) o.dst hx) (fun k B hk hn => ?_) hS' htl1
                  · have hno : ∀ k T', ¬ R' k t.b T' := fun k T' r => by
                      rcases hg.fresh r with ⟨k0, T0, r0⟩ | hb
                      · exact (hT t ht).no _ _ r0
                      · have := (hT t ht).lt; omega
                    exact (hT t ht).turn (hT t ht).un (hg.other t.b (hT t ht).lt hno) hno
                  · have hk2 := hL k B hk (fun j hj => getD_set_f (hn j hj))
                    have hk3 := hk2
                    rw [hk] at hk3
                    obtain ⟨b, T', r, _⟩ := hI.rel.blk hk3
                    exact ((hg0.wrote hk3 r (fun e => by
                      have h9 := hn m (htg k e)
                      rw [set_tf hiu] at h9; cases h9)).2).trans hk2
                · cases h1
              · cases h1
            · rename_i hw
              have hw := wantA_ok hf hw
              rw [if_neg (by simp [hw])]
              have h1 := Option.some.inj h1
              injection h1 with e1 h1
              injection h1 with e2 h1
              injection h1 with e3 e4
              subst e1 e2 e4
              exact ⟨Stands.set _ _ _ hS, cont rfl (by omega) p4 h hr hne hT hG (putA_ok hf o.dst (VRel.lit_ _)) (fun k B hk hn => hL k B hk (fun j hj => getD_set_f (hn j hj))) (Stands.set _ _ _ hS) (fun p hp => keep_t (htl p hp))⟩
            · cases h1
          · cases h1
      | flo i =>
        obtain ⟨p0, p1, p2, p3, p4⟩ := hp
        by_cases hin : ∃ t ∈ T, t.i = i
        · obtain ⟨t, ht, rfl⟩ := hin
          obtain ⟨T1, T2, rfl⟩ := List.append_of_mem ht
          have hpw := List.pairwise_append.1 hTp
          have hpw2 := List.pairwise_cons.1 hpw.2.1
          have hTt := hT t ht
          obtain ⟨o, inf, z, q1, q2, q3, q4, q5, q6⟩ := hTt.op
          have hfar : ∀ u ∈ T1 ++ T2, Far t u := fun u hu => by
            rcases List.mem_append.1 hu with hu | hu
            · exact (hpw.2.2 u hu t List.mem_cons_self).symm
            · exact hpw2.1 u hu
          have hsub : ∀ u ∈ T1 ++ T2, u ∈ T1 ++ t :: T2 := fun u hu => by
            rcases List.mem_append.1 hu with hu | hu
            · exact List.mem_append_left _ hu
            · exact List.mem_append_right _ (List.mem_cons_of_mem _ hu)
          simp only [planOne, q1, q2, q4, q5] at h1
          have h1 := Option.some.inj h1
          injection h1 with e1 h1
          injection h1 with e2 h1
          injection h1 with e3 e4
          subst e1 e2 e3 e4
          rw [setT_out] at hD hc hS ⊢
          rw [putT_out T1 aP (fun u hu => (hpw2.1 u hu).2.2)]
          have hnb := hTt.no
          have hC : t.C.toList.take (mapL AV.lit z.cells.toList).length = z.cells.toList := by rw [q6, mapL_eq, List.length_map, List.take_length]
          have hA := hI.adopt (B := mapL AV.lit z.cells.toList) hTt.blk (Nat.le_trans hI0.hb hTt.new) hnb (by rw [hC, mapL_eq]; exact VRels.lits_ _) (by rw [mapL_eq, q6]; simp) (fz0 _)
          refine ih l (LP := LP.setIfInBounds t.i true) (T := T1 ++ T2) (R := fun k b T' => R k b T' ∨ (k = s.n ∧ b = t.b ∧ T' = t.C.size)) (aP := aP.put (some t.d) t.p) (by omega) p4 h hD hc (fun u hu => ?_) ?_ ?_ ?_ (by rw [put_defers]; exact hd) ?_ hS (fun p hp => keep_t (htl p hp))
          · have hu' := hT u (hsub u hu)
            refine hu'.turn (by rw [getD_set_ne true (hfar u hu).2.1]; exact hu'.un) rfl (fun k T' r => ?_)
            rcases r with r | ⟨_, e, _⟩
            · exact hu'.no _ _ r
            · exact (hfar u hu).1 e.symm
          · exact List.pairwise_append.2 ⟨hpw.1, hpw2.2, fun x hx y hy => hpw.2.2 x hx y (List.mem_cons_of_mem _ hy)⟩
          · have hs0 := hG.num
            refine ⟨fun _ _ _ r => .inl (hG.ext _ _ _ r), fun r hk => ?_, by show s0.n ≤ s.n + 1; omega, fun k hk => ?_, hA, hG.below, fun r => ?_, hG.more, fun {k b T' B} hk r hn => ?_, fun b hb hn => hG.other b hb (fun k T' r => hn k T' (.inl r))⟩
            · rcases r with r | ⟨e, _, _⟩
              · exact hG.old r hk
              · omega
            · have := hI0.hf
              show look k ((s.n, _) :: s.h) = _
              rw [look_cons, if_neg (by show ¬ s.n = k; omega)]
              exact hG.keep k hk
            · rcases r with r | ⟨_, e, _⟩
              · exact hG.fresh r
              · exact .inr (by rw [e]; exact hTt.new)
            · obtain ⟨c1, c2⟩ := hG.wrote hk r hn
              have := (hI0.rel.dom r).1
              refine ⟨c1, ?_⟩
              show look k ((s.n, _) :: s.h) = _
              rw [look_cons, if_neg (by show ¬ s.n = k; omega)]
              exact c2
          · rw [q3]
            refine putA_ok (hf.ext (fun _ _ _ r => .inl r)) (some t.d) ?_
            unfold VRel
            exact ⟨t.b, t.C.size, .inr ⟨rfl, rfl, rfl⟩, rfl⟩
          · intro k B hk hn
            have hk1 : k < s0.n := by
              obtain ⟨b', T', r', _⟩ := hI0.rel.blk hk
              exact (hI0.rel.dom r').1
            have := hG.num
            show look k ((s.n, _) :: s.h) = _
            rw [look_cons, if_neg (by show ¬ s.n = k; omega)]
            exact hL k B hk (fun j hj => getD_set_f (hn j hj))
        · have hne : ∀ t ∈ T, t.i ≠ i := fun t ht e => hin ⟨t, ht, e⟩
          have hr := ready_setT p1 hne
          obtain ⟨n, rfl⟩ := fuel_pos hr
          refine ⟨fun h0 => (by rw [h0] at hr; cases hr), fun m hm => ?_⟩
          cases hmf : fl m with
          | true => exact float m hm hmf n rfl
          | false =>
            have := p2 m (noStray hD (mem_ready.1 p1).1 hne p3 hTf hm)
            rw [hmf] at this; cases this
      | pair i j =>
        obtain ⟨p0, p1, p2, p3, ⟨oa, ob, ha, hb, ga, gb, hap, hij⟩, p4⟩ := hp
        have hTn : T = [] := by
          cases T with
          | nil => rfl
          | cons t T => have := (hT t List.mem_cons_self).isf; rw [p0] at this; cases this
        subst hTn
        have hri : i ∈ Region.ready .any ops LP := by rw [p1]; simp
        have hrj : j ∈ Region.ready .any ops LP := by rw [p1]; simp
        have hrj2 : j ∈ Region.ready .any ops (LP.setIfInBounds i true) := by rw [p2]; simp
        have hri2 : i ∈ Region.ready .any ops (LP.setIfInBounds j true) := by rw [p3]; simp
        have c1 := cnt_set (mem_ready.1 hri).1
        have c2 := cnt_set (mem_ready.1 hrj2).1
        have hc' : cnt LP ≤ fuel := hc
        obtain ⟨n, rfl⟩ : ∃ n, fuel = n + 1 + 1 := ⟨fuel - 2, by omega⟩
        simp only [planOne, ha, hb] at h1
        split at h1
        · rename_i u k1 v k2 hu hv
          have h1 := Option.some.inj h1
          injection h1 with e1 h1
          injection h1 with e2 h1
          injection h1 with e3 e4
          subst e1 e2 e3 e4
          obtain ⟨x, _, _, _, hx, _, _, hrx⟩ := load_mem (P := P) hI hf hu
          obtain ⟨y, _, _, _, hy, _, _, hry⟩ := load_mem (P := P) hI hf hv
          obtain ⟨q1, q2, q3⟩ := Oper.apart_spec hap
          have hSi : Stands R0 s0 w0 tf (LP.setIfInBounds i true) w := Stands.set _ _ _ hS
          have hSj : Stands R0 s0 w0 tf (LP.setIfInBounds j true) w := Stands.set _ _ _ hS
          have hSij : Stands R0 s0 w0 tf ((LP.setIfInBounds i true).setIfInBounds j true) w := Stands.set _ _ _ hSi
          have rest : wpAnyU P ops Q (Stands R0 s0 w0 tf) n ((LP.setIfInBounds i true).setIfInBounds j true) ((aP.put oa.dst x).put ob.dst y) w :=
            ih l (T := []) (LP := (LP.setIfInBounds i true).setIfInBounds j true) (aP := (aP.put oa.dst x).put ob.dst y) (by omega) p4 h (Down.set (Down.set hD hri) hrj2) (by show cnt ((LP.setIfInBounds i true).setIfInBounds j true) ≤ n; omega) (fun t ht => by cases ht) .nil hG (putA_ok (putA_ok hf oa.dst hx) ob.dst hy) (by rw [put_defers, put_defers]; exact hd)
              (fun k B hk hn => hL k B hk (fun j' hj' => getD_set_f (getD_set_f (hn j' hj')))) hSij (fun p hp => keep_t (keep_t (htl p hp)))
          refine ⟨fun h0 => (by rw [show Region.ready .any ops LP = [] from h0] at hri; cases hri), fun m hm => ?_⟩
          have hm : m = i ∨ m = j := by rw [show Region.ready .any ops (setT [] LP) = [i, j] from p1] at hm; simpa using hm
          rcases hm with rfl | rfl
          · refine wpOp_load ha ga (hrx w rfl) ⟨hSi, ?_⟩
            refine ⟨fun h0 => (by rw [show Region.ready .any ops (LP.setIfInBounds m true) = [] from h0] at hrj2; cases hrj2), fun m' hm' => ?_⟩
            have hm' : m' = j := by rw [show Region.ready .any ops ((setT [] LP).setIfInBounds m true) = [j] from p2] at hm'; simpa using hm'
            subst hm'
            refine wpOp_load hb gb (w' := w) ?_ ⟨hSij, rest⟩
            show (execOp (aP.put oa.dst x).eval ob).run P w = _
            rw [execOp_put ob (noSel_of hns hb) aP oa.dst x q1]
            exact hry w rfl
          · refine wpOp_load hb gb (hry w rfl) ⟨hSj, ?_⟩
            refine ⟨fun h0 => (by rw [show Region.ready .any ops (LP.setIfInBounds m true) = [] from h0] at hri2; cases hri2), fun m' hm' => ?_⟩
            have hm' : m' = i := by rw [show Region.ready .any ops ((setT [] LP).setIfInBounds m true) = [i] from p3] at hm'; simpa using hm'
            subst hm'
            have hcomm : (setT [] LP).setIfInBounds m true = LP.setIfInBounds m true := rfl
            refine wpOp_load (x := x) ha ga (w' := w) ?_ ?_
            · show (execOp (aP.put ob.dst y).eval oa).run P w = _
              rw [execOp_put oa (noSel_of hns ha) aP ob.dst y q3]
              exact hrx w rfl
            · show Stands R0 s0 w0 tf ((LP.setIfInBounds m true).setIfInBounds m' true) w ∧ wpAnyU P ops Q (Stands R0 s0 w0 tf) n ((LP.setIfInBounds m true).setIfInBounds m' true) ((aP.put ob.dst y).put oa.dst x) w
              rw [Array.setIfInBounds_comm _ _ (Ne.symm hij), ← Act.put_comm aP x y q2]
              exact ⟨hSij, rest⟩
        · cases h1
end
end Go.Proofs.YtajcapliokblfaaGreatDoor
set_option linter.unusedVariables false
set_option linter.unusedSectionVars false
set_option linter.unusedSimpArgs false
namespace Go.Proofs.YtajcapliokblfaaGreatDoor
open Go Go.RowKit
variable [Env] [Know]
theorem readyL_eq (m : Nat) (l : List Rec) : readyL m l = l.filter (readyR m) := by
  induction l with
  | nil => rfl
  | cons r l ih =>
    show (Bool.rec (readyL m l) (r :: readyL m l) (readyR m r) : List Rec) = _
    rw [List.filter_cons, ih]
    cases readyR m r <;> rfl
theorem without_eq (i : Nat) (l : List Rec) : without i l = l.filter (fun r => !Nat.beq r.i i) := by
  induction l with
  | nil => rfl
  | cons r l ih =>
    show (Bool.rec (r :: without i l) (without i l) (Nat.beq r.i i) : List Rec) = _
    rw [List.filter_cons, ih]
    cases Nat.beq r.i i <;> rfl
theorem firstR_some {t : Oper → Bool} {m : Nat} {all : List Rec} {r : Rec} : ∀ {l : List Rec}, firstR t m all l = some r → r ∈ l ∧ t r.o = true ∧ readyR m r = true ∧ freeR all r = true
  | q :: l, h => by
    have h' : (Bool.rec (firstR t m all l) (some q) (t q.o && (readyR m q && freeR all q)) : Option Rec) = some r := h
    cases hb : (t q.o && (readyR m q && freeR all q)) with
    | true =>
      rw [hb] at h'
      injection h' with h'
      subst h'
      simp only [Bool.and_eq_true] at hb
      exact ⟨List.mem_cons_self, hb.1, hb.2.1, hb.2.2⟩
    | false =>
      rw [hb] at h'
      obtain ⟨h1, h2⟩ := firstR_some h'
      exact ⟨List.mem_cons_of_mem _ h1, h2⟩
theorem readyR_iff (m : Nat) (r : Rec) : readyR m r = true ↔ ∀ j, r.deps.testBit j = true → m.testBit j = true := by
  unfold readyR
  constructor
  · intro h j hj
    have h := Nat.eq_of_beq_eq_true h
    rw [← h, Nat.testBit_and] at hj
    simp only [Bool.and_eq_true] at hj
    exact hj.2
  · intro h
    have : r.deps &&& m = r.deps := by
      apply Nat.eq_of_testBit_eq
      intro j
      rw [Nat.testBit_and]
      cases hj : r.deps.testBit j with
      | false => rfl
      | true => rw [h j hj]; rfl
    rw [this]
    exact Nat.beq_refl _
theorem readyR_mono {m i : Nat} {r : Rec} (h : readyR m r = true) : readyR (m ||| 2 ^ i) r = true := by
  rw [readyR_iff] at h ⊢
  intro j hj
  rw [testBit_or_pow, h j hj]; rfl
/-- m tells what is listed, l what is not. -/
structure Corr (ops : Array Oper) (m : Nat) (l : List Rec) (listed : Array Bool) : Prop where
  size : listed.size = ops.size
  bit : ∀ i, i < ops.size → listed.getD i true = m.testBit i
  top : ∀ i, m.testBit i = true → i < ops.size
  rest : l = (allR ops).filter (fun r => !m.testBit r.i)
section
variable {ops : Array Oper} {m : Nat} {l : List Rec} {listed : Array Bool}
theorem Corr.getF (h : Corr ops m l listed) (i : Nat) : listed.getD i false = m.testBit i := by
  by_cases hi : i < ops.size
  · have h1 := h.bit i hi
    have h2 : i < listed.size := by rw [h.size]; exact hi
    simp [Array.getD, h2] at h1 ⊢
    exact h1
  · have h2 : ¬ i < listed.size := by rw [h.size]; exact hi
    have h3 : m.testBit i = false := by
      cases hb : m.testBit i with
      | false => rfl
      | true => exact absurd (h.top i hb) hi
    rw [h3]
    simp [Array.getD, h2]
theorem Corr.mem (h : Corr ops m l listed) {r : Rec} (hr : r ∈ l) : r ∈ allR ops ∧ m.testBit r.i = false := by
  rw [h.rest] at hr
  have := List.mem_filter.1 hr
  exact ⟨this.1, by simpa using this.2⟩
theorem Corr.ready_iff (h : Corr ops m l listed) {r : Rec} (hr : r ∈ allR ops) : (!listed.getD r.i true && ((ops[r.i]?).map (·.after.all fun e => !Region.binds .any e || listed.getD e.on false)).getD false) = (!m.testBit r.i && readyR m r) := by
  obtain ⟨h1, h2, h3⟩ := allR_mem hr
  have hi : r.i < ops.size := (Array.getElem?_eq_some_iff.1 h1).1
  rw [h.bit _ hi, h1, Option.map_some, Option.getD_some]
  congr 1
  rw [Bool.eq_iff_iff, readyR_iff, h2]
  simp only [Array.all_eq_true_iff_forall_mem, Bool.or_eq_true, Bool.not_eq_true', depM_bit]
  constructor
  · rintro ha j ⟨e, he, hb, rfl⟩
    rcases ha e he with h | h'
    · rw [hb] at h; cases h
    · rw [h.getF] at h'; exact h'
  · intro ha e he
    cases hb : Region.binds .any e with
    | false => exact .inl rfl
    | true => exact .inr (by rw [h.getF]; exact ha _ ⟨e, he, hb, rfl⟩)
theorem Corr.ready (h : Corr ops m l listed) : Region.ready .any ops listed = (l.filter (readyR m)).map (·.i) := by
  unfold Region.ready
  rw [← allR_map, List.filter_map, h.rest, List.filter_filter]
  congr 1
  apply List.filter_congr
  intro r hr
  have := h.ready_iff hr
  simp only [Function.comp]
  rw [this, Bool.and_comm]
theorem Corr.set (h : Corr ops m l listed) {r : Rec} (hr : r ∈ l) : Corr ops (m ||| 2 ^ r.i) (without r.i l) (listed.setIfInBounds r.i true) := by
  obtain ⟨h1, h2⟩ := h.mem hr
  have hi : r.i < ops.size := (Array.getElem?_eq_some_iff.1 (allR_mem h1).1).1
  refine ⟨by simp [h.size], fun i hi' => ?_, fun i hb => ?_, ?_⟩
  · rw [testBit_or_pow]
    by_cases he : r.i = i
    · subst he
      have : r.i < listed.size := by rw [h.size]; exact hi
      simp [Array.getD, this]
    · rw [← h.bit i hi']
      simp [Array.getD_eq_getD_getElem?, Array.getElem?_setIfInBounds_ne he, he]
  · rw [testBit_or_pow] at hb
    simp only [Bool.or_eq_true, decide_eq_true_eq] at hb
    rcases hb with hb | hb
    · exact h.top i hb
    · omega
  · rw [without_eq, h.rest, List.filter_filter]
    apply List.filter_congr
    intro q hq
    rw [testBit_or_pow, Bool.not_or, Bool.and_comm]
    congr 1
    cases hb : Nat.beq q.i r.i with
    | true => have := Nat.eq_of_beq_eq_true hb; simp [this]
    | false =>
      have := Nat.ne_of_beq_eq_false hb
      simp
      exact fun e => this e.symm
theorem apartR_ok {x y : Rec} (hx : x.looks = lookM ops x.o) (hy : y.looks = lookM ops y.o) (h : apartR x y = true) : x.o.apart ops y.o = true := by
  unfold apartR at h
  simp only [Bool.and_eq_true, Bool.not_eq_true'] at h
  obtain ⟨h1, h2, h3⟩ := h
  have nb : ∀ {d : Option Tmp} {o : Oper} {mm : Nat}, mm = lookM ops o → hitM d mm = false → ∀ t, d = some t → (o.looksAt ops).contains t = false := by
    intro d o mm e hh t ht
    subst e ht
    simp only [hitM] at hh
    cases hc : (o.looksAt ops).contains t with
    | false => rfl
    | true =>
      rw [(lookM_bit ops o t).2 (by simpa using hc)] at hh
      cases hh
  unfold Oper.apart
  have e1 : ∀ t, x.o.dst = some t → ((y.o.looksAt ops).contains t = false ∧ y.o.dst ≠ some t) := by
    intro t ht
    refine ⟨nb hy h1 t ht, fun e => ?_⟩
    rw [ht, e] at h2
    simp only [sameD] at h2
    exact absurd rfl (Nat.ne_of_beq_eq_false h2)
  have e2 := nb hx h3
  cases hxd : x.o.dst with
  | none =>
    cases hyd : y.o.dst with
    | none => rfl
    | some t =>
      have h5 := e2 t hyd
      show (true && !(x.o.looksAt ops).contains t) = true
      rw [h5]; rfl
  | some t =>
    obtain ⟨a1, a2⟩ := e1 t hxd
    cases hyd : y.o.dst with
    | none =>
      show ((!(y.o.looksAt ops).contains t && (none != some t)) && true) = true
      rw [a1]; rfl
    | some u =>
      have hut : (some u != some t) = true := by
        have : ¬ u = t := fun e => a2 (by rw [hyd, e])
        simp [this]
      have h5 := e2 u hyd
      show ((!(y.o.looksAt ops).contains t && (some u != some t)) && !(x.o.looksAt ops).contains u) = true
      rw [a1, h5, hut]; rfl
theorem Corr.free (h : Corr ops m l listed) {r : Rec} (hr : r ∈ l) (hf : freeR l r = true) : Region.free .any ops listed r.i = true := by
  obtain ⟨h1, _⟩ := h.mem hr
  obtain ⟨g1, g2, g3⟩ := allR_mem h1
  unfold freeR at hf
  rw [allL_eq, List.all_eq_true] at hf
  unfold Region.free
  simp only [g1, List.all_eq_true, List.mem_range]
  intro j hj
  obtain ⟨q, hq, rfl⟩ := allR_ex hj
  obtain ⟨k1, k2, k3⟩ := allR_mem hq
  rw [k1]
  by_cases hij : q.i = r.i
  · simp [hij]
  rw [h.bit _ hj]
  cases hb : m.testBit q.i with
  | true => simp
  | false =>
    have hql : q ∈ l := by rw [h.rest]; exact List.mem_filter.2 ⟨hq, by simp [hb]⟩
    have := hf q hql
    simp only [Bool.or_eq_true] at this
    rcases this with h' | h' | h'
    · exact absurd (Nat.eq_of_beq_eq_true h') hij
    · rw [k2, depM_bit] at h'
      obtain ⟨e, he, hb2, hon⟩ := h'
      simp only [Bool.or_eq_true]
      right; left
      rw [Array.any_eq_true']
      exact ⟨e, he, by simp [hb2, hon]⟩
    · simp only [Bool.or_eq_true]
      right; right
      exact apartR_ok g3 k3 h'
theorem Corr.mem_ready (h : Corr ops m l listed) {r : Rec} (hr : r ∈ l) (hf : readyR m r = true) : r.i ∈ Region.ready .any ops listed := by
  rw [h.ready]
  exact List.mem_map.2 ⟨r, List.mem_filter.2 ⟨hr, hf⟩, rfl⟩
theorem plain_eq (fs : Nat) (l : List Rec) : plain fs l = l.filter (fun r => !fs.testBit r.i) := by
  induction l with
  | nil => rfl
  | cons r l ih =>
    show (Bool.rec (r :: plain fs l) (plain fs l) (fs.testBit r.i) : List Rec) = _
    rw [List.filter_cons, ih]
    cases fs.testBit r.i <;> rfl
theorem pendM_bit {fs i x : Nat} {q : Rec} : ∀ {l : List Rec}, q ∈ l → q.i = x → fs.testBit x = true → x ≠ i → (pendM fs i l).testBit x = true
  | r :: l, hq, hx, hf, hn => by
    show (Bool.rec (pendM fs i l) (pendM fs i l ||| 2 ^ r.i) (fs.testBit r.i && !Nat.beq r.i i) : Nat).testBit x = true
    rcases List.mem_cons.1 hq with rfl | hq
    · have hb : (fs.testBit q.i && !Nat.beq q.i i) = true := by
        rw [hx, hf]
        cases hc : Nat.beq x i with
        | false => rfl
        | true => exact absurd (Nat.eq_of_beq_eq_true hc) hn
      rw [hb]
      show (pendM fs i l ||| 2 ^ q.i).testBit x = true
      rw [testBit_or_pow, hx]; simp
    · have ih := pendM_bit (l := l) hq hx hf hn
      cases (fs.testBit r.i && !Nat.beq r.i i) with
      | false => exact ih
      | true =>
        show (pendM fs i l ||| 2 ^ r.i).testBit x = true
        rw [testBit_or_pow, ih]; rfl
theorem Corr.un_mem (h : Corr ops m l listed) {i : Nat} (hi : listed.getD i true = false) : ∃ r ∈ l, r.i = i := by
  have hs : i < ops.size := by
    rw [← h.size]
    rcases Nat.lt_or_ge i listed.size with h' | h'
    · exact h'
    · simp [Array.getElem?_eq_none h'] at hi
  obtain ⟨r, hr, e⟩ := allR_ex hs
  refine ⟨r, ?_, e⟩
  rw [h.rest]
  refine List.mem_filter.2 ⟨hr, ?_⟩
  rw [e, ← h.bit i hs, hi]; rfl
theorem Corr.wt (h : Corr ops m l listed) {fs r : Nat} (hw : wtB fs (allR ops) l r = true) : Wt ops (fun i => fs.testBit i) listed r := by
  intro i hf hne hun j oj hoj hjun ⟨e, he, hb, hon⟩
  have hf : fs.testBit i = true := hf
  unfold wtB at hw
  rw [Bool.or_eq_true, allL_eq, List.all_eq_true] at hw
  rcases hw with hw | hw
  · have := Nat.eq_of_beq_eq_true hw
    subst this
    simp at hf
  · obtain ⟨ri, hri, hrie⟩ := h.un_mem hun
    obtain ⟨q, hq, hqe⟩ := h.un_mem hjun
    obtain ⟨g1, g2, _⟩ := allR_mem (h.mem hq).1
    subst hqe
    rw [hoj] at g1
    injection g1 with g1
    have hd : q.deps.testBit i = true := by
      rw [g2, depM_bit, ← g1]
      exact ⟨e, he, hb, hon⟩
    have h2 := hw q hq
    rw [Bool.or_eq_true] at h2
    rcases h2 with h2 | h2
    · exfalso
      have := Nat.eq_of_beq_eq_true h2
      have h3 : (q.deps &&& pendM fs r l).testBit i = true := by
        rw [Nat.testBit_and, hd, pendM_bit hri hrie hf hne]; rfl
      rw [this] at h3
      simp at h3
    · exact waitsR_ok (by rw [hoj, g1]) g2 h2
theorem planGo_ok {fs : Nat} : ∀ (n : Nat) {m : Nat} {l : List Rec} {listed : Array Bool} {pl : List Stp}, Corr ops m l listed → planGo fs (allR ops) n m l = some pl → PlanOk ops (fun i => fs.testBit i) pl listed
  | n, m, l, listed, pl, hc, h => by
    have hrdy : ∀ {j}, j ∈ Region.ready .any ops listed → ∃ r ∈ l.filter (readyR m), r.i = j := fun {j} hj => by
      rw [hc.ready] at hj
      obtain ⟨r, h1, h2⟩ := List.mem_map.1 hj
      exact ⟨r, h1, h2⟩
    cases n with
    | zero =>
      unfold planGo at h
      split at h
      · rename_i hl
        injection h with h
        subst h
        rw [readyL_eq] at hl
        show Region.ready .any ops listed = []
        rw [hc.ready, hl]; rfl
      · cases h
    | succ n =>
      unfold planGo at h
      split at h
      · rename_i r hr
        obtain ⟨a1, a2, a3, a4⟩ := firstR_some hr
        split at h
        · rename_i p hf hp
          injection h with h
          subst h
          exact ⟨hf, hc.mem_ready a1 a3, hc.free a1 a4, trivial, planGo_ok n (hc.set a1) hp⟩
        · cases h
      · split at h
        · rename_i hpl
          rw [plain_eq, readyL_eq] at hpl
          have hallf : ∀ r ∈ l.filter (readyR m), fs.testBit r.i = true := fun r hr => by
            cases hb : fs.testBit r.i with
            | true => rfl
            | false =>
              have : r ∈ (l.filter (readyR m)).filter (fun r => !fs.testBit r.i) := List.mem_filter.2 ⟨hr, by rw [hb]; rfl⟩
              rw [hpl] at this; cases this
          split at h
          · rename_i hl
            injection h with h
            subst h
            rw [readyL_eq] at hl
            show Region.ready .any ops listed = []
            rw [hc.ready, hl]; rfl
          · rename_i r more hl
            rw [readyL_eq] at hl
            have hrl : r ∈ l.filter (readyR m) := by rw [hl]; exact List.mem_cons_self
            have hrl' := List.mem_filter.1 hrl
            split at h
            · rename_i p hw hp
              injection h with h
              subst h
              refine ⟨hallf r hrl, hc.mem_ready hrl'.1 hrl'.2, fun j hj => ?_, hc.wt hw, planGo_ok n (hc.set hrl'.1) hp⟩
              obtain ⟨q, hq, rfl⟩ := hrdy hj
              exact hallf q hq
            · cases h
        · rename_i r hpl
          rw [plain_eq, readyL_eq] at hpl
          have hrl : r ∈ (l.filter (readyR m)).filter (fun r => !fs.testBit r.i) := by rw [hpl]; exact List.mem_singleton_self r
          have hrl1 := List.mem_filter.1 hrl
          have hrl' := List.mem_filter.1 hrl1.1
          have hrf : fs.testBit r.i = false := by simpa using hrl1.2
          split at h
          · rename_i hw
            split at h
            · rename_i p hp
              injection h with h
              subst h
              refine ⟨hrf, hc.mem_ready hrl'.1 hrl'.2, fun j hj => ?_, hc.wt hw, planGo_ok n (hc.set hrl'.1) hp⟩
              obtain ⟨q, hq, rfl⟩ := hrdy hj
              cases hb : fs.testBit q.i with
              | true => exact .inr hb
              | false =>
                have : q ∈ (l.filter (readyR m)).filter (fun r => !fs.testBit r.i) := List.mem_filter.2 ⟨hq, by rw [hb]; rfl⟩
                rw [hpl] at this
                rw [List.mem_singleton.1 this]; exact .inl rfl
            · cases h
          · split at h
            · cases h
            · rename_i r2 hr2
              obtain ⟨a1, a2, a3, a4⟩ := firstR_some hr2
              split at h
              · rename_i p hf hp
                injection h with h
                subst h
                exact ⟨hf, hc.mem_ready a1 a3, hc.free a1 a4, trivial, planGo_ok n (hc.set a1) hp⟩
              · cases h
        · rename_i a b more hpl
          split at h
          · cases h
          · rename_i r hr
            obtain ⟨a1, a2, a3, a4⟩ := firstR_some hr
            split at h
            · rename_i n hpr
              rw [Bool.and_eq_true] at hpr
              obtain ⟨hfs, hpr⟩ := hpr
              have hfs := Nat.eq_of_beq_eq_true hfs
              subst hfs
              have hl : l.filter (readyR m) = [a, b] := by
                rw [plain_eq, readyL_eq] at hpl
                rw [← hpl]
                exact (List.filter_eq_self.2 (fun r _ => by simp)).symm
              have hal : a ∈ l.filter (readyR m) := by rw [hl]; simp
              have hbl : b ∈ l.filter (readyR m) := by rw [hl]; simp
              have ha := List.mem_filter.1 hal
              have hb := List.mem_filter.1 hbl
              unfold pairR at hpr
              simp only [Bool.and_eq_true, allL_eq, List.all_eq_true, Bool.or_eq_true, Bool.not_eq_true'] at hpr
              obtain ⟨⟨⟨⟨⟨p1, p2⟩, p3⟩, p4⟩, p5⟩, p6⟩ := hpr
              have hnd : ((l.filter (readyR m)).map (·.i)).Nodup := by
                rw [hc.rest, List.filter_filter]
                refine List.Nodup.sublist (List.Sublist.map _ List.filter_sublist) ?_
                rw [allR_map]
                exact List.nodup_range
              rw [hl] at hnd
              have hab : a.i ≠ b.i := by simpa using hnd
              have hba : Nat.beq b.i a.i = false := by
                cases hq : Nat.beq b.i a.i with
                | false => rfl
                | true => exact absurd (Nat.eq_of_beq_eq_true hq).symm hab
              have hba' : Nat.beq a.i b.i = false := by
                cases hq : Nat.beq a.i b.i with
                | false => rfl
                | true => exact absurd (Nat.eq_of_beq_eq_true hq) hab
              have haA := (hc.mem ha.1).1
              have hbA := (hc.mem hb.1).1
              have only : ∀ (x y : Rec), x ∈ l → y ∈ l → readyR m y = true → (∀ q ∈ l, readyR (m ||| 2 ^ x.i) q = true → q.i = x.i ∨ q.i = y.i) → (without x.i l).filter (readyR (m ||| 2 ^ x.i)) = (l.filter (readyR m)).filter (fun r => !Nat.beq r.i x.i) := by
                intro x y hx hy hry hq
                rw [without_eq, List.filter_filter, List.filter_filter]
                apply List.filter_congr
                intro q hql
                rw [Bool.and_comm]
                cases hqx : Nat.beq q.i x.i with
                | true => simp
                | false =>
                  simp only [Bool.not_false, Bool.true_and]
                  rw [Bool.eq_iff_iff]
                  constructor
                  · intro hqr
                    rcases hq q hql hqr with e | e
                    · exact absurd e (Nat.ne_of_beq_eq_false hqx)
                    · have : q = y := allR_inj (hc.mem hql).1 (hc.mem hy).1 e
                      rw [this]; exact hry
                  · exact readyR_mono
              have o1 := only a b ha.1 hb.1 hb.2 (fun q hql hqr => by
                rcases p6 q hql with e | e | ⟨e, _⟩
                · exact .inl (Nat.eq_of_beq_eq_true e)
                · exact .inr (Nat.eq_of_beq_eq_true e)
                · rw [hqr] at e; cases e)
              have o2 := only b a hb.1 ha.1 ha.2 (fun q hql hqr => by
                rcases p6 q hql with e | e | ⟨_, e⟩
                · exact .inr (Nat.eq_of_beq_eq_true e)
                · exact .inl (Nat.eq_of_beq_eq_true e)
                · rw [hqr] at e; cases e)
              rw [hl] at o1 o2
              simp only [List.filter_cons, Nat.beq_refl, hba, hba', Bool.not_true, Bool.not_false, List.filter_nil, if_true] at o1 o2
              simp only [Bool.false_eq_true, if_false] at o1 o2
              have hbw : b ∈ without a.i l := by
                rw [without_eq]; exact List.mem_filter.2 ⟨hb.1, by rw [hba]; rfl⟩
              split at h
              · rename_i p hp
                injection h with h
                subst h
                have q1 := planGo_ok n ((hc.set ha.1).set hbw) hp
                exact ⟨fun x => by simp, by rw [hc.ready, hl]; rfl, by rw [(hc.set ha.1).ready, o1]; rfl, by rw [(hc.set hb.1).ready, o2]; rfl, ⟨a.o, b.o, (allR_mem haA).1, (allR_mem hbA).1, by simpa using p3, by simpa using p4, apartR_ok (allR_mem haA).2.2 (allR_mem hbA).2.2 p5, hab⟩, q1⟩
              · cases h
            · split at h
              · rename_i p hf hp
                injection h with h
                subst h
                exact ⟨hf, hc.mem_ready a1 a3, hc.free a1 a4, trivial, planGo_ok _ (hc.set a1) hp⟩
              · cases h
theorem floM_bit {all : List Rec} {x : Nat} : ∀ {l : List Rec}, (floM all l).testBit x = true → ∃ r ∈ l, r.i = x ∧ floR all r = true
  | [], h => by
    have h' : (0 : Nat).testBit x = true := h
    simp at h'
  | r :: l, h => by
    have h' : (Bool.rec (floM all l) (floM all l ||| 2 ^ r.i) (floR all r) : Nat).testBit x = true := h
    cases hb : floR all r with
    | false =>
      rw [hb] at h'
      obtain ⟨q, hq, h1⟩ := floM_bit h'
      exact ⟨q, List.mem_cons_of_mem _ hq, h1⟩
    | true =>
      rw [hb] at h'
      have h' : (floM all l ||| 2 ^ r.i).testBit x = true := h'
      rw [testBit_or_pow, Bool.or_eq_true, decide_eq_true_iff] at h'
      rcases h' with h' | h'
      · obtain ⟨q, hq, h1⟩ := floM_bit h'
        exact ⟨q, List.mem_cons_of_mem _ hq, h1⟩
      · exact ⟨r, List.mem_cons_self, h', hb⟩
theorem flo_ok {P : Program} (hz : allL (zeroB P) ops.toList = true) : FloOk P ops (fun i => (floM (allR ops) (allR ops)).testBit i) := by
  intro i hi
  obtain ⟨r, hr, rfl, hf⟩ := floM_bit hi
  obtain ⟨g1, g2, g3⟩ := allR_mem hr
  unfold floR at hf
  simp only [Bool.and_eq_true] at hf
  obtain ⟨f1, f2, f3⟩ := hf
  have f2 := Nat.eq_of_beq_eq_true f2
  have hzr : zeroB P r.o = true := by
    rw [allL_eq, List.all_eq_true] at hz
    exact hz r.o (by simpa using Array.mem_of_getElem? g1)
  obtain ⟨ty, d, h1, h2, h3⟩ : ∃ ty d, r.o.op = .alloc ty ∧ r.o.dst = some d ∧ r.o.guard = none := by
    unfold isAlloc at f1
    split at f1
    · rename_i ty d e1 e2 e3
      exact ⟨ty, d, e1, e3, e2⟩
    · cases f1
  unfold zeroB at hzr
  rw [h1] at hzr
  simp only at hzr
  split at hzr
  · rename_i inf hinf
    obtain ⟨z, hzz⟩ := Option.isSome_iff_exists.1 hzr
    refine ⟨r.o, ty, d, inf, z, g1, h1, h2, h3, hinf, hzz, fun e he => ?_, fun j oj hj hne => ?_⟩
    · cases hb : Region.binds .any e with
      | false => rfl
      | true =>
        have := (depM_bit r.o e.on).2 ⟨e, he, hb, rfl⟩
        rw [← g2, f2] at this
        simp at this
    · unfold freeR at f3
      rw [allL_eq, List.all_eq_true] at f3
      have hjs : j < ops.size := (Array.getElem?_eq_some_iff.1 hj).1
      obtain ⟨q, hq, rfl⟩ := allR_ex hjs
      obtain ⟨k1, k2, k3⟩ := allR_mem hq
      rw [hj] at k1
      injection k1 with k1
      subst k1
      have := f3 q hq
      simp only [Bool.or_eq_true] at this
      rcases this with h' | h' | h'
      · exact absurd (Nat.eq_of_beq_eq_true h') hne
      · rw [k2, depM_bit] at h'
        exact .inl h'
      · exact .inr (apartR_ok g3 k3 h')
  · cases hzr
theorem plan_ok {pl : List Stp} {fs : Nat} (h : plan ops = some (fs, pl)) : Region.noSelect ops = true ∧ PlanOk ops (fun i => fs.testBit i) pl (Array.replicate ops.size false) ∧ (fs = 0 ∨ fs = floM (allR ops) (allR ops)) := by
  have h0 : Corr ops 0 (allR ops) (Array.replicate ops.size false) := ⟨by simp, fun i hi => by simp [Array.getD, hi], fun i hi => by simp at hi, by
    rw [List.filter_eq_self.2]
    intro r _
    simp⟩
  unfold plan at h
  split at h
  · rename_i hs
    unfold planW at h
    split at h
    · rename_i p hp
      injection h with h
      injection h with h1 h2
      subst h1 h2
      exact ⟨hs, planGo_ok _ h0 hp, .inl rfl⟩
    · split at h
      · rename_i p hp
        injection h with h
        injection h with h1 h2
        subst h1 h2
        exact ⟨hs, planGo_ok _ h0 hp, .inr rfl⟩
      · cases h
  · cases h
end
end Go.Proofs.YtajcapliokblfaaGreatDoor
set_option linter.unusedVariables false
set_option linter.unusedSectionVars false
set_option linter.unusedSimpArgs false
namespace Go.Proofs.YtajcapliokblfaaGreatDoor
open Go Go.RowKit
section
variable [Env] [Know]
variable {P : Program} {R : Rho}
theorem Inv.drawn {s : AS} {w : World} {fl b : Nat} (h : Inv R s w fl b) (n : Nat) : Inv R s { w with drawn := n } fl b := h.same rfl
theorem Went.drawn {R' : Rho} {s s' : AS} {w w' : World} {fl b n : Nat} (h : Went R R' s s' { w with drawn := n } w' fl b) : Went R R' s s' w w' fl b :=
  ⟨h.ext, h.old, h.num, h.keep, h.inv, ⟨h.below.os, h.below.tape, h.below.output, h.below.size, h.below.block⟩, h.fresh, h.more, h.wrote, h.other⟩
theorem evalRegion_ok (hK : KnowOk P) {call : CallE} (hcall : CallOk P call) (hm : P.follows .mixedOrders = true) {floor base : Nat} {id : Nat} {ops : Array Oper} {draw : Bool} {f f' : Fr} {s s' : AS} (h : evalRegion P call floor ops draw f s = some (f', s'))
    {w : World} {a : Act} (hI : Inv R s w floor base) (hf : FRel R f a.tmps) {Q : Exit → Act → World → Prop} (hQ : ∀ R' a' w', Went R R' s s' w w' floor base → FRel R' f' a'.tmps → a'.defers = a.defers → Q .normal a' w') :
    (Code.region id ops draw).wp P Q a w := by
  unfold evalRegion at h
  split at h
  · exact wp_region_list (evalSeq_ok hK hcall ops.toList h hI hf hQ)
  · split at h
    · rename_i fs pl hpl
      split at h
      · rename_i hz
        split at h
        · rename_i f1 s1 tf he
          injection h with h
          injection h with h1 h2
          subst h1 h2
          obtain ⟨hns, hp, hfs⟩ := plan_ok hpl
          have hfl : FloOk P ops (fun i => fs.testBit i) := by
            rcases hfs with rfl | rfl
            · intro i hi; simp at hi
            · rw [Bool.or_eq_true] at hz
              rcases hz with hz | hz
              · rw [Nat.eq_of_beq_eq_true hz]; intro i hi; simp at hi
              · exact flo_ok hz
          let Q0 : Exit → Act → World → Prop := fun e a' w' => e = .normal ∧ Q .normal a' w'
          refine wp_mono (Q := Q0) ?_ (fun e a' w' hq => by obtain ⟨rfl, hq⟩ := hq; exact hq)
          refine wp_region_any hm (wpAny_of_U (S := Stands R s { w with drawn := w.drawn + 1 } tf) _ ?_)
          have hI1 := hI.drawn (w.drawn + 1)
          have hdown : Down ops (Array.replicate ops.size false) := fun j o ho hj => by
            have hjs : j < ops.size := (Array.getElem?_eq_some_iff.1 ho).1
            simp [hjs] at hj
          exact evalPlan_ok (Q := Q0) hK hcall hns (fun c a w h => by cases h.1) hfl hI1 (a0 := a) (fun R' a' w' hg hf2 hd => ⟨rfl, hQ R' a' w' hg.drawn hf2 hd⟩) _ pl (T := []) (Nat.le_refl _) hp he
            hdown (by show (Array.replicate ops.size false).toList.count false ≤ ops.size; rw [Array.toList_replicate, List.count_replicate]; simp) (fun t ht => by cases ht) .nil (Went.refl hI1) hf rfl (fun _ _ _ _ => rfl) (fun _ _ _ _ _ _ _ => rfl) (fun p hp => by cases hp)
        · cases h
      · cases h
    · cases h
def AX.out : AX → Exit
  | .normal => .normal
  | .exit id => .exit id
  | .goto l => .goto l
  | .ret => .ret
def FinE (R : Rho) (s : AS) (w : World) (a : Act) (floor base : Nat) (x : AX) (f' : Fr) (s' : AS) (e : Exit) (a' : Act) (w' : World) : Prop :=
  e = x.out ∧ ∃ R', Went R R' s s' w w' floor base ∧ FRel R' f' a'.tmps ∧ a'.defers = a.defers
def CodeOk (P : Program) (code : CodeE) : Prop := ∀ {floor : Nat} {c : Code} {f : Fr} {s : AS} {x : AX} {f' : Fr} {s' : AS}, code floor c f s = some (x, f', s') →
  ∀ {R : Rho} {w : World} {base : Nat} {a : Act}, Inv R s w floor base → FRel R f a.tmps → c.wp P (FinE R s w a floor base x f' s') a w
def LoopOk (P : Program) (code : CodeE) : Prop := ∀ {floor : Nat} {c : Code} {f : Fr} {s : AS} {x : AX} {f' : Fr} {s' : AS}, code floor c f s = some (x, f', s') →
  ∀ {R : Rho} {w : World} {base : Nat} {a : Act}, Inv R s w floor base → FRel R f a.tmps → ∀ (b : Frame) (k : List Item) (cs : List Frame),
    ∃ e a' w', FinE R s w a floor base x f' s' e a' w' ∧ Arrives P (lone (b.at a (.code c :: .inLoop c :: k)) cs w) b k cs e a' w'
def ScopeOk (P : Program) (code : Nat → Code → Code → Fr → AS → Option (AX × Fr × AS)) : Prop := ∀ {floor : Nat} {c cur : Code} {f : Fr} {s : AS} {x : AX} {f' : Fr} {s' : AS}, code floor c cur f s = some (x, f', s') →
  ∀ {R : Rho} {w : World} {base : Nat} {a : Act}, Inv R s w floor base → FRel R f a.tmps → ∀ (b : Frame) (k : List Item) (cs : List Frame),
    ∃ e a' w', FinE R s w a floor base x f' s' e a' w' ∧ Arrives P (lone (b.at a (.code cur :: .inScope c :: k)) cs w) b k cs e a' w'
structure EvOk (P : Program) (E : Ev) : Prop where
  code : CodeOk P E.code
  loop : LoopOk P E.loop
  scope : ScopeOk P E.scope
  call : CallOk P E.call
theorem FinE.trans {R R1 : Rho} {s s1 s2 : AS} {w w1 : World} {a a1 : Act} {fl b : Nat} {x : AX} {f2 : Fr} {e : Exit} {a' : Act} {w' : World} (h : Went R R1 s s1 w w1 fl b) (hd : a1.defers = a.defers) (h2 : FinE R1 s1 w1 a1 fl b x f2 s2 e a' w') :
    FinE R s w a fl b x f2 s2 e a' w' :=
  let ⟨he, R', hg, hf, hd2⟩ := h2
  ⟨he, R', h.trans hg, hf, hd2.trans hd⟩
theorem codeStep_ok (hK : KnowOk P) {E : Ev} (hE : EvOk P E) (hm : P.follows .mixedOrders = true) : CodeOk P (codeStep P E) := by
  intro floor c f s x f' s' h R w base a hI hf
  unfold codeStep at h
  split at h
  · injection h with h; injection h with h1 h; injection h with h2 h3; subst h1 h2 h3
    exact wp_skip ⟨rfl, R, Went.refl hI, hf, rfl⟩
  · injection h with h; injection h with h1 h; injection h with h2 h3; subst h1 h2 h3
    exact wp_label ⟨rfl, R, Went.refl hI, hf, rfl⟩
  · rename_i id ops draw
    unfold codeRegion at h
    split at h
    · rename_i f1 s1 he
      rw [forceF_eq] at h
      injection h with h; injection h with h1 h; injection h with h2 h3; subst h1 h2 h3
      exact evalRegion_ok hK hE.call hm he hI hf fun R' a' w' hg hf2 hd => ⟨rfl, R', hg, hf2, hd⟩
    · cases h
  · rename_i p q
    unfold codeSeq at h
    refine wp_seq ?_
    cases he : E.code floor p f s with
    | none => rw [he] at h; cases h
    | some r =>
      obtain ⟨x1, f1, s1⟩ := r
      rw [he] at h
      refine wp_mono (hE.code he hI hf) fun e a1 w1 hq => ?_
      obtain ⟨hx, R1, hg, hf1, hd⟩ := hq
      subst hx
      cases x1 with
      | normal => exact wp_mono (hE.code h hg.inv hf1) fun e a2 w2 hq2 => FinE.trans hg hd hq2
      | exit id => injection h with h; injection h with h1 h; injection h with h2 h3; subst h1 h2 h3; exact ⟨rfl, R1, hg, hf1, hd⟩
      | goto l => injection h with h; injection h with h1 h; injection h with h2 h3; subst h1 h2 h3; exact ⟨rfl, R1, hg, hf1, hd⟩
      | ret => injection h with h; injection h with h1 h; injection h with h2 h3; subst h1 h2 h3; exact ⟨rfl, R1, hg, hf1, hd⟩
  · rename_i o p q
    unfold codeCond at h
    have hr := opnd_ok hf o
    split at h
    · rename_i e; rw [e] at hr; exact wp_cond_true (lit_inv hr) (hE.code h hI hf)
    · rename_i e; rw [e] at hr; exact wp_cond_false (lit_inv hr) (hE.code h hI hf)
    · cases h
  · rename_i id p
    unfold codeBlock at h
    refine wp_block ?_
    cases he : E.code floor p f s with
    | none => rw [he] at h; cases h
    | some r =>
      obtain ⟨x1, f1, s1⟩ := r
      rw [he] at h
      refine wp_mono (hE.code he hI hf) fun e a1 w1 hq => ?_
      obtain ⟨hx, R1, hg, hf1, hd⟩ := hq
      subst hx
      cases x1 with
      | exit j =>
        simp only at h
        show (if j = id then _ else _)
        split at h
        · rename_i hb
          have hb := Nat.eq_of_beq_eq_true hb
          rw [if_pos hb]
          injection h with h; injection h with h1 h; injection h with h2 h3; subst h1 h2 h3
          exact ⟨rfl, R1, hg, hf1, hd⟩
        · rename_i hb
          have hb := Nat.ne_of_beq_eq_false hb
          rw [if_neg hb]
          injection h with h; injection h with h1 h; injection h with h2 h3; subst h1 h2 h3
          exact ⟨rfl, R1, hg, hf1, hd⟩
      | normal => injection h with h; injection h with h1 h; injection h with h2 h3; subst h1 h2 h3; exact ⟨rfl, R1, hg, hf1, hd⟩
      | goto l => injection h with h; injection h with h1 h; injection h with h2 h3; subst h1 h2 h3; exact ⟨rfl, R1, hg, hf1, hd⟩
      | ret => injection h with h; injection h with h1 h; injection h with h2 h3; subst h1 h2 h3; exact ⟨rfl, R1, hg, hf1, hd⟩
  · rename_i p
    intro b k cs
    obtain ⟨e, a', w', hq, harr⟩ := hE.loop h hI hf b k cs
    exact ⟨e, a', w', hq, .of_steps (.one step_loop) harr⟩
  · rename_i p
    intro b k cs
    obtain ⟨e, a', w', hq, harr⟩ := hE.scope h hI hf b k cs
    exact ⟨e, a', w', hq, .of_steps (.one step_scope) harr⟩
  · injection h with h; injection h with h1 h; injection h with h2 h3; subst h1 h2 h3
    exact wp_exit ⟨rfl, R, Went.refl hI, hf, rfl⟩
  · injection h with h; injection h with h1 h; injection h with h2 h3; subst h1 h2 h3
    exact wp_goto ⟨rfl, R, Went.refl hI, hf, rfl⟩
  · injection h with h; injection h with h1 h; injection h with h2 h3; subst h1 h2 h3
    exact wp_ret ⟨rfl, R, Went.refl hI, hf, rfl⟩
  · cases h
theorem loopStep_ok {E : Ev} (hE : EvOk P E) : LoopOk P (loopStep E) := by
  intro floor c f s x f' s' h R w base a hI hf b k cs
  unfold loopStep at h
  cases he : E.code floor c f s with
  | none => rw [he] at h; cases h
  | some r =>
    obtain ⟨x1, f1, s1⟩ := r
    rw [he] at h
    obtain ⟨e, a1, w1, hq, harr⟩ := hE.code he hI hf b (.inLoop c :: k) cs
    obtain ⟨hx, R1, hg, hf1, hd⟩ := hq
    subst hx
    cases x1 with
    | normal =>
      obtain ⟨e2, a2, w2, hq2, harr2⟩ := hE.loop h hg.inv hf1 b k cs
      exact ⟨e2, a2, w2, FinE.trans hg hd hq2, .of_steps (Steps.trans harr (.one step_inLoop)) harr2⟩
    | exit id =>
      injection h with h; injection h with h1 h; injection h with h2 h3; subst h1 h2 h3
      exact ⟨_, a1, w1, ⟨rfl, R1, hg, hf1, hd⟩, .pass (x := .inLoop c) rfl (fun _ _ => .inl (by simp [AX.out])) harr⟩
    | goto l =>
      injection h with h; injection h with h1 h; injection h with h2 h3; subst h1 h2 h3
      exact ⟨_, a1, w1, ⟨rfl, R1, hg, hf1, hd⟩, .pass (x := .inLoop c) rfl (fun _ _ => .inl (by simp [AX.out])) harr⟩
    | ret =>
      injection h with h; injection h with h1 h; injection h with h2 h3; subst h1 h2 h3
      exact ⟨_, a1, w1, ⟨rfl, R1, hg, hf1, hd⟩, .pass (x := .inLoop c) rfl (fun _ _ => .inl (by simp [AX.out])) harr⟩
theorem scopeStep_ok {E : Ev} (hE : EvOk P E) : ScopeOk P (scopeStep E) := by
  intro floor c cur f s x f' s' h R w base a hI hf b k cs
  unfold scopeStep at h
  cases he : E.code floor cur f s with
  | none => rw [he] at h; cases h
  | some r =>
    obtain ⟨x1, f1, s1⟩ := r
    rw [he] at h
    obtain ⟨e, a1, w1, hq, harr⟩ := hE.code he hI hf b (.inScope c :: k) cs
    obtain ⟨hx, R1, hg, hf1, hd⟩ := hq
    subst hx
    cases x1 with
    | normal =>
      injection h with h; injection h with h1 h; injection h with h2 h3; subst h1 h2 h3
      exact ⟨_, a1, w1, ⟨rfl, R1, hg, hf1, hd⟩, Steps.trans harr (.one step_inScope)⟩
    | exit id =>
      injection h with h; injection h with h1 h; injection h with h2 h3; subst h1 h2 h3
      exact ⟨_, a1, w1, ⟨rfl, R1, hg, hf1, hd⟩, fun k' hk => harr k' (by simp [exitTo, hk])⟩
    | goto l =>
      simp only at h
      cases hl : findLabel c l with
      | some rest =>
        rw [hl] at h
        have hgo : gotoIn l (.inScope c :: k) = some (.code rest :: .inScope c :: k) := by simp [gotoIn, hl]
        obtain ⟨e2, a2, w2, hq2, harr2⟩ := hE.scope h hg.inv hf1 b k cs
        exact ⟨e2, a2, w2, FinE.trans hg hd hq2, .of_steps (harr _ hgo) harr2⟩
      | none =>
        rw [hl] at h
        injection h with h; injection h with h1 h; injection h with h2 h3; subst h1 h2 h3
        exact ⟨_, a1, w1, ⟨rfl, R1, hg, hf1, hd⟩, fun k' hk => harr k' (by simp [gotoIn, hl, hk])⟩
    | ret =>
      injection h with h; injection h with h1 h; injection h with h2 h3; subst h1 h2 h3
      exact ⟨_, a1, w1, ⟨rfl, R1, hg, hf1, hd⟩, harr⟩
def resF (tmps : Array Value) : ResultVar → Sem Value
  | .tmp t => pure (tmps.getD t undef)
  | .cell a t => do loadVar t (← asAddr (tmps.getD a undef))
theorem results_eq (fn : Func) (tmps : Array Value) : results fn tmps = (do let vs ← fn.results.mapM (resF tmps); pure (if h : vs.size = 1 then vs[0] else .tuple vs)) := by
  have : (fun (r : ResultVar) => (match r with
      | .tmp t => pure (tmps.getD t undef)
      | .cell a t => do loadVar t (← asAddr (tmps.getD a undef)) : Sem Value)) = resF tmps := funext fun r => by cases r <;> rfl
  unfold results
  rw [← this]
  rfl
theorem resA_ok {s : AS} {w : World} {fl b : Nat} (hI : Inv R s w fl b) {f : Fr} {tmps : Array Value} (hf : FRel R f tmps) : ∀ {l : List ResultVar} {vs : List AV}, resA P f s l = some vs →
    ∃ xs, VRels R vs xs ∧ (l.mapM (resF tmps)).run P w = .ok xs w
  | [], vs, h => by
    simp only [resA] at h
    injection h with h; subst h
    exact ⟨[], VRels.nil, rfl⟩
  | .tmp t :: r, vs, h => by
    simp only [resA] at h
    split at h
    · rename_i l' hl
      injection h with h; subst h
      obtain ⟨xs, h1, h2⟩ := resA_ok hI hf hl
      have := opnd_ok (a := ⟨tmps, []⟩) hf (.tmp t)
      exact ⟨_, VRels.cons this h1, by rw [List.mapM_cons]; simp only [resF, Sem.run_bind, Sem.run_pure, Result.andThen_ok, h2]; rfl⟩
    · cases h
  | .cell p t :: r, vs, h => by
    simp only [resA] at h
    split at h
    · rename_i k off e1
      split at h
      · rename_i B hB
        split at h
        · rename_i v l' hv hl
          injection h with h; subst h
          obtain ⟨xs, h1, h2⟩ := resA_ok hI hf hl
          have hp := opnd_ok (a := ⟨tmps, []⟩) hf (.tmp p)
          have e1' : opnd f (.tmp p) = .ptr k off := e1
          rw [e1'] at hp
          obtain ⟨b, T, r3, r4⟩ := ptr_inv hp
          have r4' : tmps.getD p undef = .pointer (some ⟨b, off, none⟩) := r4
          obtain ⟨b', T', r5, r6⟩ := hI.rel.blk hB
          obtain ⟨rfl, rfl⟩ := hI.rel.fn r3 r5
          obtain ⟨y, hy, hrun⟩ := load_ok (P := P) hv r6
          have hrun := hrun w rfl
          have : (loadVar t ⟨b, off, none⟩).run P w = .ok y w := by simpa [Instr.loadAt, Instr.sureAddr] using hrun
          refine ⟨_, VRels.cons hy h1, ?_⟩
          have hr1 : (resF tmps (.cell p t)).run P w = .ok y w := by
            simp only [resF, r4', asAddr, Sem.run_bind, Sem.run_pure, Result.andThen_ok, this]
          rw [List.mapM_cons]
          simp only [Sem.run_bind, Sem.run_pure, Result.andThen_ok, hr1, h2]
        · cases h
      · cases h
    · cases h
theorem look_dropNew_lt {j n : Nat} (hj : j < n) : ∀ {h : List (Nat × List AV)}, look j (dropNew n h) = look j h
  | [] => rfl
  | p :: h => by
    rw [dropNew_cons]
    split
    · rw [look_cons, if_neg (by omega), look_dropNew_lt hj]
    · rw [look_cons, look_cons, look_dropNew_lt hj]
theorem Went.end_ {R' : Rho} {s s' : AS} {w w' : World} {fl b : Nat} (hI : Inv R s w fl b) (h : Went R R' ⟨s.n, s.h, [], s.gl⟩ s' w w' fl b) : Went R R' s ⟨s'.n, s'.h, unionW (oldW s.n s'.wr) s.wr, s'.gl⟩ w w' fl b :=
  ⟨h.ext, h.old, h.num, h.keep, h.inv.wr_ _, h.below, h.fresh, fun _ hk => unionW_iff.2 (.inr hk), fun hk r hn => h.wrote hk r (fun hc => hn (unionW_iff.2 (.inl (oldW_iff.2 ⟨hc, (hI.rel.dom r).1⟩)))), h.other⟩
theorem Went.drop {R' : Rho} {s s' : AS} {w w' : World} {fl b : Nat} (hI : Inv R s w fl b) (h : Went R R' ⟨s.n, s.h, [], s.gl⟩ s' w w' fl b) : Went R R' s ⟨s'.n, dropNew s.n s'.h, unionW (oldW s.n s'.wr) s.wr, s'.gl⟩ w w' fl b :=
  have h' := h.end_ hI
  ⟨h'.ext, h'.old, h'.num, fun k hk => (look_dropNew_lt (by have := hI.hf; omega)).trans (h'.keep k hk),
    ⟨⟨h'.inv.rel.fn, h'.inv.rel.dom, fun h1 h2 r1 r2 => h'.inv.rel.inj (look_dropNew_some h1) (look_dropNew_some h2) r1 r2, fun h1 => h'.inv.rel.blk (look_dropNew_some h1)⟩, h'.inv.hb, h'.inv.hf, h'.inv.own, h'.inv.glo, h'.inv.kgl⟩, h'.below, h'.fresh, h'.more,
    fun hk r hn => let ⟨c1, c2⟩ := h'.wrote hk r hn; ⟨c1, (look_dropNew_lt (hI.rel.dom r).1).trans c2⟩, h'.other⟩
theorem callStep_ok {E : Ev} (hE : EvOk P E) : CallOk P (callStep P E) := by
  intro floor g l s v s' h R w base xs hI hl
  unfold callStep at h
  split at h
  · rename_i fn hfn
    split at h
    · rename_i c hc
      have hlen := hl.length
      have hf0 : FRel R (frame fn.ntmps l) (xs.toArray ++ Array.replicate (fn.ntmps - xs.toArray.size) undef) := frame_ok hl
      have body : ∀ {x : AX} {f1 : Fr} {s1 : AS}, E.code floor c (frame fn.ntmps l) ⟨s.n, s.h, [], s.gl⟩ = some (x, f1, s1) → (x = .normal ∨ x = .ret) →
          ∀ {vs : List AV}, resA P f1 s1 fn.results.toList = some vs → ∀ {s2 : AS} {u : AV}, (∀ {R' : Rho} {w' : World}, Went R R' ⟨s.n, s.h, [], s.gl⟩ s1 w w' floor base → Went R R' s s2 w w' floor base) →
          (∀ {R' : Rho} {ys : List Value}, VRels R' vs ys → VRel R' u (if h : ys.toArray.size = 1 then ys.toArray[0] else .tuple ys.toArray)) →
          Calls P g xs.toArray w fun e w' => ∃ R' x, e = .returned x ∧ VRel R' u x ∧ Went R R' s s2 w w' floor base := by
        intro x f1 s1 he hx vs hvs s2 u hs hu
        refine calls_of_wp hfn hc ?_
        refine wp_mono (hE.code he (hI.wr_ []) (a := { tmps := xs.toArray ++ Array.replicate (fn.ntmps - xs.toArray.size) undef, defers := [] }) hf0) fun e a1 w1 hq => ?_
        obtain ⟨hx', R1, hg, hf1, hd⟩ := hq
        obtain ⟨ys, h1, h2⟩ := resA_ok (P := P) hg.inv hf1 hvs
        have hres : (results fn a1.tmps).run P w1 = .ok (if h : ys.toArray.size = 1 then ys.toArray[0] else .tuple ys.toArray) w1 := by
          rw [results_eq, Array.mapM_eq_mapM_toList]
          simp only [Sem.run_bind, Sem.run_map, h2, Result.andThen_ok, Sem.run_pure]
        have fin : a1.defers = [] ∧ ∃ v, (results fn a1.tmps).run P w1 = .ok v w1 ∧ ∃ R' x, Ending.returned v = .returned x ∧ VRel R' u x ∧ Went R R' s s2 w w1 floor base :=
          ⟨hd, _, hres, R1, _, rfl, hu h1, hs hg⟩
        rcases hx with rfl | rfl
        · subst hx'; exact fin
        · subst hx'; exact fin
      have main : ∀ {x : AX} {f1 : Fr} {s1 : AS}, E.code floor c (frame fn.ntmps l) ⟨s.n, s.h, [], s.gl⟩ = some (x, f1, s1) → (x = .normal ∨ x = .ret) →
          (match resA P f1 s1 fn.results.toList with
            | some [v] => match isLit v && allL isLit l with
              | true => some (v, (⟨s1.n, dropNew s.n s1.h, unionW (oldW s.n s1.wr) s.wr, s1.gl⟩ : AS))
              | false => some (v, (⟨s1.n, s1.h, unionW (oldW s.n s1.wr) s.wr, s1.gl⟩ : AS))
            | some vs => match isLit (mkTup vs) && allL isLit l with
              | true => some (mkTup vs, (⟨s1.n, dropNew s.n s1.h, unionW (oldW s.n s1.wr) s.wr, s1.gl⟩ : AS))
              | false => some (mkTup vs, (⟨s1.n, s1.h, unionW (oldW s.n s1.wr) s.wr, s1.gl⟩ : AS))
            | none => none) = some (v, s') → Calls P g xs.toArray w fun e w' => ∃ R' x, e = .returned x ∧ VRel R' v x ∧ Went R R' s s' w w' floor base := by
        intro x f1 s1 he hx h
        split at h
        · rename_i u hvs
          have hu : ∀ {R' : Rho} {ys : List Value}, VRels R' [u] ys → VRel R' u (if h : ys.toArray.size = 1 then ys.toArray[0] else .tuple ys.toArray) := by
            intro R' ys hy
            simp only [VRels] at hy
            obtain ⟨y, ys', rfl, h1, rfl⟩ := hy
            simpa using h1
          split at h
          · injection h with h; injection h with h1 h2; subst h1 h2
            exact body he hx hvs (fun hg => hg.drop hI) hu
          · injection h with h; injection h with h1 h2; subst h1 h2
            exact body he hx hvs (fun hg => hg.end_ hI) hu
        · rename_i vs hne hvs
          have hu : ∀ {R' : Rho} {ys : List Value}, VRels R' vs ys → VRel R' (mkTup vs) (if h : ys.toArray.size = 1 then ys.toArray[0] else .tuple ys.toArray) := by
            intro R' ys hy
            have hl := hy.length
            rw [dif_neg]
            · exact VRel.mkTup hy
            · intro h1
              have h1 : vs.length = 1 := by simp at h1; omega
              obtain ⟨u, rfl⟩ := List.length_eq_one_iff.1 h1
              exact hne u rfl
          split at h
          · injection h with h; injection h with h1 h2; subst h1 h2
            exact body he hx hvs (fun hg => hg.drop hI) hu
          · injection h with h; injection h with h1 h2; subst h1 h2
            exact body he hx hvs (fun hg => hg.end_ hI) hu
        · cases h
      split at h
      · rename_i f1 s1 he; exact main he (.inl rfl) h
      · rename_i f1 s1 he; exact main he (.inr rfl) h
      · cases h
    · cases h
  · cases h
/-- Nothing that stood there has turned, and nothing of it was written. -/
theorem Went.far {s : AS} {w w' : World} {fl b : Nat} (hI : Inv R s w fl b) (hb : Below w.heap.size w w') : Went R R s s w w' fl b :=
  ⟨Ext.refl _, fun r _ => r, Nat.le_refl _, fun _ _ => rfl, ⟨hI.rel.below hb, Nat.le_trans hI.hb hb.size, hI.hf, hI.own, fun hg => hI.glo_below hg (hb.mono hI.hb), hI.kgl⟩, hb.mono hI.hb, fun r => .inl ⟨_, _, r⟩, fun _ h => h,
    fun _ r _ => ⟨hb.block _ (hI.rel.dom r).2, rfl⟩, fun k hk _ => hb.block k hk⟩
theorem knowCall_ok (hK : KnowOk P) {call : CallE} (hcall : CallOk P call) : CallOk P (knowCall call) := by
  intro floor g l s v s' h R w base xs hI hl
  unfold knowCall at h
  split at h
  · rename_i r hr
    injection h with h
    injection h with h1 h2
    subst h1 h2
    obtain ⟨h3, h4⟩ := findC_ok hr
    obtain ⟨h5, h6⟩ := hK.call _ _ _ h3
    rw [mapL_eq] at h3 h4
    rw [mapL_eq] at h6
    exact (h6 w xs hI.globs (flats_ok hI h4 hl)).mono fun e w' ⟨he, hb⟩ => ⟨R, gval r, he, ground_ok h5, Went.far hI hb⟩
  · exact hcall h hI hl
theorem ev_ok (hK : KnowOk P) (hm : P.follows .mixedOrders = true) : ∀ n, EvOk P (ev P n)
  | 0 => ⟨fun h => (by cases h), fun h => (by cases h), fun h => (by cases h), fun h => (by cases h)⟩
  | n + 1 =>
    have hE := ev_ok hK hm n
    ⟨codeStep_ok hK hE hm, loopStep_ok hE, scopeStep_ok hE, knowCall_ok hK (callStep_ok hE)⟩
theorem inv0 {w : World} (hg : Globs Env.gl w) : Inv (fun _ _ _ => False) ⟨0, [], [], Env.gl⟩ w 0 w.heap.size :=
  ⟨⟨fun h => h.elim, fun h => h.elim, (fun h => by cases h), (fun h => by cases h)⟩, Nat.le_refl _, Nat.le_refl _, fun h => h.elim, fun h => hg _ _ h, rfl⟩
/-- A RUN WITH LETTERS: what the kernel reckons is what the call comes to, in whatever memory that holds the variables, if the tables are right. -/
theorem sym_ok (hK : KnowOk P) (hm : P.follows .mixedOrders = true) {n : Nat} {g : FuncId} {l : List AV} {v : AV} (h : comes P Env.gl n g l = some v) (hl : l.all ground = true) (hv : ground v = true) {w : World} (hg : Globs Env.gl w) :
    Calls P g (l.map gval).toArray w fun e w' => e = .returned (gval v) ∧ Below w.heap.size w w' := by
  unfold comes at h
  split at h
  · rename_i u s he
    injection h with h
    subst h
    exact ((ev_ok hK hm n).call he (inv0 hg) (grounds_ok hl)).mono fun e w' ⟨R', x, he, hx, hg⟩ => ⟨by rw [he, VRel.uniq hv hx], hg.below⟩
  · cases h
end
section
variable {P : Program}
theorem Globs.nil (w : World) : Globs [] w := fun _ _ h => by cases h
end
end Go.Proofs.YtajcapliokblfaaGreatDoor
set_option linter.unusedVariables false
set_option linter.unusedSimpArgs false
namespace Go.Proofs.YtajcapliokblfaaGreatDoor
open Go Go.RowKit
theorem bex (p : Prop) : ∃ b : Bool, b = true ↔ p := by
  by_cases h : p
  · exact ⟨true, by simp [h]⟩
  · exact ⟨false, by simp [h]⟩
def envL (l : List Value) (i : Nat) : Value := l.getD i (.int .i64 0)
theorem envL_flat {l : List Value} (h : l.all (·.oneCell') = true) : ∀ i, (envL l i).oneCell' = true := by
  intro i
  unfold envL
  rw [List.getD_eq_getElem?_getD]
  cases hi : l[i]? with
  | none => rfl
  | some v =>
    rw [List.all_eq_true] at h
    exact h v (List.mem_of_getElem? hi)
@[reducible] def mkEnv (gl : List (Nat × List AV)) (l : List Value) (h : l.all (·.oneCell') = true) : Env := ⟨envL l, envL_flat h, gl⟩
section
variable [Env]
def OpT (P : Program) (k : List Nat) (l : List AV) (r : AV) : Prop :=
  ground r = true ∧ ∀ (o : Oper) xs, keyOf o = some (k, xs) → ∀ ρ : Operand → Value, (∀ g, ρ (.func g) = .func (.func g) #[] #[]) → xs.map ρ = l.map gval → ∀ w, (execOp ρ o).run P w = .ok (.value (gval r)) w
def CallT (P : Program) (g : FuncId) (l : List AV) (r : AV) : Prop :=
  ground r = true ∧ ∀ w xs, Globs Env.gl w → ARels w l xs → Calls P g xs.toArray w fun e w' => e = .returned (gval r) ∧ Below w.heap.size w w'
theorem callt {P : Program} {g : FuncId} {l : List AV} {r : AV} (hl : l.all ground = true) (hr : ground r = true) (h : ∀ w, Globs Env.gl w → Calls P g (l.map gval).toArray w fun e w' => e = .returned (gval r) ∧ Below w.heap.size w w') : CallT P g l r :=
  ⟨hr, fun w xs hG hx => by rw [@ARels.plain _ noKnow _ _ hl _ hx]; exact h w hG⟩
def OpsT (P : Program) : List (List Nat × List AV × AV) → Prop
  | [] => True
  | p :: t => OpT P p.1 p.2.1 p.2.2 ∧ OpsT P t
def CallsT (P : Program) : List (FuncId × List AV × AV) → Prop
  | [] => True
  | p :: t => CallT P p.1 p.2.1 p.2.2 ∧ CallsT P t
theorem OpsT.mem {P : Program} : ∀ {t : List (List Nat × List AV × AV)}, OpsT P t → ∀ {k l r}, (k, l, r) ∈ t → OpT P k l r
  | [], _, _, _, _, h => by cases h
  | p :: t, hp, k, l, r, h => by
    rcases List.mem_cons.1 h with e | h
    · subst e; exact hp.1
    · exact OpsT.mem hp.2 h
theorem CallsT.mem {P : Program} : ∀ {t : List (FuncId × List AV × AV)}, CallsT P t → ∀ {k l r}, (k, l, r) ∈ t → CallT P k l r
  | [], _, _, _, _, h => by cases h
  | p :: t, hp, k, l, r, h => by
    rcases List.mem_cons.1 h with e | h
    · subst e; exact hp.1
    · exact CallsT.mem hp.2 h
theorem KnowOk.of [Know] {P : Program} (h1 : OpsT P Know.ops) (h2 : CallsT P Know.calls) : KnowOk P := ⟨fun k l r h => h1.mem h, fun k l r h => h2.mem h⟩
/-- A binary operation at values that are named. -/
theorem opt_bin {P : Program} {op : BinOp} {t : TypeId} {a b r : AV} (hr : ground r = true) (h : ∀ x y w, (do eqGuard op t x y (gval a) (gval b); binOp op t (gval a) (gval b)).run P w = .ok (gval r) w) : OpT P [0, binKey op, t] [a, b] r := by
  refine ⟨hr, fun o xs hk ρ hρ hx w => ?_⟩
  unfold keyOf at hk
  obtain ⟨dst, o, type, pos, after, guard⟩ := o
  simp only at hk
  split at hk
  · rename_i op' t' x y yt
    simp only [Option.some.injEq, Prod.mk.injEq, List.cons.injEq, and_true, true_and] at hk
    obtain ⟨⟨h1, h2⟩, h3⟩ := hk
    subst h2 h3
    have ho : op' = op := by cases op' <;> cases op <;> first | rfl | cases h1
    subst ho
    simp only [List.map_cons, List.map_nil, List.cons.injEq, and_true] at hx
    obtain ⟨e1, e2⟩ := hx
    have := h x y w
    simp only [execOp, e1, e2, Sem.run_bind, Sem.run_pure] at this ⊢
    rw [this]; rfl
  all_goals first
    | (simp only [Option.some.injEq, Prod.mk.injEq, List.cons.injEq] at hk; have := hk.1.1; omega)
    | (split at hk <;> first | cases hk | (simp only [Option.some.injEq, Prod.mk.injEq, List.cons.injEq] at hk; have := hk.1.1; omega))
    | cases hk
theorem opt_int {P : Program} {op : BinOp} {t : TypeId} {a b r : AV} {k : IntKind} {x y : Int} {v : Value} (ha : gval a = .int k x) (hb : gval b = .int k y) (hr : ground r = true) (hv : gval r = v) (h : ∀ w, (binOp op t (.int k x) (.int k y)).run P w = .ok v w) : OpT P [0, binKey op, t] [a, b] r := by
  refine opt_bin hr fun p q w => ?_
  rw [ha, hb, hv]
  simp only [Sem.run_bind, eqGuard_int, Result.andThen_ok]
  exact h w
theorem opt_eql {P : Program} {t : TypeId} {a b : AV} {k : IntKind} {x y : Int} {c : Bool} (ha : gval a = .int k x) (hb : gval b = .int k y) (h : (x == y) = c) : OpT P [0, 11, t] [a, b] (.lit (.bool c)) :=
  opt_int (op := .eql) ha hb rfl rfl fun w => by rw [← h]; simp [binOp, Op.intCmp, gval, gval2, gval1]
theorem opt_lss {P : Program} {t : TypeId} {a b : AV} {k : IntKind} {x y : Int} {c : Bool} (ha : gval a = .int k x) (hb : gval b = .int k y) (h : decide (x < y) = c) : OpT P [0, 13, t] [a, b] (.lit (.bool c)) :=
  opt_int (op := .lss) ha hb rfl rfl fun w => by rw [← h]; simp [binOp, Op.intCmp, gval, gval2, gval1]
theorem opt_gtr {P : Program} {t : TypeId} {a b : AV} {k : IntKind} {x y : Int} {c : Bool} (ha : gval a = .int k x) (hb : gval b = .int k y) (h : decide (x > y) = c) : OpT P [0, 15, t] [a, b] (.lit (.bool c)) :=
  opt_int (op := .gtr) ha hb rfl rfl fun w => by rw [← h]; simp [binOp, Op.intCmp, gval, gval2, gval1]
theorem opt_eql_i {P : Program} {t : TypeId} {a b : AV} {k : IntKind} {x y : Int} {c : Bool} (ha : gval a = .int k x) (hb : gval b = .int k y) (h : c = true ↔ x = y) : OpT P [0, 11, t] [a, b] (.lit (.bool c)) := opt_eql ha hb (by rw [Bool.eq_iff_iff, h]; exact beq_iff_eq)
theorem opt_lss_i {P : Program} {t : TypeId} {a b : AV} {k : IntKind} {x y : Int} {c : Bool} (ha : gval a = .int k x) (hb : gval b = .int k y) (h : c = true ↔ x < y) : OpT P [0, 13, t] [a, b] (.lit (.bool c)) := opt_lss ha hb (by rw [Bool.eq_iff_iff, h]; exact decide_eq_true_iff)
theorem opt_gtr_i {P : Program} {t : TypeId} {a b : AV} {k : IntKind} {x y : Int} {c : Bool} (ha : gval a = .int k x) (hb : gval b = .int k y) (h : c = true ↔ x > y) : OpT P [0, 15, t] [a, b] (.lit (.bool c)) := opt_gtr ha hb (by rw [Bool.eq_iff_iff, h]; exact decide_eq_true_iff)
end
end Go.Proofs.YtajcapliokblfaaGreatDoor
set_option linter.unusedSimpArgs false
set_option linter.unusedVariables false
namespace Go.Proofs.YtajcapliokblfaaGreatDoor
open Go Go.RowKit
theorem size_of_cell {w : World} {b o : Nat} {v : Value} (h : w.cell? ⟨b, o, none⟩ = some v) : b < w.heap.size := by
  unfold World.cell? at h
  cases hb : w.heap[b]? with
  | none => simp [hb] at h
  | some x => exact (Array.getElem?_eq_some_iff.1 hb).1
theorem gDe : Tryz.prog.globalNamed "math/bits.deBruijn64tab" = some 4 := by kernel_rfl
theorem gDeType : (Tryz.prog.globals[4]?).map (·.type) = some 206 := by kernel_rfl
theorem cDe : Tryz.prog.cellsOf 206 = 64 := by kernel_rfl
theorem cU8 : Tryz.prog.cellsOf 5 = 1 := by kernel_rfl
def glT : List (Nat × List AV) := [(4, Lib.deBruijn64tab.map fun (x : Nat) => AV.lit (.int .u8 (x : Nat)))]
theorem globs_of {W : World} {laid : List (String × DataW Unit)} (hl : laid.filter (fun x => x.1 == "math/bits.deBruijn64tab") = [("math/bits.deBruijn64tab", Rows.laid_math_bits_deBruijn64tab)]) (hL : laidMetH Tryz.prog laid W) : Globs glT W := by
  have h := hL.filter (fun x => x.1 == "math/bits.deBruijn64tab")
  rw [hl] at h
  have h1 : Lib.TabIs Tryz.prog W "math/bits.deBruijn64tab" .u8 (Lib.deBruijn64tab.map Int.ofNat) := Lib.tabIs_of_head (rest := []) gDe gDeType Tryz.underlying206 Tryz.underlying5 cU8 cDe h
  have hlen : Lib.deBruijn64tab.length = 64 := by decide
  have c1 : ∀ j, j < 64 → W.cell? ⟨4, j, none⟩ = some (.int .u8 ((Lib.deBruijn64tab.getD j 0 : Nat) : Int)) := fun j hj => by
    have := h1.cell gDe j (by rw [List.length_map, hlen]; exact hj)
    rw [this]; simp [List.getD]
    cases Lib.deBruijn64tab[j]? <;> rfl
  intro g B hB
  unfold glT at hB
  rw [look_cons] at hB
  split at hB
  · rename_i e
    injection hB with hB
    have e : 4 = g := e
    subst e hB
    refine ⟨size_of_cell (c1 0 (by decide)), fun i v hv => ?_⟩
    have hi : i < 64 := by
      have := (List.getElem?_eq_some_iff.1 hv).1
      rw [List.length_map, hlen] at this; exact this
    rw [List.getElem?_map] at hv
    cases hx : Lib.deBruijn64tab[i]? with
    | none => rw [hx] at hv; cases hv
    | some x =>
      rw [hx] at hv
      injection hv with hv
      refine ⟨_, hv.symm, ?_⟩
      rw [c1 i hi]
      simp [List.getD, hx]
  · cases hB
end Go.Proofs.YtajcapliokblfaaGreatDoor
set_option linter.unusedSimpArgs false
set_option linter.unusedVariables false
namespace Go.Proofs.YtajcapliokblfaaGreatDoor
open Go Go.RowKit
theorem Globs.below {gl : List (Nat × List AV)} {w w' : World} (h : Globs gl w) {n : Nat} (hb : Below n w w') (hn : w.heap.size ≤ n) : Globs gl w' := fun g B hB => by
  obtain ⟨h1, h2⟩ := h g B hB
  refine ⟨Nat.lt_of_lt_of_le h1 hb.size, fun i v hv => ?_⟩
  obtain ⟨u, e, c⟩ := h2 i v hv
  exact ⟨u, e, (hb.cell (p := ⟨g, i, none⟩) (by show g < n; omega)).trans c⟩
end Go.Proofs.YtajcapliokblfaaGreatDoor
set_option linter.unusedVariables false
set_option linter.unusedSimpArgs false
namespace Go.Proofs.YtajcapliokblfaaGreatDoor
open Go Go.RowKit Nt
@[reducible] def lives4_c_f : FuncId := 11
@[reducible] def lives4_c_a : List AV := []
@[reducible] noncomputable def lives4_c_k : Know := ⟨[],
  [(103, [.lit (.agg #[.bool false, .bool false, .string ⟨#[48, 49]⟩, .string ⟨#[]⟩, .int .i64 1])], .lit (.tuple #[.agg #[.bool false, .string ⟨#[1]⟩, .string ⟨#[10]⟩], .int .i64 0]))]⟩
theorem lives4_c_r1 : @comes lives4_c_k Tryz.prog glT 6000 lives4_c_f lives4_c_a = some (.lit (.bool true)) := by kernel_rfl
set_option maxRecDepth 100000 in
set_option maxHeartbeats 4000000 in
theorem lives4_c (w : World) (hG : Globs glT w) : Calls Tryz.prog 11 #[] w fun e w' => e = .returned (.bool true) ∧ Below w.heap.size w w' := by
  letI : Env := mkEnv glT [] rfl
  have hops : OpsT Tryz.prog (@Know.ops lives4_c_k) := trivial
  have hcalls : CallsT Tryz.prog (@Know.calls lives4_c_k) := ⟨callt rfl rfl fun w hG => PValue_01 w,
    trivial⟩
  have fin : ∀ v, @comes lives4_c_k Tryz.prog glT 6000 lives4_c_f lives4_c_a = some v → ground v = true → Ending.returned (gval v) = .returned (.bool true) → Calls Tryz.prog 11 #[] w fun e w' => e = .returned (.bool true) ∧ Below w.heap.size w w' := fun v h1 h2 h3 => (@sym_ok _ lives4_c_k _ (@KnowOk.of _ lives4_c_k _ hops hcalls) (by kernel_rfl) _ _ _ _ h1 rfl h2 _ hG).mono fun e w' h => ⟨h.1.trans h3, h.2⟩
  clear hops hcalls
  exact fin _ (lives4_c_r1) rfl rfl
end Go.Proofs.YtajcapliokblfaaGreatDoor
set_option linter.unusedVariables false
set_option linter.unusedSimpArgs false
namespace Go.Proofs.YtajcapliokblfaaGreatDoor
open Go Go.RowKit Nt
/-- A rational number as a Ratio. -/
@[reducible] noncomputable def qr (x : Rat) : Rx := ⟨qG x, natS (qN x), natS (qD x)⟩
theorem str_injP {s t : ByteArray} (h : s.toList = t.toList) : s = t := by
  rw [ba_toList, ba_toList] at h
  obtain ⟨a⟩ := s
  obtain ⟨b⟩ := t
  exact congrArg _ (Array.toList_inj.1 h)
set_option maxRecDepth 100000 in
set_option maxHeartbeats 1000000 in
theorem optR_eql_i [Env] {A B : AV} {a b : Rx} {c : Bool} (ha : gval A = .agg #[.bool a.g, .string a.s, .string a.t]) (hb : gval B = .agg #[.bool b.g, .string b.s, .string b.t]) (h : c = true ↔ a = b) : OpT Tryz.prog [0, 11, 24] [A, B] (.lit (.bool c)) :=
  opt_bin (op := .eql) (r := .lit (.bool c)) rfl fun p q w => by
    rw [ha, hb]
    show _ = Result.ok (Value.bool c) w
    obtain ⟨g, s, t⟩ := a
    obtain ⟨g2, s2, t2⟩ := b
    simp only [Rx.mk.injEq] at h
    by_cases h1 : g = g2 <;> by_cases h2 : s.toList = s2.toList <;> by_cases h3 : t.toList = t2.toList
    · rw [h.2 ⟨h1, str_injP h2, str_injP h3⟩]
      subst h1
      go_simp
      try simp [h2, h3]
    all_goals
      rw [show c = false from Bool.eq_false_iff.2 (fun k => by
        obtain ⟨e1, e2, e3⟩ := h.1 k
        first | exact h1 e1 | exact h2 (congrArg _ e2) | exact h3 (congrArg _ e3))]
      go_simp
      try simp [h1, h2, h3]
theorem QSub (x y z : Rat) (e : x - y = z) (hx : qfits x) (hy : qfits y) (hz : qfits z) (w : World) : Calls Tryz.prog 23 #[qv x, qv y] w fun e w' => e = .returned (.tuple #[qv z, .int .i64 0]) ∧ Below w.heap.size w w' := by
  have h := PSub_c x y w hx hy
  rw [e] at h
  obtain ⟨r1, r2, r3, r4⟩ := rs_ok hz
  unfold LwPost at h
  rw [r1, r2, r3, r4] at h
  exact h
theorem Bq.fits {q : Rat} {k : Nat} (h : Bq q k) (hk : k ≤ 16384) : qfits q := ⟨Nat.le_trans h.1 hk, Nat.le_trans h.2 hk⟩
end Go.Proofs.YtajcapliokblfaaGreatDoor
set_option linter.unusedSimpArgs false
set_option linter.unusedVariables false
namespace Go.Proofs.YtajcapliokblfaaGreatDoor
open Go Go.RowKit Nt
theorem BR.boxZ {w : World} {l : List C3} {W : World} (h : BR w l W) (c : C3) (hi : l[0]? = some c) : w.heap.size < W.heap.size ∧ W.cell? ⟨w.heap.size, 0, none⟩ = some c.1 ∧ W.cell? ⟨w.heap.size, 1, none⟩ = some c.2.1 ∧ W.cell? ⟨w.heap.size, 2, none⟩ = some c.2.2 ∧ W.frozen? ⟨w.heap.size, 0, none⟩ = false ∧ W.frozen? ⟨w.heap.size, 1, none⟩ = false ∧ W.frozen? ⟨w.heap.size, 2, none⟩ = false := h.box 0 c hi
end Go.Proofs.YtajcapliokblfaaGreatDoor
set_option linter.unusedSimpArgs false
set_option linter.unusedVariables false
namespace Go.Proofs.YtajcapliokblfaaGreatDoor
open Go Go.RowKit Nt
theorem cmp_b (a b : Nat) : -1 ≤ cmpN a b ∧ cmpN a b ≤ 1 := by
  rcases Nat.lt_trichotomy a b with h | h | h
  · rw [cmpN_lt h]; decide
  · subst h; rw [cmpN_eq]; decide
  · rw [cmpN_gt h]; decide
end Go.Proofs.YtajcapliokblfaaGreatDoor
set_option linter.unusedSimpArgs false
set_option linter.unusedVariables false
namespace Go.Proofs.YtajcapliokblfaaGreatDoor
open Go Go.RowKit Nt
theorem dlget3 (b n L i : Nat) (h : i < (dl b n L).length) : (dl b n L)[i] = dgt b n i := by
  have := dl_get? b n L i (by rw [dl_length] at h; exact h)
  rw [List.getElem?_eq_getElem h] at this
  exact Option.some.inj this
end Go.Proofs.YtajcapliokblfaaGreatDoor
set_option linter.unusedSimpArgs false
set_option linter.unusedVariables false
namespace Go.Proofs.YtajcapliokblfaaGreatDoor
open Go Go.RowKit Nt
theorem Own.take {w : World} {B : Nat} {T : TypeId} {k : IntKind} {A : Option Addr} {L c : Nat} {l : List Nat} (h : Own w B T k (.slice A L c) l) {m : Nat} (hm : m ≤ l.length) : Own w B T k (.slice A m c) (l.take m) := by
  have hl : (l.take m).length = m := by rw [List.length_take]; omega
  unfold Own
  rw [hl]
  refine ⟨by simp; omega, ?_⟩
  rcases h.2 with ⟨e, h0⟩ | ⟨g, cap, cur, e, hB, hh, hn, hmx, hs, ht⟩
  · injection e with e1 e2 e3
    refine Or.inl ⟨?_, by omega⟩
    rw [e1, e3, show m = 0 by omega]
  · injection e with e1 e2 e3
    refine Or.inr ⟨g, cap, cur, by rw [e1, e3], hB, hh, by omega, hmx, hs, ?_⟩
    rw [Nat.mul_one] at ht ⊢
    rw [List.map_take, ← ht, List.take_take, Nat.min_eq_left hm]
theorem dl_take (b n : Nat) {L m : Nat} (h : m ≤ L) : (dl b n L).take m = dl b n m := by
  apply List.ext_getElem
  · rw [List.length_take, dl_length, dl_length]; omega
  · intro i h1 h2
    rw [List.getElem_take, dlget3, dlget3]
/-- Without the noughts at the end. -/
theorem Own.cut {w : World} {B : Nat} {T : TypeId} {k : IntKind} {A : Option Addr} {L c n : Nat} (h : Own w B T k (.slice A L c) (dl 256 n L)) (hn : nd 256 n ≤ L) : Own w B T k (.slice A (nd 256 n) c) (dl 256 n (nd 256 n)) := by
  have := h.take (m := nd 256 n) (by rw [dl_length]; exact hn)
  rwa [dl_take 256 n hn] at this
end Go.Proofs.YtajcapliokblfaaGreatDoor
set_option linter.unusedSimpArgs false
set_option linter.unusedVariables false
namespace Go.Proofs.YtajcapliokblfaaGreatDoor
open Go Go.RowKit Nt
def lowN (n : Nat) : Nat := if h : n = 0 ∨ n % 2 = 1 then 0 else lowN (n / 2) + 1
termination_by n
decreasing_by omega
theorem lowN_odd {n : Nat} (h : n % 2 = 1) : lowN n = 0 := by unfold lowN; rw [dif_pos (Or.inr h)]
theorem lowN_even {n : Nat} (h0 : n ≠ 0) (h : n % 2 = 0) : lowN n = lowN (n / 2) + 1 := by
  have e : ¬ (n = 0 ∨ n % 2 = 1) := fun c => by rcases c with c | c; exact h0 c; omega
  rw [lowN.eq_1 n, dif_neg e]
theorem lowN_ex (n : Nat) (h0 : n ≠ 0) : ∃ o, o % 2 = 1 ∧ n = o * 2 ^ lowN n := by
  induction n using Nat.strongRecOn with
  | ind n ih =>
    by_cases h : n % 2 = 1
    · exact ⟨n, h, by rw [lowN_odd h, Nat.pow_zero, Nat.mul_one]⟩
    · obtain ⟨o, ho, e⟩ := ih (n / 2) (by omega) (by omega)
      refine ⟨o, ho, ?_⟩
      rw [lowN_even h0 (by omega), Nat.pow_succ, ← Nat.mul_assoc, ← e]; omega
def odN (n : Nat) : Nat := n / 2 ^ lowN n
theorem odN_spec {n : Nat} (h0 : n ≠ 0) : odN n % 2 = 1 ∧ n = odN n * 2 ^ lowN n := by
  obtain ⟨o, ho, e⟩ := lowN_ex n h0
  have e2 : odN n = o := by
    unfold odN
    generalize lowN n = k at *
    rw [e, Nat.mul_div_cancel _ (Nat.two_pow_pos _)]
  rw [e2]; exact ⟨ho, e⟩
theorem odN_pos {n : Nat} (h0 : n ≠ 0) : odN n ≠ 0 := odd_ne (odN_spec h0).1
theorem odd_pow {o l m k : Nat} (ho : o % 2 = 1) (hm : m % 2 = 1) (h : o * 2 ^ l = m * 2 ^ k) : l = k ∧ o = m := by
  induction l generalizing k with
  | zero =>
    cases k with
    | zero => exact ⟨rfl, by simpa using h⟩
    | succ k => rw [Nat.pow_zero, Nat.mul_one, Nat.pow_succ, ← Nat.mul_assoc] at h; omega
  | succ l ih =>
    cases k with
    | zero => rw [Nat.pow_zero, Nat.mul_one, Nat.pow_succ, ← Nat.mul_assoc] at h; omega
    | succ k =>
      rw [Nat.pow_succ, Nat.pow_succ, ← Nat.mul_assoc, ← Nat.mul_assoc] at h
      obtain ⟨e1, e2⟩ := ih (k := k) (by omega)
      exact ⟨by rw [e1], e2⟩
theorem od_unique {n o l : Nat} (ho : o % 2 = 1) (h : n = o * 2 ^ l) : lowN n = l ∧ odN n = o := by
  have h0 : n ≠ 0 := fun c => by
    rw [c] at h
    rcases Nat.mul_eq_zero.1 h.symm with c | c
    · exact odd_ne ho c
    · exact absurd c (Nat.pos_iff_ne_zero.1 (Nat.two_pow_pos l))
  obtain ⟨h1, h2⟩ := odN_spec h0
  exact odd_pow h1 ho (h2.symm.trans h)
theorem odN_le (n : Nat) : odN n ≤ n := Nat.div_le_self _ _
/-- A Dyad. -/
structure Dy where
  g : Bool
  n : Nat
  x : Int
def Dy.v (d : Dy) : Value := .agg #[.bool d.g, .string (natS d.n), .int .i64 d.x]
def Dy.zero : Dy := ⟨false, 0, 0⟩
def Dy.Num (d : Dy) : Prop := fits d.n ∧ d.n % 2 = 1 ∧ -1048576 ≤ d.x ∧ d.x ≤ 1048576
def Dy.Ok (d : Dy) : Prop := d = Dy.zero ∨ d.Num
theorem Dy.zero_v : Dy.zero.v = .agg #[.bool false, .string ⟨#[]⟩, .int .i64 0] := by unfold Dy.v Dy.zero; rw [natS_zero]
theorem DOk_dy {g : Bool} {s : ByteArray} {x : Int} (h : DOk g s x) : ∃ d : Dy, d.Ok ∧ g = d.g ∧ s = natS d.n ∧ x = d.x := by
  rcases h with ⟨rfl, rfl, rfl⟩ | ⟨n, hf, ho, rfl, h1, h2⟩
  · exact ⟨Dy.zero, Or.inl rfl, rfl, natS_zero.symm, rfl⟩
  · exact ⟨⟨g, n, x⟩, Or.inr ⟨hf, ho, h1, h2⟩, rfl, rfl, rfl⟩
/-- Whether a number times a power of two may be a Dyad. -/
def mkOk3 (n : Nat) (x : Int) : Prop := n = 0 ∨ (fits (odN n) ∧ -1048576 ≤ x + lowN n ∧ x + lowN n ≤ 1048576)
instance (n : Nat) (x : Int) : Decidable (mkOk3 n x) := by unfold mkOk3 fits; exact inferInstance
@[irreducible] def mkD (g : Bool) (n : Nat) (x : Int) : Dy := if n ≠ 0 ∧ mkOk3 n x then ⟨g, odN n, x + lowN n⟩ else Dy.zero
@[irreducible] def mkE (n : Nat) (x : Int) : Int := if mkOk3 n x then 0 else 4
theorem mkD_zero (g : Bool) (x : Int) : mkD g 0 x = Dy.zero := by unfold mkD; rw [if_neg (fun c => c.1 rfl)]
theorem mkE_zero (x : Int) : mkE 0 x = 0 := by unfold mkE; exact if_pos (Or.inl rfl)
theorem mkD_ok {g : Bool} {n : Nat} {x : Int} (h0 : n ≠ 0) (h : mkOk3 n x) : mkD g n x = ⟨g, odN n, x + lowN n⟩ := by unfold mkD; rw [if_pos ⟨h0, h⟩]
theorem mkE_ok {n : Nat} {x : Int} (h : mkOk3 n x) : mkE n x = 0 := by unfold mkE; rw [if_pos h]
theorem mkD_no {g : Bool} {n : Nat} {x : Int} (h : ¬ mkOk3 n x) : mkD g n x = Dy.zero := by unfold mkD; rw [if_neg (fun c => h c.2)]
theorem mkE_no {n : Nat} {x : Int} (h : ¬ mkOk3 n x) : mkE n x = 4 := by unfold mkE; rw [if_neg h]
end Go.Proofs.YtajcapliokblfaaGreatDoor
set_option linter.unusedSimpArgs false
set_option linter.unusedVariables false
namespace Go.Proofs.YtajcapliokblfaaGreatDoor
open Go Go.RowKit Nt
/-- The digits of a number stand at A. -/
def DRow (w : World) (A : Option Addr) (n L : Nat) : Prop := ∀ j, j < L → ∃ g, A = some ⟨g, 0, none⟩ ∧ g < w.heap.size ∧ w.cell? ⟨g, j, none⟩ = some (.int .i64 (dgt 256 n j : Nat))
end Go.Proofs.YtajcapliokblfaaGreatDoor
set_option linter.unusedSimpArgs false
set_option linter.unusedVariables false
namespace Go.Proofs.YtajcapliokblfaaGreatDoor
open Go Go.RowKit Nt
/-- What is made of a number, and whether it may be. -/
def MkPost (g : Bool) (n : Nat) (x : Int) (w : World) (e : Ending) (w' : World) : Prop := e = .returned (.tuple #[(mkD g n x).v, .int .i64 (mkE n x)]) ∧ Below w.heap.size w w'
theorem MkPost.no {g : Bool} {n : Nat} {x : Int} (h : ¬ mkOk3 n x) {w : World} {e : Ending} {w' : World} (he : e = .returned (.tuple #[.agg #[.bool false, .string ⟨#[]⟩, .int .i64 0], .int .i64 4])) (hb : Below w.heap.size w w') : MkPost g n x w e w' := by
  unfold MkPost
  rw [mkD_no h, mkE_no h, Dy.zero_v]
  exact ⟨he, hb⟩
theorem MkPost.zero {g : Bool} {x : Int} {w : World} {e : Ending} {w' : World} (he : e = .returned (.tuple #[.agg #[.bool false, .string ⟨#[]⟩, .int .i64 0], .int .i64 0])) (hb : Below w.heap.size w w') : MkPost g 0 x w e w' := by
  unfold MkPost
  rw [mkD_zero, mkE_zero, Dy.zero_v]
  exact ⟨he, hb⟩
theorem MkPost.ok {g : Bool} {n : Nat} {x : Int} (h0 : n ≠ 0) (h : mkOk3 n x) {w : World} {e : Ending} {w' : World} (he : e = .returned (.tuple #[.agg #[.bool g, .string (natS (odN n)), .int .i64 (x + lowN n)], .int .i64 0])) (hb : Below w.heap.size w w') : MkPost g n x w e w' := by
  unfold MkPost
  rw [mkD_ok h0 h, mkE_ok h]
  exact ⟨he, hb⟩
theorem box1 {w w1 : World} {b : Obj} (hb : Below (w.alloc b).heap.size (w.alloc b) w1) : w.heap.size < w1.heap.size := by have := hb.size; simp at this; omega
end Go.Proofs.YtajcapliokblfaaGreatDoor
set_option linter.unusedSimpArgs false
set_option linter.unusedVariables false
namespace Go.Proofs.YtajcapliokblfaaGreatDoor
open Go Go.RowKit Nt
theorem abs_fits {m : Nat} (h : m < 18446744073709551616) : fits m := by have := br_lt.2 h; unfold fits; omega
end Go.Proofs.YtajcapliokblfaaGreatDoor
namespace Go.Proofs.YtajcapliokblfaaGreatDoor.Bt.Ff
open Ieee
def rung (x : Nat) : Nat := x % 9223372036854775808
def sgn (x : Nat) : Bool := x / 9223372036854775808 % 2 == 1
def isn (x : Nat) : Prop := 9218868437227405312 < rung x
instance (x : Nat) : Decidable (isn x) := by unfold isn; exact inferInstance
def srung (x : Nat) : Int := if sgn x then -(rung x : Int) else (rung x : Int)
def mag (r : Nat) : Nat := if r < 4503599627370496 then r else (4503599627370496 + r % 4503599627370496) * 2 ^ (r / 4503599627370496 - 1)
theorem sw : double.signWeight = 9223372036854775808 := by decide
theorem bin : double.binade = 4503599627370496 := by decide
theorem infr : double.infRung = 9218868437227405312 := by decide
theorem lp : double.leastPlace = -1074 := by decide
theorem read_eq (x : Nat) : double.read x =
    if rung x < 4503599627370496 then .number (sgn x) (rung x) (-1074)
    else if rung x < 9218868437227405312 then .number (sgn x) (4503599627370496 + rung x % 4503599627370496) (-1074 + ((rung x / 4503599627370496 - 1 : Nat) : Int))
    else if rung x = 9218868437227405312 then .infinity (sgn x) else .nan (sgn x) (rung x - 9218868437227405312) := by
  unfold Format.read
  rw [sw, bin, infr, lp]
  rfl
theorem mag_small {r : Nat} (h : r < 4503599627370496) : mag r = r := by unfold mag; rw [if_pos h]
theorem mag_big {r : Nat} (h : ¬ r < 4503599627370496) : mag r = (4503599627370496 + r % 4503599627370496) * 2 ^ (r / 4503599627370496 - 1) := by unfold mag; rw [if_neg h]
theorem mag_step (r : Nat) : mag r < mag (r + 1) := by
  by_cases h : r < 4503599627370496
  · by_cases h2 : r + 1 < 4503599627370496
    · rw [mag_small h, mag_small h2]; omega
    · rw [mag_small h, mag_big h2]
      have e : r + 1 = 4503599627370496 := by omega
      have q : (4503599627370496 + 4503599627370496 % 4503599627370496) * 2 ^ (4503599627370496 / 4503599627370496 - 1) = 4503599627370496 := by simp
      rw [e, q]; omega
  · have h2 : ¬ r + 1 < 4503599627370496 := by omega
    rw [mag_big h, mag_big h2]
    by_cases hm : r % 4503599627370496 = 4503599627370495
    · have e1 : (r + 1) % 4503599627370496 = 0 := by omega
      have e2 : (r + 1) / 4503599627370496 - 1 = (r / 4503599627370496 - 1) + 1 := by omega
      rw [e1, e2, hm, Nat.pow_succ]
      have hp : 0 < 2 ^ (r / 4503599627370496 - 1) := Nat.two_pow_pos _
      generalize 2 ^ (r / 4503599627370496 - 1) = p at hp
      omega
    · have e1 : (r + 1) % 4503599627370496 = r % 4503599627370496 + 1 := by omega
      have e2 : (r + 1) / 4503599627370496 = r / 4503599627370496 := by omega
      rw [e1, e2]
      exact Nat.mul_lt_mul_of_pos_right (by omega) (Nat.two_pow_pos _)
theorem mag_lt {r s : Nat} (h : r < s) : mag r < mag s := by
  obtain ⟨k, rfl⟩ : ∃ k, s = r + 1 + k := ⟨s - (r + 1), by omega⟩
  clear h
  induction k with
  | zero => exact mag_step r
  | succ k ih => exact Nat.lt_trans ih (mag_step _)
theorem mag_lt_iff {r s : Nat} : mag r < mag s ↔ r < s := by
  constructor
  · intro h
    by_cases c : r < s
    · exact c
    · rcases Nat.lt_or_eq_of_le (Nat.le_of_not_lt c) with c | c
      · have := mag_lt c; omega
      · subst c; omega
  · exact mag_lt
theorem mag_zero : mag 0 = 0 := rfl
/-- The signed size of a word, over 2 to the power -1074. -/
def sv (x : Nat) : Int := if sgn x then -(mag (rung x) : Int) else (mag (rung x) : Int)
theorem sv_lt {x y : Nat} : sv x < sv y ↔ srung x < srung y := by
  have h1 : mag (rung x) < mag (rung y) ↔ rung x < rung y := mag_lt_iff
  have h2 : mag (rung y) < mag (rung x) ↔ rung y < rung x := mag_lt_iff
  have h3 : 0 < mag (rung x) ↔ 0 < rung x := by have := @mag_lt_iff 0 (rung x); rwa [mag_zero] at this
  have h4 : 0 < mag (rung y) ↔ 0 < rung y := by have := @mag_lt_iff 0 (rung y); rwa [mag_zero] at this
  unfold sv srung
  split <;> split <;> omega
theorem compare_congr {a b c d : Int} (h : a < b ↔ c < d) (h' : b < a ↔ d < c) : compare a b = compare c d := by
  simp only [compare, compareOfLessAndEq]
  by_cases e : a < b
  · rw [if_pos e, if_pos (h.1 e)]
  · rw [if_neg e, if_neg (fun x => e (h.2 x))]
    by_cases f : a = b
    · rw [if_pos f, if_pos (by omega)]
    · rw [if_neg f, if_neg (by omega)]
theorem signed_eq (s : Bool) (m u : Nat) : signed s m u = if s then -((m * 2 ^ u : Nat) : Int) else ((m * 2 ^ u : Nat) : Int) := by
  unfold signed; rw [Nat.shiftLeft_eq]
theorem signed_scale (s : Bool) (m u k : Nat) : signed s m u * ((2 ^ k : Nat) : Int) = signed s m (u + k) := by
  rw [signed_eq, signed_eq, Nat.pow_add]
  have : (m * (2 ^ u * 2 ^ k)) = (m * 2 ^ u) * 2 ^ k := by rw [Nat.mul_assoc]
  rw [this]
  split
  · rw [Int.neg_mul]; rfl
  · rfl
theorem order_num (s t : Bool) (m n : Nat) (i j : Nat) :
    Datum.order (.number s m (-1074 + (i : Int))) (.number t n (-1074 + (j : Int))) = some (compare (signed s m i) (signed t n j)) := by
  simp only [Datum.order]
  congr 1
  obtain ⟨b, hb, h1, h2⟩ : ∃ b : Nat, min (-1074 + (i : Int)) (-1074 + (j : Int)) = -1074 + (b : Int) ∧ b ≤ i ∧ b ≤ j := by
    by_cases h : i ≤ j
    · exact ⟨i, by omega, by omega, h⟩
    · exact ⟨j, by omega, by omega, by omega⟩
  rw [hb]
  have e1 : (-1074 + (i : Int) - (-1074 + (b : Int))).toNat = i - b := by omega
  have e2 : (-1074 + (j : Int) - (-1074 + (b : Int))).toNat = j - b := by omega
  rw [e1, e2]
  have f1 := signed_scale s m (i - b) b
  have f2 := signed_scale t n (j - b) b
  rw [Nat.sub_add_cancel h1] at f1
  rw [Nat.sub_add_cancel h2] at f2
  rw [← f1, ← f2]
  have hp : (0 : Int) < ((2 ^ b : Nat) : Int) := by have := Nat.two_pow_pos b; omega
  apply compare_congr
  · exact (Int.mul_lt_mul_right hp).symm
  · exact (Int.mul_lt_mul_right hp).symm
/-- A finite word read. -/
theorem read_fin {x : Nat} (h : rung x < 9218868437227405312) : ∃ m i : Nat, double.read x = .number (sgn x) m (-1074 + (i : Int)) ∧ m * 2 ^ i = mag (rung x) := by
  rw [read_eq]
  by_cases c : rung x < 4503599627370496
  · rw [if_pos c]; exact ⟨rung x, 0, rfl, by rw [mag_small c]; simp⟩
  · rw [if_neg c, if_pos h]; exact ⟨_, _, rfl, by rw [mag_big c]⟩
theorem read_inf {x : Nat} (h : rung x = 9218868437227405312) : double.read x = .infinity (sgn x) := by
  rw [read_eq, if_neg (by omega), if_neg (by omega), if_pos h]
theorem read_nan {x : Nat} (h : isn x) : double.read x = .nan (sgn x) (rung x - 9218868437227405312) := by
  unfold isn at h
  rw [read_eq, if_neg (by omega), if_neg (by omega), if_neg (by omega)]
theorem rung_lt (x : Nat) : rung x < 9223372036854775808 := Nat.mod_lt _ (by decide)
theorem signed_sv {x m i : Nat} (h : m * 2 ^ i = mag (rung x)) : signed (sgn x) m i = sv x := by
  rw [signed_eq, h]; rfl
/-- THE ORDER OF TWO WORDS. -/
theorem order_eq (x y : Nat) : double.order x y = if isn x ∨ isn y then none else some (compare (srung x) (srung y)) := by
  unfold Format.order
  by_cases hx : isn x
  · rw [if_pos (Or.inl hx), read_nan hx]; rfl
  · by_cases hy : isn y
    · rw [if_pos (Or.inr hy), read_nan hy]; cases double.read x <;> rfl
    · rw [if_neg (fun h => h.elim hx hy)]
      have lx : rung x ≤ 9218868437227405312 := by unfold isn at hx; omega
      have ly : rung y ≤ 9218868437227405312 := by unfold isn at hy; omega
      rcases Nat.lt_or_eq_of_le lx with lx | lx <;> rcases Nat.lt_or_eq_of_le ly with ly | ly
      · obtain ⟨m, i, hm, em⟩ := read_fin lx
        obtain ⟨n, j, hn, en⟩ := read_fin ly
        rw [hm, hn, order_num, signed_sv em, signed_sv en]
        exact congrArg some (compare_congr sv_lt sv_lt)
      · obtain ⟨m, i, hm, em⟩ := read_fin lx
        rw [hm, read_inf ly]
        simp only [Datum.order, srung, ly]
        cases sgn y <;> simp only [if_true, if_false, Bool.false_eq_true] <;> congr 1 <;> symm
        · rw [show compare (if sgn x = true then -(rung x : Int) else (rung x : Int)) ((9218868437227405312 : Nat) : Int) = compare (0 : Int) 1 from compare_congr (by split <;> omega) (by split <;> omega)]; rfl
        · rw [show compare (if sgn x = true then -(rung x : Int) else (rung x : Int)) (-((9218868437227405312 : Nat) : Int)) = compare (1 : Int) 0 from compare_congr (by split <;> omega) (by split <;> omega)]; rfl
      · obtain ⟨n, j, hn, en⟩ := read_fin ly
        rw [hn, read_inf lx]
        simp only [Datum.order, srung, lx]
        cases sgn x <;> simp only [if_true, if_false, Bool.false_eq_true] <;> congr 1 <;> symm
        · rw [show compare ((9218868437227405312 : Nat) : Int) (if sgn y = true then -(rung y : Int) else (rung y : Int)) = compare (1 : Int) 0 from compare_congr (by split <;> omega) (by split <;> omega)]; rfl
        · rw [show compare (-((9218868437227405312 : Nat) : Int)) (if sgn y = true then -(rung y : Int) else (rung y : Int)) = compare (0 : Int) 1 from compare_congr (by split <;> omega) (by split <;> omega)]; rfl
      · rw [read_inf lx, read_inf ly]
        simp only [Datum.order, srung, lx, ly]
        cases sgn x <;> cases sgn y <;> decide
end Go.Proofs.YtajcapliokblfaaGreatDoor.Bt.Ff
set_option linter.unusedSimpArgs false
set_option linter.unusedVariables false
namespace Go.Proofs.YtajcapliokblfaaGreatDoor.Bt
open Go Ff
theorem ext_bits (b : Nat) (w : World) : (callFunc 57 #[.float .f64 b]).run Tryz.prog w = .ok (.value (.int .u64 b)) w := by kernel_rfl
theorem ext_from (b : Nat) (w : World) : (callFunc 52 #[.int .u64 b]).run Tryz.prog w = .ok (.value (.float .f64 b)) w := by kernel_rfl
theorem isn_iff (x : Nat) : isn x ↔ 9218868437227405312 < rung x := Iff.rfl
theorem isn_ne (x : Nat) : (FloatKind.f64.format.order x x != some Ordering.eq) = decide (isn x) := by
  rw [show FloatKind.f64.format.order x x = _ from order_eq x x]
  by_cases h : isn x
  · simp [h]
  · simp [h, compare, compareOfLessAndEq]
theorem and_not_top (x : Nat) (hx : x < 18446744073709551616) : bits BinOp.andNot IntKind.u64 (x : Int) 9223372036854775808 = ((rung x : Nat) : Int) := by
  rw [show (9223372036854775808 : Int) = ((9223372036854775808 : Nat) : Int) from rfl, u64_andNot_nat x _ hx (by decide)]
  congr 1
  exact Nat.and_two_pow_sub_one_eq_mod x 63
theorem and_top (x : Nat) (hx : x < 18446744073709551616) : bits BinOp.and IntKind.u64 (x : Int) 9223372036854775808 = if sgn x then 9223372036854775808 else 0 := by
  rw [show (9223372036854775808 : Int) = ((9223372036854775808 : Nat) : Int) from rfl, u64_and_nat x _ hx (by decide), nat_bit 63 x]
  unfold sgn
  by_cases h : x / 2 ^ 63 % 2 = 1
  · rw [h]; simp
  · have : x / 2 ^ 63 % 2 = 0 := by omega
    rw [this]; simp
def kind (x : Nat) : Nat := if isn x then 5 else if rung x = 9218868437227405312 then 4 else if rung x = 0 then 1 else if rung x < 4503599627370496 then 2 else 3
theorem ret_int {k : IntKind} {a b : Int} (h : a = b) : Ending.returned (.int k a) = .returned (.int k b) := by rw [h]
theorem ret_bool {a b : Bool} (h : a = b) : Ending.returned (.bool a) = .returned (.bool b) := by rw [h]
@[irreducible] def infB (x : Nat) : Bool := rung x == 9218868437227405312
theorem infB_true (x : Nat) : infB x = true ↔ rung x = 9218868437227405312 := by unfold infB; exact beq_iff_eq
@[local go_sem] theorem eq_inf (x : Nat) : ((rung x : Int) == 9218868437227405312) = infB x := by
  rw [Bool.eq_iff_iff, beq_iff_eq, infB_true]; omega
@[irreducible] def subB (x : Nat) : Bool := decide (rung x < 4503599627370496)
theorem subB_true (x : Nat) : subB x = true ↔ rung x < 4503599627370496 := by unfold subB; exact decide_eq_true_iff
@[local go_sem] theorem lt_sub (x : Nat) : decide ((rung x : Int) < 4503599627370496) = subB x := by
  rw [Bool.eq_iff_iff, decide_eq_true_iff, subB_true]; omega
set_option maxRecDepth 100000 in
theorem KindOf_c (x : Nat) (hx : x < 18446744073709551616) (w : World) :
    Calls Tryz.prog 198 #[.float .f64 x] w fun e w' => e = .returned (.int .u8 (kind x)) ∧ w = w' := by
  have h44 := ext_bits
  have hb := and_not_top x hx
  have hn := isn_ne x
  have hr := rung_lt x
  go_enter Tryz.func198, Tryz.ntmps198
  go_wp2
  all_goals go_ret
  all_goals refine ⟨ret_int ?_, rfl⟩
  all_goals go_light
  all_goals clear h44 hb hn
  all_goals simp only [kind, isn_iff, beq_iff_eq, beq_eq_false_iff_ne, bne_iff_ne, bne_eq_false_iff_eq, ne_eq] at *
  all_goals repeat' split
  all_goals omega
end Go.Proofs.YtajcapliokblfaaGreatDoor.Bt
set_option linter.unusedSimpArgs false
set_option linter.unusedVariables false
namespace Go.Proofs.YtajcapliokblfaaGreatDoor.Bt
open Go Go.RowKit Ff
@[irreducible] def finB (x : Nat) : Bool := decide (rung x < 9218868437227405312)
theorem finB_true (x : Nat) : finB x = true ↔ rung x < 9218868437227405312 := by unfold finB; exact decide_eq_true_iff
theorem kind_lt (x : Nat) : decide ((kind x : Int) < 4) = finB x := by
  rw [Bool.eq_iff_iff, decide_eq_true_iff, finB_true]
  simp only [kind, isn_iff]
  repeat' split
  all_goals omega
theorem Finite_c (x : Nat) (hx : x < 18446744073709551616) (w : World) :
    Calls Tryz.prog 185 #[.float .f64 x] w fun e w' => e = .returned (.bool (finB x)) ∧ w = w' := by
  go_enter Tryz.func185, Tryz.ntmps185
  go_wp2_with (go_at_call 198; refine (KindOf_c _ hx _).mono ?_; rintro e w' ⟨rfl, rfl⟩)
  go_ret
  exact ⟨ret_bool (kind_lt x), rfl⟩
@[irreducible] def topped (b : Nat) : Nat := 9223372036854775808 + b
theorem topped_eq (b : Nat) : topped b = 9223372036854775808 + b := by unfold topped; rfl
@[irreducible] def wf (neg : Bool) (r : Nat) : Nat := if neg then topped r else r
theorem wf_eq (neg : Bool) (r : Nat) : wf neg r = if neg then topped r else r := by unfold wf; rfl
theorem signed_b (neg : Bool) (b : Nat) (hb : b < 9223372036854775808) (w : World) :
    Calls Tryz.prog 192 #[.bool neg, .int .u64 b] w fun e w' => e = .returned (.float .f64 (wf neg b)) ∧ w = w' := by
  have h12 := ext_from
  have ho : bits BinOp.or IntKind.u64 (b : Int) 9223372036854775808 = ((topped b : Nat) : Int) := by
    rw [topped_eq, show (9223372036854775808 : Int) = ((9223372036854775808 : Nat) : Int) from rfl, u64_or_nat b _ (by omega) (by decide), Nat.or_comm]
    congr 1
    exact nat_join 63 _ _ (by decide) hb
  cases neg
  all_goals
    go_enter Tryz.func192, Tryz.ntmps192
    go_wp2
    all_goals go_ret
    all_goals exact ⟨by rw [wf_eq]; rfl, rfl⟩
theorem sub_self (x : Nat) (h : rung x < 9218868437227405312) : floatBits .sub .f64 x x = some 0 := by
  show Ieee.double.sub x x = some 0
  obtain ⟨m, i, hm, _⟩ := read_fin h
  unfold Ieee.Format.sub
  rw [hm]
  simp only [Ieee.Datum.opposite, Ieee.Datum.sum, Int.min_self, Int.sub_self]
  have e : Ieee.signed (sgn x) m (Int.toNat 0) + Ieee.signed (!sgn x) m (Int.toNat 0) = 0 := by
    rw [signed_eq, signed_eq]; cases sgn x <;> simp <;> omega
  rw [e]
  simp only [if_true, Bool.and_not_self]
  rfl
theorem sub_inf (x : Nat) (h : rung x = 9218868437227405312) : Ieee.double.sub x x = none := by
  unfold Ieee.Format.sub
  rw [read_inf h]
  cases sgn x <;> rfl
theorem order_zz : (FloatKind.f64.format.order 0 0 == some Ordering.eq) = true := by decide
@[irreducible] def nanAt (w : World) (x y : Nat) : Nat := (Question.nanBits .f64 x y).cut (w.tape w.drawn (.nanBits .f64 x y))
theorem nanAt_isn (w : World) (x y : Nat) : isn (nanAt w x y) := by
  unfold nanAt Question.cut isn rung
  simp only
  generalize w.tape w.drawn (.nanBits .f64 x y) = t
  have h2 : t / 2 % (2 ^ 52 - 1) < 4503599627370495 := Nat.mod_lt _ (by decide)
  generalize t / 2 % (2 ^ 52 - 1) = u at h2
  have h3 : t % 2 = 0 ∨ t % 2 = 1 := by omega
  rcases h3 with h3 | h3 <;> rw [h3] <;> omega
theorem run_sub_nan (t : TypeId) (x y : Nat) (h : Ieee.double.sub x y = none) (w : World) :
    (binOp .sub t (.float .f64 x) (.float .f64 y)).run Tryz.prog w = .ok (.float .f64 (nanAt w x y)) w.drew := by
  have h' : FloatKind.f64.format.sub x y = none := h
  simp [binOp, Op.floatArith, h', nanAt, Question.forced]
end Go.Proofs.YtajcapliokblfaaGreatDoor.Bt
set_option linter.unusedSimpArgs false
set_option linter.unusedVariables false
namespace Go.Proofs.YtajcapliokblfaaGreatDoor.Bt
open Go
def tz (m : Nat) : Nat := Lib.ctz 64 m
def od (m : Nat) : Nat := m / 2 ^ tz m
theorem tz_spec {m : Nat} (h0 : 0 < m) (hm : m < 18446744073709551616) : od m * 2 ^ tz m = m ∧ od m % 2 = 1 ∧ tz m < 64 := by
  obtain ⟨q, hq, hk⟩ := Lib.ctzFrom_spec 64 m h0 (by omega)
  have e : tz m = Lib.ctzFrom 64 m := by unfold tz Lib.ctz; rw [if_neg (by omega)]
  have e2 : od m = 2 * q + 1 := by
    unfold od; rw [e]
    have hp := Nat.two_pow_pos (Lib.ctzFrom 64 m)
    generalize Lib.ctzFrom 64 m = k at hq hp ⊢
    rw [hq, Nat.mul_comm, Nat.mul_div_cancel _ hp]
  refine ⟨?_, by omega, by omega⟩
  rw [e2, e, Nat.mul_comm]; exact hq.symm
theorem od_pos {m : Nat} (h0 : 0 < m) (hm : m < 18446744073709551616) : 0 < od m := by have := (tz_spec h0 hm).2.1; omega
theorem od_le {m : Nat} : od m ≤ m := Nat.div_le_self _ _
theorem bl_spec : ∀ (f m : Nat), m < 2 ^ f → m < 2 ^ Lib.bitLenAux f m ∧ (0 < m → 2 ^ Lib.bitLenAux f m ≤ 2 * m) ∧ Lib.bitLenAux f m ≤ f
  | 0, m, h => by simp at h; subst h; simp [Lib.bitLenAux]
  | f + 1, m, h => by
    rw [Lib.bitLenAux]
    by_cases c : m = 0
    · rw [if_pos c]; subst c; simp
    · rw [if_neg c]
      have hp := Nat.pow_succ (n := 2) (m := f)
      obtain ⟨h1, h2, h3⟩ := bl_spec f (m / 2) (by omega)
      rw [Nat.add_comm 1, Nat.pow_succ]
      refine ⟨by omega, fun _ => ?_, by omega⟩
      by_cases c2 : m / 2 = 0
      · have : m = 1 := by omega
        subst this
        have e : Lib.bitLenAux f (1 / 2) = 0 := by cases f <;> simp [Lib.bitLenAux]
        rw [e]; decide
      · have := h2 (by omega); omega
theorem bl_lt {m : Nat} (h : m < 18446744073709551616) : m < 2 ^ Lib.bitLen m := (bl_spec 64 m h).1
theorem bl_ge {m : Nat} (h : m < 18446744073709551616) (h0 : 0 < m) : 2 ^ Lib.bitLen m ≤ 2 * m := (bl_spec 64 m h).2.1 h0
theorem bl_le {m : Nat} (h : m < 18446744073709551616) : Lib.bitLen m ≤ 64 := (bl_spec 64 m h).2.2
theorem bl_pos {m : Nat} (h0 : 0 < m) : 0 < Lib.bitLen m := by
  unfold Lib.bitLen Lib.bitLenAux; rw [if_neg (by omega)]; omega
end Go.Proofs.YtajcapliokblfaaGreatDoor.Bt
set_option linter.unusedSimpArgs false
set_option linter.unusedVariables false
namespace Go.Proofs.YtajcapliokblfaaGreatDoor.Bt
open Go Go.RowKit Ff
/-- What stands in the worlds of these calls: the table of the library's. -/
def Tabs (w : World) : Prop := TabAt 4 Lib.deBruijn64tab w ∧ 4 < w.heap.size
theorem Tabs.below {w w' : World} (h : Tabs w) (hb : Below w.heap.size w w') : Tabs w' :=
  ⟨fun j hj => by rw [hb.cell (p := ⟨4, j, none⟩) h.2]; exact h.1 j hj, Nat.lt_of_lt_of_le h.2 hb.size⟩
@[irreducible] def frac (x : Nat) : Nat := rung x % 4503599627370496
@[irreducible] def pm (x : Nat) : Nat := if rung x < 4503599627370496 then rung x else 4503599627370496 + rung x % 4503599627370496
@[irreducible] def pex (x : Nat) : Int := if rung x < 4503599627370496 then -1074 else -1074 + ((rung x / 4503599627370496 - 1 : Nat) : Int)
def partM (x : Nat) : Nat := if rung x = 0 then 0 else od (pm x)
def partE (x : Nat) : Int := if rung x = 0 then 0 else pex x + tz (pm x)
theorem frac_eq (x : Nat) : frac x = rung x % 4503599627370496 := by unfold frac; rfl
theorem pm_sub {x : Nat} (h : rung x < 4503599627370496) : pm x = rung x := by unfold pm; rw [if_pos h]
theorem pm_nor {x : Nat} (h : ¬ rung x < 4503599627370496) : pm x = 4503599627370496 + frac x := by unfold pm; rw [if_neg h, frac_eq]
theorem pex_sub {x : Nat} (h : rung x < 4503599627370496) : pex x = -1074 := by unfold pex; rw [if_pos h]
theorem pex_nor {x : Nat} (h : ¬ rung x < 4503599627370496) : pex x = -1074 + ((rung x / 4503599627370496 - 1 : Nat) : Int) := by unfold pex; rw [if_neg h]
theorem pm_pos {x : Nat} (h : rung x ≠ 0) : 0 < pm x := by unfold pm; split <;> omega
theorem pm_lt (x : Nat) : pm x < 9007199254740992 := by unfold pm; split <;> omega
theorem frac_and (x : Nat) : bits BinOp.and IntKind.u64 (rung x : Int) 4503599627370495 = (frac x : Int) := by
  have := rung_lt x
  rw [show (4503599627370495 : Int) = ((4503599627370495 : Nat) : Int) from rfl, u64_and_nat (rung x) _ (by omega) (by decide), frac_eq]
  congr 1
  exact Nat.and_two_pow_sub_one_eq_mod (rung x) 52
theorem frac_or (x : Nat) (h : ¬ rung x < 4503599627370496) : bits BinOp.or IntKind.u64 (frac x : Int) 4503599627370496 = (pm x : Int) := by
  have := rung_lt x
  have hf : frac x < 4503599627370496 := by rw [frac_eq]; omega
  rw [show (4503599627370496 : Int) = ((4503599627370496 : Nat) : Int) from rfl, u64_or_nat (frac x) _ (by omega) (by decide), pm_nor h, Nat.or_comm]
  congr 1
  exact nat_join 52 _ _ (by decide) hf
theorem frac_sub {x : Nat} (h : rung x < 4503599627370496) : (frac x : Int) = (pm x : Int) := by rw [frac_eq, pm_sub h, Nat.mod_eq_of_lt h]
@[irreducible] def topB (x : Nat) : Nat := if sgn x then 9223372036854775808 else 0
theorem top_and (x : Nat) (hx : x < 18446744073709551616) : bits BinOp.and IntKind.u64 (x : Int) 9223372036854775808 = (topB x : Int) := by
  rw [and_top x hx]; unfold topB; split <;> rfl
theorem top_ne (x : Nat) : ((topB x : Int) != 0) = sgn x := by
  unfold topB; cases sgn x <;> rfl
theorem partM_shift {x : Nat} (h0 : rung x ≠ 0) : (pm x : Int) / 2 ^ min (Lib.ctz 64 (pm x)) 64 = partM x := by
  have h := tz_spec (pm_pos h0) (by have := pm_lt x; omega)
  have e : min (Lib.ctz 64 (pm x)) 64 = tz (pm x) := by have := h.2.2; unfold tz at this ⊢; omega
  rw [e]; unfold partM od; rw [if_neg h0]; norm_cast
theorem partM_od {x : Nat} (h0 : rung x ≠ 0) : partM x = od (pm x) := by unfold partM; rw [if_neg h0]
theorem partE_eq {x : Nat} (h0 : rung x ≠ 0) : partE x = pex x + Lib.ctz 64 (pm x) := by unfold partE tz; rw [if_neg h0]
theorem ctz_le {x : Nat} (h0 : rung x ≠ 0) : Lib.ctz 64 (pm x) < 64 := (tz_spec (pm_pos h0) (by have := pm_lt x; omega)).2.2
theorem Parts_no (x : Nat) (hx : x < 18446744073709551616) (hf : finB x = false) (w : World) :
    Calls Tryz.prog 160 #[.float .f64 x] w fun e w' => e = .returned (.tuple #[.bool false, .int .u64 0, .int .i64 0, .bool false]) ∧ w = w' := by
  go_enter Tryz.func160, Tryz.ntmps160
  go_wp2_with (go_at_call 185; refine (Finite_c _ hx _).mono ?_; rintro e w' ⟨rfl, rfl⟩)
  exact bodyPost_ret (by simp [results, Tryz.results160, go_sem]) rfl ⟨rfl, rfl⟩
theorem Parts_yes (x : Nat) (hx : x < 18446744073709551616) (hf : finB x = true) (w : World) (ht : Tabs w) :
    Calls Tryz.prog 160 #[.float .f64 x] w fun e w' => e = .returned (.tuple #[.bool (sgn x), .int .u64 (partM x), .int .i64 (partE x), .bool true]) ∧ w = w' := by
  have h44 := ext_bits
  have hb := and_not_top x hx
  have ha := top_and x hx
  have hs := top_ne x
  have h1 := frac_and x
  have hr := (finB_true x).1 hf
  by_cases h0 : rung x = 0
  · have hz : ((rung x : Int) == 0) = true := by rw [h0]; rfl
    have em : partM x = 0 := by unfold partM; rw [if_pos h0]
    have ee : partE x = 0 := by unfold partE; rw [if_pos h0]
    go_enter Tryz.func160, Tryz.ntmps160
    go_wp2_with (go_at_call 185; refine (Finite_c _ hx _).mono ?_; rintro e w' ⟨rfl, rfl⟩)
    exact bodyPost_ret (v := .tuple #[.bool (sgn x), .int .u64 (partM x), .int .i64 (partE x), .bool true]) (by simp [results, Tryz.results160, go_sem, em, ee]) rfl ⟨rfl, rfl⟩
  · have hz : ((rung x : Int) == 0) = false := by rw [beq_eq_false_iff_ne]; omega
    have hq := pm_lt x
    by_cases hn : rung x < 4503599627370496
    · have hd : ((rung x : Int) / 4503599627370496 != 0) = false := by rw [bne_eq_false_iff_eq]; omega
      have h2 := frac_sub hn
      go_enter Tryz.func160, Tryz.ntmps160
      go_wp2_with (first | (go_at_call 185; refine (Finite_c _ hx _).mono ?_; rintro e w' ⟨rfl, rfl⟩) | (go_at_call 186; refine (Tryz.bits_TrailingZeros64 _ (by omega) _ (fun _ => ht.1)).mono ?_; rintro e w' ⟨rfl, rfl⟩))
      refine bodyPost_ret (v := .tuple #[.bool (sgn x), .int .u64 (partM x), .int .i64 (partE x), .bool true]) ?_ rfl ⟨rfl, rfl⟩
      simp [results, Tryz.results160, go_sem]
      refine ⟨partM_shift h0, ?_⟩
      rw [partE_eq h0, pex_sub hn, IntWalk.wrap64_in]
      have := ctz_le h0; omega
    · have hd : ((rung x : Int) / 4503599627370496 != 0) = true := by rw [bne_iff_ne]; omega
      have h2 := frac_or x hn
      go_enter Tryz.func160, Tryz.ntmps160
      go_wp2_with (first | (go_at_call 185; refine (Finite_c _ hx _).mono ?_; rintro e w' ⟨rfl, rfl⟩) | (go_at_call 186; refine (Tryz.bits_TrailingZeros64 _ (by omega) _ (fun _ => ht.1)).mono ?_; rintro e w' ⟨rfl, rfl⟩))
      refine bodyPost_ret (v := .tuple #[.bool (sgn x), .int .u64 (partM x), .int .i64 (partE x), .bool true]) ?_ rfl ⟨rfl, rfl⟩
      simp [results, Tryz.results160, go_sem]
      refine ⟨partM_shift h0, ?_⟩
      rw [partE_eq h0, pex_nor hn, IntWalk.wrap64_in]
      · omega
      · have := ctz_le h0; omega
end Go.Proofs.YtajcapliokblfaaGreatDoor.Bt
set_option linter.unusedSimpArgs false
set_option linter.unusedVariables false
namespace Go.Proofs.YtajcapliokblfaaGreatDoor
open Go Go.RowKit Nt
theorem tabs_of {w : World} (h : Globs glT w) : Bt.Tabs w := by
  have hlk : look 4 glT = some (Lib.deBruijn64tab.map fun (x : Nat) => AV.lit (.int .u8 (x : Nat))) := by
    unfold glT; rw [look_cons, if_pos rfl]
  obtain ⟨h1, h2⟩ := h _ _ hlk
  refine ⟨fun j hj => ?_, h1⟩
  obtain ⟨u, e, c⟩ := h2 j (AV.lit (.int .u8 ((Lib.deBruijn64tab[j]'hj : Nat) : Int))) (by rw [List.getElem?_map, List.getElem?_eq_getElem hj]; rfl)
  injection e with e
  rw [c, ← e]
  simp [List.getD, List.getElem?_eq_getElem hj]
/-- The mantissa and the exponent of a float that is finite. -/
theorem pm_small (x : Nat) : Bt.pm x < 18446744073709551616 := Nat.lt_trans (Bt.pm_lt x) (by decide)
theorem tz_low {m : Nat} (h0 : 0 < m) (hm : m < 18446744073709551616) : lowN m = Bt.tz m ∧ odN m = Bt.od m := by
  obtain ⟨h1, h2, _⟩ := Bt.tz_spec h0 hm
  exact od_unique h2 h1.symm
theorem pex_bounds {x : Nat} (hx : x < 18446744073709551616) (hf : Bt.finB x = true) : -1074 ≤ Bt.pex x ∧ Bt.pex x ≤ 971 := by
  have hr := (Bt.finB_true x).1 hf
  by_cases h : Bt.Ff.rung x < 4503599627370496
  · rw [Bt.pex_sub h]; omega
  · rw [Bt.pex_nor h]; omega
theorem float_ok {x : Nat} (hx : x < 18446744073709551616) (hf : Bt.finB x = true) : mkOk3 (Bt.pm x) (Bt.pex x) := by
  by_cases h0 : Bt.pm x = 0
  · exact Or.inl h0
  · have h1 := (Bt.tz_spec (by omega) (pm_small x)).2.2
    have h2 := (tz_low (by omega) (pm_small x)).1
    have h3 := pex_bounds hx hf
    refine Or.inr ⟨?_, by omega, by omega⟩
    exact fits_le (abs_fits (pm_small x)) (odN_le _)
theorem rung_pm {x : Nat} (h : Bt.Ff.rung x = 0) : Bt.pm x = 0 := by rw [Bt.pm_sub (by omega), h]
/-- What is made of a float. -/
def FlPost (x : Nat) (w : World) (e : Ending) (w' : World) : Prop := e = .returned (.tuple #[(mkD (Bt.Ff.sgn x) (Bt.pm x) (Bt.pex x)).v, .int .i64 0]) ∧ Below w.heap.size w w'
theorem box_tabs {w : World} {b : Obj} (h : Bt.Tabs w) : Bt.Tabs (w.alloc b) := h.below ((Below.refl _ _).alloc (Nat.le_refl _) _)
set_option maxRecDepth 100000 in
theorem DFloat_no (x : Nat) (hx : x < 18446744073709551616) (hf : Bt.finB x = false) (w : World) :
    Calls Tryz.prog 108 #[.float .f64 x] w fun e w' => e = .returned (.tuple #[.agg #[.bool false, .string ⟨#[]⟩, .int .i64 0], .int .i64 5]) ∧ Below w.heap.size w w' := by
  have K := Lib.hid (fun w => Bt.Parts_no x hx hf w)
  go_enter Tryz.func108, Tryz.ntmps108
  go_wp2_with (go_at_call 160; refine (K.out _).mono ?_; rintro e w1 ⟨rfl, rfl⟩)
  refine bodyPost_ret (v := .tuple #[.agg #[.bool false, .string ⟨#[]⟩, .int .i64 0], .int .i64 5]) (by simp [results, Tryz.results108, go_sem]) rfl ⟨rfl, ?_⟩
  repeat (refine Below.setCell ?_ (by simp) _)
  exact (Below.refl _ _).alloc (Nat.le_refl _) _
set_option maxRecDepth 100000 in
theorem DFloat_c (x : Nat) (hx : x < 18446744073709551616) (hf : Bt.finB x = true) (w : World) (hT : Bt.Tabs w) :
    Calls Tryz.prog 108 #[.float .f64 x] w (FlPost x w) := by
  have K : Hid (∀ b, Calls Tryz.prog 160 #[.float .f64 x] (w.alloc b) fun e w' => e = .returned (.tuple #[.bool (Bt.Ff.sgn x), .int .u64 (Bt.partM x), .int .i64 (Bt.partE x), .bool true]) ∧ w.alloc b = w') := Lib.hid (fun b => Bt.Parts_yes x hx hf (w.alloc b) (box_tabs hT))
  by_cases h0 : Bt.Ff.rung x = 0
  · have hz : Bt.partM x = 0 := by unfold Bt.partM; rw [if_pos h0]
    have hd : mkD (Bt.Ff.sgn x) (Bt.pm x) (Bt.pex x) = Dy.zero := by rw [rung_pm h0, mkD_zero]
    rw [hz] at K
    unfold FlPost
    rw [hd, Dy.zero_v]
    clear hd hz h0 hf
    go_enter Tryz.func108, Tryz.ntmps108
    go_wp2_with (go_at_call 160; refine (K.out _).mono ?_; rintro e w1 ⟨rfl, rfl⟩)
    refine bodyPost_ret (v := .tuple #[.agg #[.bool false, .string ⟨#[]⟩, .int .i64 0], .int .i64 0]) (by simp [results, Tryz.results108, go_sem]) rfl ⟨rfl, ?_⟩
    repeat (refine Below.setCell ?_ (by simp) _)
    exact (Below.refl _ _).alloc (Nat.le_refl _) _
  · have hp := Bt.pm_pos h0
    have h2 := tz_low hp (pm_small x)
    have hd : mkD (Bt.Ff.sgn x) (Bt.pm x) (Bt.pex x) = ⟨Bt.Ff.sgn x, Bt.partM x, Bt.partE x⟩ := by
      rw [mkD_ok (by omega) (float_ok hx hf), h2.1, h2.2, Bt.partM_od h0, Bt.partE_eq h0]; rfl
    have hm : Bt.partM x < 18446744073709551616 := by rw [Bt.partM_od h0]; exact Nat.lt_of_le_of_lt Bt.od_le (pm_small x)
    have hz : ((Bt.partM x : Nat) : Int) ≠ 0 := by have := Bt.od_pos hp (pm_small x); rw [Bt.partM_od h0]; omega
    have hz2 : (((Bt.partM x : Nat) : Int) == 0) = false := by rw [beq_eq_false_iff_ne]; exact hz
    have KO := Lib.hid (fun w => Of_n (Bt.partM x) w hm)
    unfold FlPost
    rw [hd]
    clear hd h0 hf h2 hp hm
    generalize Bt.partM x = m at *
    generalize Bt.partE x = q at *
    generalize Bt.Ff.sgn x = g at *
    unfold Dy.v
    go_enter Tryz.func108, Tryz.ntmps108
    go_wp2_with (first
      | (go_at_call 160; refine (K.out _).mono ?_; rintro e w1 ⟨rfl, rfl⟩)
      | (go_at_call 74; refine (KO.out _).mono ?_; rintro e w1 ⟨rfl, hb⟩; obtain ⟨hcl, hfz⟩ := bcell hb; have hsz := box1 hb))
    refine bodyPost_ret (v := .tuple #[.agg #[.bool g, .string (natS m), .int .i64 q], .int .i64 0]) (by simp [results, Tryz.results108, go_sem, hcl, hsz]) rfl ⟨rfl, ?_⟩
    repeat (refine Below.setCell ?_ (by simp) _)
    exact box_below hb
end Go.Proofs.YtajcapliokblfaaGreatDoor
set_option linter.unusedSimpArgs false
set_option linter.unusedVariables false
namespace Go.Proofs.YtajcapliokblfaaGreatDoor.Bt
open Go Go.RowKit Ff
/-- The float of odd q times 2 to the power e, by its rung; where it is one. -/
@[irreducible] def mkR (q : Nat) (e : Int) : Nat := if e + Lib.bitLen q > -1022 then q * 2 ^ (53 - Lib.bitLen q) - 4503599627370496 + (e + Lib.bitLen q + 1022).toNat * 4503599627370496 else q * 2 ^ (e + 1074).toNat
def mkOk (q : Nat) (e : Int) : Prop := Lib.bitLen q ≤ 53 ∧ -1074 ≤ e ∧ e + Lib.bitLen q - 1 ≤ 1023
instance (q : Nat) (e : Int) : Decidable (mkOk q e) := by unfold mkOk; exact inferInstance
theorem Make_zero (neg : Bool) (e : Int) (w : World) :
    Calls Tryz.prog 178 #[.bool neg, .int .u64 0, .int .i64 e] w fun r w' => r = .returned (.tuple #[.float .f64 (wf neg 0), .bool true]) ∧ w = w' := by
  go_enter Tryz.func178, Tryz.ntmps178
  go_wp2_with (go_at_call 192; refine (signed_b neg 0 (by decide) _).mono ?_; rintro e w' ⟨rfl, rfl⟩)
  go_ret2
  exact ⟨rfl, rfl⟩
theorem Make_far (neg : Bool) (m : Nat) (h0 : m ≠ 0) (e : Int) (he : 1023 < e ∨ e < -1137) (w : World) :
    Calls Tryz.prog 178 #[.bool neg, .int .u64 m, .int .i64 e] w fun r w' => r = .returned (.tuple #[.float .f64 0, .bool false]) ∧ w = w' := by
  have hz : ((m : Int) == 0) = false := by rw [beq_eq_false_iff_ne]; omega
  rcases he with he | he
  · go_enter Tryz.func178, Tryz.ntmps178
    go_wp2
    go_ret2
    exact ⟨rfl, rfl⟩
  · have he2 : ¬ 1023 < e := by omega
    go_enter Tryz.func178, Tryz.ntmps178
    go_wp2
    go_ret2
    exact ⟨rfl, rfl⟩
theorem shr_tz {m : Nat} (h0 : 0 < m) (hm : m < 18446744073709551616) : (m : Int) / 2 ^ Lib.ctz 64 m = (od m : Int) := by
  unfold od tz; norm_cast
theorem mkOk_bits {q : Nat} {e : Int} (h : mkOk q e) : Lib.bitLen q ≤ 53 ∧ -1074 ≤ e ∧ e + Lib.bitLen q - 1 ≤ 1023 := h
theorem Make_bad (neg : Bool) (m : Nat) (h0 : 0 < m) (hm : m < 18446744073709551616) (e : Int) (he1 : e ≤ 1023) (he2 : -1137 ≤ e) (hk : ¬ mkOk (od m) (e + tz m)) (w : World) (ht : Tabs w) :
    Calls Tryz.prog 178 #[.bool neg, .int .u64 m, .int .i64 e] w fun r w' => r = .returned (.tuple #[.float .f64 0, .bool false]) ∧ w = w' := by
  have hz : ((m : Int) == 0) = false := by rw [beq_eq_false_iff_ne]; omega
  have g1 : ¬ 1023 < e := by omega
  have g2 : ¬ e < -1137 := by omega
  have hs := shr_tz h0 hm
  have hk' : Lib.ctz 64 m < 64 := (tz_spec h0 hm).2.2
  have hq1 : od m < 18446744073709551616 := Nat.lt_of_le_of_lt od_le hm
  have hb := bl_le hq1
  unfold mkOk tz at hk
  by_cases c1 : 53 < (Lib.bitLen (od m) : Int)
  · clear hk
    go_enter Tryz.func178, Tryz.ntmps178
    go_wp2_with (first | (go_at_call 186; refine (Tryz.bits_TrailingZeros64 _ (by omega) _ (fun _ => ht.1)).mono ?_; rintro e w' ⟨rfl, rfl⟩) | (go_at_call 169; refine (Tryz.bits_Len64 _ _ (by omega) (by omega)).mono ?_; rintro e w' ⟨rfl, rfl⟩))
    go_ret2
    exact ⟨rfl, rfl⟩
  · by_cases c2 : e + (Lib.ctz 64 m : Int) < -1074
    · clear hk
      go_enter Tryz.func178, Tryz.ntmps178
      go_wp2_with (first | (go_at_call 186; refine (Tryz.bits_TrailingZeros64 _ (by omega) _ (fun _ => ht.1)).mono ?_; rintro e w' ⟨rfl, rfl⟩) | (go_at_call 169; refine (Tryz.bits_Len64 _ _ (by omega) (by omega)).mono ?_; rintro e w' ⟨rfl, rfl⟩))
      go_ret2
      exact ⟨rfl, rfl⟩
    · have c3 : 1023 < e + (Lib.ctz 64 m : Int) + (Lib.bitLen (od m) : Int) - 1 := by omega
      clear hk
      go_enter Tryz.func178, Tryz.ntmps178
      go_wp2_with (first | (go_at_call 186; refine (Tryz.bits_TrailingZeros64 _ (by omega) _ (fun _ => ht.1)).mono ?_; rintro e w' ⟨rfl, rfl⟩) | (go_at_call 169; refine (Tryz.bits_Len64 _ _ (by omega) (by omega)).mono ?_; rintro e w' ⟨rfl, rfl⟩))
      go_ret2
      exact ⟨rfl, rfl⟩
theorem mul_lt_pow {q B k : Nat} (h : q < 2 ^ B) : q * 2 ^ k < 2 ^ (B + k) := by
  rw [Nat.pow_add]; exact Nat.mul_lt_mul_of_pos_right h (Nat.two_pow_pos k)
theorem mkR_sub {q : Nat} {e : Int} (h : ¬ e + Lib.bitLen q > -1022) : mkR q e = q * 2 ^ (e + 1074).toNat := by unfold mkR; rw [if_neg h]
theorem mkR_nor {q : Nat} {e : Int} (h : e + Lib.bitLen q > -1022) : mkR q e = q * 2 ^ (53 - Lib.bitLen q) - 4503599627370496 + (e + Lib.bitLen q + 1022).toNat * 4503599627370496 := by unfold mkR; rw [if_pos h]
theorem sub_small {q : Nat} {e : Int} (hq : q < 18446744073709551616) (h : mkOk q e) (hs : ¬ e + Lib.bitLen q > -1022) : q * 2 ^ (e + 1074).toNat < 4503599627370496 := by
  obtain ⟨h1, h2, h3⟩ := mkOk_bits h
  refine Nat.lt_of_lt_of_le (mul_lt_pow (bl_lt hq)) ?_
  have p := Nat.pow_le_pow_right (n := 2) (by decide) (show Lib.bitLen q + (e + 1074).toNat ≤ 52 by omega)
  exact p
theorem nor_small {q : Nat} {e : Int} (hq0 : 0 < q) (hq : q < 18446744073709551616) (h : mkOk q e) : 4503599627370496 ≤ q * 2 ^ (53 - Lib.bitLen q) ∧ q * 2 ^ (53 - Lib.bitLen q) < 9007199254740992 := by
  obtain ⟨h1, h2, h3⟩ := mkOk_bits h
  constructor
  · have g := bl_ge hq hq0
    have p : 2 ^ Lib.bitLen q * 2 ^ (53 - Lib.bitLen q) = 9007199254740992 := by rw [← Nat.pow_add, show Lib.bitLen q + (53 - Lib.bitLen q) = 53 by omega]
    have := Nat.mul_le_mul_right (2 ^ (53 - Lib.bitLen q)) g
    rw [p, Nat.mul_assoc] at this
    omega
  · have := mul_lt_pow (k := 53 - Lib.bitLen q) (bl_lt hq)
    rw [show Lib.bitLen q + (53 - Lib.bitLen q) = 53 by omega] at this
    exact this
theorem mkR_lt {q : Nat} {e : Int} (hq0 : 0 < q) (hq : q < 18446744073709551616) (h : mkOk q e) : mkR q e < 9218868437227405312 := by
  obtain ⟨h1, h2, h3⟩ := mkOk_bits h
  by_cases c : e + Lib.bitLen q > -1022
  · rw [mkR_nor c]
    have := (nor_small hq0 hq h).2
    omega
  · rw [mkR_sub c]
    have := sub_small hq h c
    omega
theorem cast_mul_pow (a k : Nat) : (a : Int) * 2 ^ k = ((a * 2 ^ k : Nat) : Int) := by rw [Int.natCast_mul, Int.natCast_pow]; rfl
theorem mk_sub {m : Nat} {e : Int} (hq : od m < 18446744073709551616) (h : mkOk (od m) (e + tz m)) (c : ¬ -1023 < e + (Lib.ctz 64 m : Int) + (Lib.bitLen (od m) : Int) - 1) :
    IntKind.u64.wrap ((od m : Int) * 2 ^ (e + (Lib.ctz 64 m : Int) + 1074).toNat) = (mkR (od m) (e + tz m) : Int) := by
  have c' : ¬ e + (tz m : Int) + Lib.bitLen (od m) > -1022 := by unfold tz; omega
  rw [mkR_sub c', IntKind.wrap_u64]
  have := sub_small hq h c'
  unfold tz at this ⊢
  rw [cast_mul_pow]
  omega
theorem mk_nor {m : Nat} {e : Int} (hq0 : 0 < od m) (hq : od m < 18446744073709551616) (h : mkOk (od m) (e + tz m)) (c : -1023 < e + (Lib.ctz 64 m : Int) + (Lib.bitLen (od m) : Int) - 1) :
    bits BinOp.or IntKind.u64 (bits BinOp.and IntKind.u64 (IntKind.u64.wrap ((od m : Int) * 2 ^ (53 - Lib.bitLen (od m)))) 4503599627370495)
      ((e + (Lib.ctz 64 m : Int) + (Lib.bitLen (od m) : Int) - 1 + 1023) * 4503599627370496) = (mkR (od m) (e + tz m) : Int) := by
  have c' : e + (tz m : Int) + Lib.bitLen (od m) > -1022 := by unfold tz; omega
  obtain ⟨n1, n2⟩ := nor_small hq0 hq h
  obtain ⟨h1, h2, h3⟩ := mkOk_bits h
  rw [mkR_nor c']
  have e1 : IntKind.u64.wrap ((od m : Int) * 2 ^ (53 - Lib.bitLen (od m))) = ((od m * 2 ^ (53 - Lib.bitLen (od m)) : Nat) : Int) := by
    rw [IntKind.wrap_u64, cast_mul_pow]; omega
  rw [e1]
  generalize od m * 2 ^ (53 - Lib.bitLen (od m)) = z at n1 n2
  rw [show (4503599627370495 : Int) = ((4503599627370495 : Nat) : Int) from rfl, u64_and_nat z _ (by omega) (by decide)]
  have e2 : z &&& 4503599627370495 = z - 4503599627370496 := by
    rw [show z &&& 4503599627370495 = z % 4503599627370496 from Nat.and_two_pow_sub_one_eq_mod z 52]; omega
  rw [e2]
  obtain ⟨k, hk⟩ : ∃ k : Nat, e + (Lib.ctz 64 m : Int) + (Lib.bitLen (od m) : Int) - 1 + 1023 = (k : Int) := ⟨(e + (Lib.ctz 64 m : Int) + (Lib.bitLen (od m) : Int) - 1 + 1023).toNat, by omega⟩
  have hk2 : (e + (tz m : Int) + (Lib.bitLen (od m) : Int) + 1022).toNat = k := by unfold tz; omega
  have hk3 : k ≤ 2046 := by unfold tz at h3; omega
  rw [hk2, hk, show (k : Int) * 4503599627370496 = ((k * 4503599627370496 : Nat) : Int) by omega, u64_or_nat _ _ (by omega) (by omega), Nat.or_comm]
  congr 1
  rw [nat_join 52 _ _ (by omega) (by omega), Nat.add_comm]
theorem Make_ok (neg : Bool) (m : Nat) (h0 : 0 < m) (hm : m < 18446744073709551616) (e : Int) (he1 : e ≤ 1023) (he2 : -1137 ≤ e) (hk : mkOk (od m) (e + tz m)) (w : World) (ht : Tabs w) :
    Calls Tryz.prog 178 #[.bool neg, .int .u64 m, .int .i64 e] w fun r w' => r = .returned (.tuple #[.float .f64 (wf neg (mkR (od m) (e + tz m))), .bool true]) ∧ w = w' := by
  have hz : ((m : Int) == 0) = false := by rw [beq_eq_false_iff_ne]; omega
  have g1 : ¬ 1023 < e := by omega
  have g2 : ¬ e < -1137 := by omega
  have hs := shr_tz h0 hm
  have hk' : Lib.ctz 64 m < 64 := (tz_spec h0 hm).2.2
  have hq1 : od m < 18446744073709551616 := Nat.lt_of_le_of_lt od_le hm
  have hb := bl_le hq1
  obtain ⟨k1, k2, k3⟩ := mkOk_bits hk
  unfold tz at k2 k3
  have c1 : ¬ 53 < (Lib.bitLen (od m) : Int) := by omega
  have c2 : ¬ e + (Lib.ctz 64 m : Int) < -1074 := by omega
  have c3 : ¬ 1023 < e + (Lib.ctz 64 m : Int) + (Lib.bitLen (od m) : Int) - 1 := by omega
  have hq0 := od_pos h0 hm
  have hlt := mkR_lt hq0 hq1 hk
  by_cases c4 : -1023 < e + (Lib.ctz 64 m : Int) + (Lib.bitLen (od m) : Int) - 1
  case' pos => have hr := mk_nor hq0 hq1 hk c4
  case' neg => have hr := mk_sub hq1 hk c4
  all_goals
    go_enter Tryz.func178, Tryz.ntmps178
    go_wp2_with (first | (go_at_call 186; refine (Tryz.bits_TrailingZeros64 _ (by omega) _ (fun _ => ht.1)).mono ?_; rintro e w' ⟨rfl, rfl⟩) | (go_at_call 169; refine (Tryz.bits_Len64 _ _ (by omega) (by omega)).mono ?_; rintro e w' ⟨rfl, rfl⟩) | (go_at_call 192; refine (signed_b neg _ (by omega) _).mono ?_; rintro e w' ⟨rfl, rfl⟩))
    go_ret2
    exact ⟨rfl, rfl⟩
end Go.Proofs.YtajcapliokblfaaGreatDoor.Bt
set_option linter.unusedSimpArgs false
set_option linter.unusedVariables false
namespace Go.Proofs.YtajcapliokblfaaGreatDoor.Bt
open Go Go.RowKit Ff
@[irreducible] def shl (q k : Nat) : Nat := q * 2 ^ k
@[irreducible] def shlB (q k : Nat) : Bool := decide (shl q k < 4503599627370496)
theorem shlB_true (q k : Nat) : shlB q k = true ↔ shl q k < 4503599627370496 := by unfold shlB; exact decide_eq_true_iff
@[local go_sem] theorem lt_shl (q k : Nat) : decide ((shl q k : Int) < 4503599627370496) = shlB q k := by
  rw [Bool.eq_iff_iff, decide_eq_true_iff, shlB_true]; omega
end Go.Proofs.YtajcapliokblfaaGreatDoor.Bt
set_option linter.unusedSimpArgs false
set_option linter.unusedVariables false
namespace Go.Proofs.YtajcapliokblfaaGreatDoor.Bt
open Go Go.RowKit Ff
@[irreducible] def mkB (m : Nat) (e : Int) : Bool := decide (m = 0 ∨ mkOk (od m) (e + tz m))
@[irreducible] def mkF (neg : Bool) (m : Nat) (e : Int) : Nat := if m = 0 then wf neg 0 else if mkOk (od m) (e + tz m) then wf neg (mkR (od m) (e + tz m)) else 0
theorem mkB_zero (e : Int) : mkB 0 e = true := by unfold mkB; simp
theorem mkF_zero (neg : Bool) (e : Int) : mkF neg 0 e = wf neg 0 := by unfold mkF; simp
theorem mkB_ok {m : Nat} {e : Int} (h : mkOk (od m) (e + tz m)) : mkB m e = true := by unfold mkB; simp [h]
theorem mkF_ok {neg : Bool} {m : Nat} {e : Int} (h0 : 0 < m) (h : mkOk (od m) (e + tz m)) : mkF neg m e = wf neg (mkR (od m) (e + tz m)) := by
  unfold mkF; rw [if_neg (by omega), if_pos h]
theorem mkB_no {m : Nat} {e : Int} (h0 : 0 < m) (h : ¬ mkOk (od m) (e + tz m)) : mkB m e = false := by
  unfold mkB; rw [decide_eq_false_iff_not]; intro c; rcases c with c | c
  · omega
  · exact h c
theorem mkF_no {neg : Bool} {m : Nat} {e : Int} (h0 : 0 < m) (h : ¬ mkOk (od m) (e + tz m)) : mkF neg m e = 0 := by
  unfold mkF; rw [if_neg (by omega), if_neg h]
theorem far_no {m : Nat} {e : Int} (h0 : 0 < m) (hm : m < 18446744073709551616) (he : 1023 < e ∨ e < -1137) : ¬ mkOk (od m) (e + tz m) := by
  have h := tz_spec h0 hm
  have hp := bl_pos (od_pos h0 hm)
  intro c
  obtain ⟨c1, c2, c3⟩ := mkOk_bits c
  omega
theorem Make_c (neg : Bool) (m : Nat) (hm : m < 18446744073709551616) (e : Int) (w : World) (ht : Tabs w) :
    Calls Tryz.prog 178 #[.bool neg, .int .u64 m, .int .i64 e] w fun r w' => r = .returned (.tuple #[.float .f64 (mkF neg m e), .bool (mkB m e)]) ∧ w = w' := by
  by_cases h0 : m = 0
  · subst h0; rw [mkF_zero, mkB_zero]; exact Make_zero neg e w
  · by_cases hf : 1023 < e ∨ e < -1137
    · have hn := far_no (by omega) hm hf
      rw [mkF_no (by omega) hn, mkB_no (by omega) hn]; exact Make_far neg m h0 e hf w
    · by_cases hk : mkOk (od m) (e + tz m)
      · rw [mkF_ok (by omega) hk, mkB_ok hk]; exact Make_ok neg m (by omega) hm e (by omega) (by omega) hk w ht
      · rw [mkF_no (by omega) hk, mkB_no (by omega) hk]; exact Make_bad neg m (by omega) hm e (by omega) (by omega) hk w ht
end Go.Proofs.YtajcapliokblfaaGreatDoor.Bt
set_option linter.unusedSimpArgs false
set_option linter.unusedVariables false
namespace Go.Proofs.YtajcapliokblfaaGreatDoor
open Go Go.RowKit Nt
/-- The word of m times 2 to the power q, without a sign. -/
@[irreducible] def pk (m : Nat) (q : Int) : Nat := (q + 1074).toNat * 4503599627370496 + m
theorem pk_eq (m : Nat) (q : Int) : pk m q = (q + 1074).toNat * 4503599627370496 + m := by unfold pk; rfl
theorem pk_top (q : Int) (h : -1074 ≤ q) : pk 9007199254740992 q = pk 4503599627370496 (q + 1) := by rw [pk_eq, pk_eq]; omega
theorem pk_lt {m : Nat} {q : Int} (h1 : m ≤ 9007199254740992) (h2 : q ≤ 971) : pk m q ≤ 9218868437227405312 := by rw [pk_eq]; omega
theorem pow_lt_of {a b : Nat} (h : 2 ^ a < 2 ^ b) : a < b := (Nat.pow_lt_pow_iff_right (by omega)).1 h
theorem mk_pk {m : Nat} {q : Int} (h0 : 0 < m) (h1 : m ≤ 9007199254740992) (hq : -1074 ≤ q) (hq2 : q ≤ 971) (hm : 4503599627370496 ≤ m ∨ q = -1074) (hn : ¬ (m = 9007199254740992 ∧ q = 971)) :
    Bt.mkOk (Bt.od m) (q + Bt.tz m) ∧ Bt.mkR (Bt.od m) (q + Bt.tz m) = pk m q := by
  have h64 : m < 18446744073709551616 := by omega
  obtain ⟨e1, e2, _⟩ := Bt.tz_spec h0 h64
  have ho := Bt.od_pos h0 h64
  have ho64 : Bt.od m < 18446744073709551616 := Nat.lt_of_le_of_lt Bt.od_le h64
  have b1 := Bt.bl_lt ho64
  have b2 := Bt.bl_ge ho64 ho
  rw [pk_eq]
  revert e1 e2 ho b1 b2
  generalize Bt.tz m = z
  unfold Bt.mkOk
  generalize Bt.od m = o
  have Z := @Bt.mkR_nor o (q + z)
  have Y := @Bt.mkR_sub o (q + z)
  revert Z Y
  generalize Lib.bitLen o = B
  intro Z Y e1 e2 ho b1 b2
  have zp := Nat.two_pow_pos z
  have c1 : m < 2 ^ (B + z) := by rw [← e1, Nat.pow_add]; exact Nat.mul_lt_mul_of_pos_right b1 zp
  have c2 : 2 ^ (B + z) ≤ 2 * m := by rw [← e1, Nat.pow_add, ← Nat.mul_assoc]; exact Nat.mul_le_mul_right _ b2
  have p52 : (2 : Nat) ^ 52 = 4503599627370496 := by decide
  have p53 : (2 : Nat) ^ 53 = 9007199254740992 := by decide
  have p54 : (2 : Nat) ^ 54 = 18014398509481984 := by decide
  by_cases hb : m = 9007199254740992
  · have k1 : B + z < 55 := pow_lt_of (by rw [show (2:Nat)^55 = 36028797018963968 by decide]; omega)
    have k2 : 53 < B + z := pow_lt_of (by omega)
    have kz : z ≠ 0 := by rintro rfl; rw [Nat.pow_zero, Nat.mul_one] at e1; omega
    refine ⟨⟨by omega, by omega, by omega⟩, ?_⟩
    rw [Z (by omega), show 53 - B = z - 1 by omega]
    have e3 : o * 2 ^ (z - 1) * 2 = m := by rw [Nat.mul_assoc, ← Nat.pow_succ, show (z - 1).succ = z by omega, e1]
    omega
  · have k1 : B + z < 54 := pow_lt_of (by omega)
    by_cases hs : 4503599627370496 ≤ m
    · have k2 : 52 < B + z := pow_lt_of (by omega)
      refine ⟨⟨by omega, by omega, by omega⟩, ?_⟩
      rw [Z (by omega), show 53 - B = z by omega, e1]
      omega
    · have k2 : B + z < 53 := pow_lt_of (by omega)
      obtain rfl : q = -1074 := by omega
      refine ⟨⟨by omega, by omega, by omega⟩, ?_⟩
      rw [Y (by omega), show (-1074 + (z : Int) + 1074).toNat = z by omega, e1]
      omega
end Go.Proofs.YtajcapliokblfaaGreatDoor
set_option linter.unusedSimpArgs false
set_option linter.unusedVariables false
namespace Go.Proofs.YtajcapliokblfaaGreatDoor
open Go Go.RowKit Nt
end Go.Proofs.YtajcapliokblfaaGreatDoor
set_option linter.unusedSimpArgs false
set_option linter.unusedVariables false
namespace Go.Proofs.YtajcapliokblfaaGreatDoor
open Go Go.RowKit Nt
/-- Any value of the type Dyad. -/
structure Dt where
  g : Bool
  s : ByteArray
  x : Int
def Dt.v (t : Dt) : Value := .agg #[.bool t.g, .string t.s, .int .i64 t.x]
def Dt.Ok (t : Dt) : Prop := DOk t.g t.s t.x
theorem Dt.small {t : Dt} (h : t.Ok) : t.s.size ≤ 16384 := by
  rcases h with ⟨h, _⟩ | ⟨n, hf, _, h, _⟩
  · rw [h]; decide
  · rw [h, natS_size]; exact hf
/-- A row of Dyads. -/
def Dts (w : World) (A : Option Addr) (l : List Dt) : Prop := 0 < l.length → ∃ ad, A = some ad ∧ ad.block < w.heap.size ∧ ∀ j (h : j < l.length), w.cell? (ad.add (j * 3)) = some (.bool l[j].g) ∧ w.cell? ⟨(ad.add (j * 3)).block, (ad.add (j * 3)).off + 1, none⟩ = some (.string l[j].s) ∧ w.cell? ⟨(ad.add (j * 3)).block, (ad.add (j * 3)).off + 2, none⟩ = some (.int .i64 l[j].x)
theorem Dts.below {w w' : World} {A : Option Addr} {l : List Dt} (h : Dts w A l) (hb : Below w.heap.size w w') : Dts w' A l := fun h0 => by
  obtain ⟨ad, e, hl, hc⟩ := h h0
  refine ⟨ad, e, Nat.lt_of_lt_of_le hl hb.size, fun j hj => ?_⟩
  obtain ⟨c1, c2, c3⟩ := hc j hj
  exact ⟨(hb.cell (p := ad.add (j * 3)) (by rw [block_of_add']; exact hl)).trans c1, (hb.cell (p := ⟨(ad.add (j * 3)).block, (ad.add (j * 3)).off + 1, none⟩) (by show (ad.add (j * 3)).block < _; rw [block_of_add']; exact hl)).trans c2, (hb.cell (p := ⟨(ad.add (j * 3)).block, (ad.add (j * 3)).off + 2, none⟩) (by show (ad.add (j * 3)).block < _; rw [block_of_add']; exact hl)).trans c3⟩
end Go.Proofs.YtajcapliokblfaaGreatDoor
