/- A closed run, reckoned: the order that stands for every order. -/
import Derived.Test.YtjkonfopajihdaaDoorEv9c
set_option linter.unusedVariables false
set_option linter.unusedSimpArgs false
namespace Go.Proofs.YtjkonfopajihdaaDoor
open Go Go.RowKit

theorem readyL_eq (m : Nat) (l : List Rec) : readyL m l = l.filter (readyR m) := by
  induction l with
  | nil => rfl
  | cons r l ih =>
    show (Bool.rec (readyL m l) (r :: readyL m l) (readyR m r) : List Rec) = _
    rw [List.filter_cons, ih]
    cases readyR m r <;> rfl
theorem without_eq (i : Nat) (l : List Rec) : without i l = l.filter (fun r => !Nat.beq r.i i) := by
  induction l with
  | nil => rfl
  | cons r l ih =>
    show (Bool.rec (r :: without i l) (without i l) (Nat.beq r.i i) : List Rec) = _
    rw [List.filter_cons, ih]
    cases Nat.beq r.i i <;> rfl
theorem firstR_some {t : Oper → Bool} {m : Nat} {all : List Rec} {r : Rec} : ∀ {l : List Rec}, firstR t m all l = some r → r ∈ l ∧ t r.o = true ∧ readyR m r = true ∧ freeR all r = true
  | q :: l, h => by
    have h' : (Bool.rec (firstR t m all l) (some q) (t q.o && (readyR m q && freeR all q)) : Option Rec) = some r := h
    cases hb : (t q.o && (readyR m q && freeR all q)) with
    | true =>
      rw [hb] at h'
      injection h' with h'
      subst h'
      simp only [Bool.and_eq_true] at hb
      exact ⟨List.mem_cons_self, hb.1, hb.2.1, hb.2.2⟩
    | false =>
      rw [hb] at h'
      obtain ⟨h1, h2⟩ := firstR_some h'
      exact ⟨List.mem_cons_of_mem _ h1, h2⟩
theorem readyR_iff (m : Nat) (r : Rec) : readyR m r = true ↔ ∀ j, r.deps.testBit j = true → m.testBit j = true := by
  unfold readyR
  constructor
  · intro h j hj
    have h := Nat.eq_of_beq_eq_true h
    rw [← h, Nat.testBit_and] at hj
    simp only [Bool.and_eq_true] at hj
    exact hj.2
  · intro h
    have : r.deps &&& m = r.deps := by
      apply Nat.eq_of_testBit_eq
      intro j
      rw [Nat.testBit_and]
      cases hj : r.deps.testBit j with
      | false => rfl
      | true => rw [h j hj]; rfl
    rw [this]
    exact Nat.beq_refl _
theorem readyR_mono {m i : Nat} {r : Rec} (h : readyR m r = true) : readyR (m ||| 2 ^ i) r = true := by
  rw [readyR_iff] at h ⊢
  intro j hj
  rw [testBit_or_pow, h j hj]; rfl
/-- m tells what is listed, l what is not. -/
structure Corr (ops : Array Oper) (m : Nat) (l : List Rec) (listed : Array Bool) : Prop where
  size : listed.size = ops.size
  bit : ∀ i, i < ops.size → listed.getD i true = m.testBit i
  top : ∀ i, m.testBit i = true → i < ops.size
  rest : l = (allR ops).filter (fun r => !m.testBit r.i)
section
variable {ops : Array Oper} {m : Nat} {l : List Rec} {listed : Array Bool}
theorem Corr.getF (h : Corr ops m l listed) (i : Nat) : listed.getD i false = m.testBit i := by
  by_cases hi : i < ops.size
  · have h1 := h.bit i hi
    have h2 : i < listed.size := by rw [h.size]; exact hi
    simp [Array.getD, h2] at h1 ⊢
    exact h1
  · have h2 : ¬ i < listed.size := by rw [h.size]; exact hi
    have h3 : m.testBit i = false := by
      cases hb : m.testBit i with
      | false => rfl
      | true => exact absurd (h.top i hb) hi
    rw [h3]
    simp [Array.getD, h2]
theorem Corr.mem (h : Corr ops m l listed) {r : Rec} (hr : r ∈ l) : r ∈ allR ops ∧ m.testBit r.i = false := by
  rw [h.rest] at hr
  have := List.mem_filter.1 hr
  exact ⟨this.1, by simpa using this.2⟩
theorem Corr.ready_iff (h : Corr ops m l listed) {r : Rec} (hr : r ∈ allR ops) : (!listed.getD r.i true && ((ops[r.i]?).map (·.after.all fun e => !Region.binds .any e || listed.getD e.on false)).getD false) = (!m.testBit r.i && readyR m r) := by
  obtain ⟨h1, h2, h3⟩ := allR_mem hr
  have hi : r.i < ops.size := (Array.getElem?_eq_some_iff.1 h1).1
  rw [h.bit _ hi, h1, Option.map_some, Option.getD_some]
  congr 1
  rw [Bool.eq_iff_iff, readyR_iff, h2]
  simp only [Array.all_eq_true_iff_forall_mem, Bool.or_eq_true, Bool.not_eq_true', depM_bit]
  constructor
  · rintro ha j ⟨e, he, hb, rfl⟩
    rcases ha e he with h | h'
    · rw [hb] at h; cases h
    · rw [h.getF] at h'; exact h'
  · intro ha e he
    cases hb : Region.binds .any e with
    | false => exact .inl rfl
    | true => exact .inr (by rw [h.getF]; exact ha _ ⟨e, he, hb, rfl⟩)
theorem Corr.ready (h : Corr ops m l listed) : Region.ready .any ops listed = (l.filter (readyR m)).map (·.i) := by
  unfold Region.ready
  rw [← allR_map, List.filter_map, h.rest, List.filter_filter]
  congr 1
  apply List.filter_congr
  intro r hr
  have := h.ready_iff hr
  simp only [Function.comp]
  rw [this, Bool.and_comm]
theorem Corr.set (h : Corr ops m l listed) {r : Rec} (hr : r ∈ l) : Corr ops (m ||| 2 ^ r.i) (without r.i l) (listed.setIfInBounds r.i true) := by
  obtain ⟨h1, h2⟩ := h.mem hr
  have hi : r.i < ops.size := (Array.getElem?_eq_some_iff.1 (allR_mem h1).1).1
  refine ⟨by simp [h.size], fun i hi' => ?_, fun i hb => ?_, ?_⟩
  · rw [testBit_or_pow]
    by_cases he : r.i = i
    · subst he
      have : r.i < listed.size := by rw [h.size]; exact hi
      simp [Array.getD, this]
    · rw [← h.bit i hi']
      simp [Array.getD_eq_getD_getElem?, Array.getElem?_setIfInBounds_ne he, he]
  · rw [testBit_or_pow] at hb
    simp only [Bool.or_eq_true, decide_eq_true_eq] at hb
    rcases hb with hb | hb
    · exact h.top i hb
    · omega
  · rw [without_eq, h.rest, List.filter_filter]
    apply List.filter_congr
    intro q hq
    rw [testBit_or_pow, Bool.not_or, Bool.and_comm]
    congr 1
    cases hb : Nat.beq q.i r.i with
    | true => have := Nat.eq_of_beq_eq_true hb; simp [this]
    | false =>
      have := Nat.ne_of_beq_eq_false hb
      simp
      exact fun e => this e.symm
theorem apartR_ok {x y : Rec} (hx : x.looks = lookM ops x.o) (hy : y.looks = lookM ops y.o) (h : apartR x y = true) : x.o.apart ops y.o = true := by
  unfold apartR at h
  simp only [Bool.and_eq_true, Bool.not_eq_true'] at h
  obtain ⟨h1, h2, h3⟩ := h
  have nb : ∀ {d : Option Tmp} {o : Oper} {mm : Nat}, mm = lookM ops o → hitM d mm = false → ∀ t, d = some t → (o.looksAt ops).contains t = false := by
    intro d o mm e hh t ht
    subst e ht
    simp only [hitM] at hh
    cases hc : (o.looksAt ops).contains t with
    | false => rfl
    | true =>
      rw [(lookM_bit ops o t).2 (by simpa using hc)] at hh
      cases hh
  unfold Oper.apart
  have e1 : ∀ t, x.o.dst = some t → ((y.o.looksAt ops).contains t = false ∧ y.o.dst ≠ some t) := by
    intro t ht
    refine ⟨nb hy h1 t ht, fun e => ?_⟩
    rw [ht, e] at h2
    simp only [sameD] at h2
    exact absurd rfl (Nat.ne_of_beq_eq_false h2)
  have e2 := nb hx h3
  cases hxd : x.o.dst with
  | none =>
    cases hyd : y.o.dst with
    | none => rfl
    | some t =>
      have h5 := e2 t hyd
      show (true && !(x.o.looksAt ops).contains t) = true
      rw [h5]; rfl
  | some t =>
    obtain ⟨a1, a2⟩ := e1 t hxd
    cases hyd : y.o.dst with
    | none =>
      show ((!(y.o.looksAt ops).contains t && (none != some t)) && true) = true
      rw [a1]; rfl
    | some u =>
      have hut : (some u != some t) = true := by
        have : ¬ u = t := fun e => a2 (by rw [hyd, e])
        simp [this]
      have h5 := e2 u hyd
      show ((!(y.o.looksAt ops).contains t && (some u != some t)) && !(x.o.looksAt ops).contains u) = true
      rw [a1, h5, hut]; rfl
theorem Corr.free (h : Corr ops m l listed) {r : Rec} (hr : r ∈ l) (hf : freeR l r = true) : Region.free .any ops listed r.i = true := by
  obtain ⟨h1, _⟩ := h.mem hr
  obtain ⟨g1, g2, g3⟩ := allR_mem h1
  unfold freeR at hf
  rw [allL_eq, List.all_eq_true] at hf
  unfold Region.free
  simp only [g1, List.all_eq_true, List.mem_range]
  intro j hj
  obtain ⟨q, hq, rfl⟩ := allR_ex hj
  obtain ⟨k1, k2, k3⟩ := allR_mem hq
  rw [k1]
  by_cases hij : q.i = r.i
  · simp [hij]
  rw [h.bit _ hj]
  cases hb : m.testBit q.i with
  | true => simp
  | false =>
    have hql : q ∈ l := by rw [h.rest]; exact List.mem_filter.2 ⟨hq, by simp [hb]⟩
    have := hf q hql
    simp only [Bool.or_eq_true] at this
    rcases this with h' | h' | h'
    · exact absurd (Nat.eq_of_beq_eq_true h') hij
    · rw [k2, depM_bit] at h'
      obtain ⟨e, he, hb2, hon⟩ := h'
      simp only [Bool.or_eq_true]
      right; left
      rw [Array.any_eq_true']
      exact ⟨e, he, by simp [hb2, hon]⟩
    · simp only [Bool.or_eq_true]
      right; right
      exact apartR_ok g3 k3 h'
theorem Corr.mem_ready (h : Corr ops m l listed) {r : Rec} (hr : r ∈ l) (hf : readyR m r = true) : r.i ∈ Region.ready .any ops listed := by
  rw [h.ready]
  exact List.mem_map.2 ⟨r, List.mem_filter.2 ⟨hr, hf⟩, rfl⟩
theorem plain_eq (fs : Nat) (l : List Rec) : plain fs l = l.filter (fun r => !fs.testBit r.i) := by
  induction l with
  | nil => rfl
  | cons r l ih =>
    show (Bool.rec (r :: plain fs l) (plain fs l) (fs.testBit r.i) : List Rec) = _
    rw [List.filter_cons, ih]
    cases fs.testBit r.i <;> rfl
theorem pendM_bit {fs i x : Nat} {q : Rec} : ∀ {l : List Rec}, q ∈ l → q.i = x → fs.testBit x = true → x ≠ i → (pendM fs i l).testBit x = true
  | r :: l, hq, hx, hf, hn => by
    show (Bool.rec (pendM fs i l) (pendM fs i l ||| 2 ^ r.i) (fs.testBit r.i && !Nat.beq r.i i) : Nat).testBit x = true
    rcases List.mem_cons.1 hq with rfl | hq
    · have hb : (fs.testBit q.i && !Nat.beq q.i i) = true := by
        rw [hx, hf]
        cases hc : Nat.beq x i with
        | false => rfl
        | true => exact absurd (Nat.eq_of_beq_eq_true hc) hn
      rw [hb]
      show (pendM fs i l ||| 2 ^ q.i).testBit x = true
      rw [testBit_or_pow, hx]; simp
    · have ih := pendM_bit (l := l) hq hx hf hn
      cases (fs.testBit r.i && !Nat.beq r.i i) with
      | false => exact ih
      | true =>
        show (pendM fs i l ||| 2 ^ r.i).testBit x = true
        rw [testBit_or_pow, ih]; rfl
theorem Corr.un_mem (h : Corr ops m l listed) {i : Nat} (hi : listed.getD i true = false) : ∃ r ∈ l, r.i = i := by
  have hs : i < ops.size := by
    rw [← h.size]
    rcases Nat.lt_or_ge i listed.size with h' | h'
    · exact h'
    · simp [Array.getElem?_eq_none h'] at hi
  obtain ⟨r, hr, e⟩ := allR_ex hs
  refine ⟨r, ?_, e⟩
  rw [h.rest]
  refine List.mem_filter.2 ⟨hr, ?_⟩
  rw [e, ← h.bit i hs, hi]; rfl
theorem Corr.wt (h : Corr ops m l listed) {fs r : Nat} (hw : wtB fs (allR ops) l r = true) : Wt ops (fun i => fs.testBit i) listed r := by
  intro i hf hne hun j oj hoj hjun ⟨e, he, hb, hon⟩
  have hf : fs.testBit i = true := hf
  unfold wtB at hw
  rw [Bool.or_eq_true, allL_eq, List.all_eq_true] at hw
  rcases hw with hw | hw
  · have := Nat.eq_of_beq_eq_true hw
    subst this
    simp at hf
  · obtain ⟨ri, hri, hrie⟩ := h.un_mem hun
    obtain ⟨q, hq, hqe⟩ := h.un_mem hjun
    obtain ⟨g1, g2, _⟩ := allR_mem (h.mem hq).1
    subst hqe
    rw [hoj] at g1
    injection g1 with g1
    have hd : q.deps.testBit i = true := by
      rw [g2, depM_bit, ← g1]
      exact ⟨e, he, hb, hon⟩
    have h2 := hw q hq
    rw [Bool.or_eq_true] at h2
    rcases h2 with h2 | h2
    · exfalso
      have := Nat.eq_of_beq_eq_true h2
      have h3 : (q.deps &&& pendM fs r l).testBit i = true := by
        rw [Nat.testBit_and, hd, pendM_bit hri hrie hf hne]; rfl
      rw [this] at h3
      simp at h3
    · exact waitsR_ok (by rw [hoj, g1]) g2 h2
theorem planGo_ok {fs : Nat} : ∀ (n : Nat) {m : Nat} {l : List Rec} {listed : Array Bool} {pl : List Stp}, Corr ops m l listed → planGo fs (allR ops) n m l = some pl → PlanOk ops (fun i => fs.testBit i) pl listed
  | n, m, l, listed, pl, hc, h => by
    have hrdy : ∀ {j}, j ∈ Region.ready .any ops listed → ∃ r ∈ l.filter (readyR m), r.i = j := fun {j} hj => by
      rw [hc.ready] at hj
      obtain ⟨r, h1, h2⟩ := List.mem_map.1 hj
      exact ⟨r, h1, h2⟩
    cases n with
    | zero =>
      unfold planGo at h
      split at h
      · rename_i hl
        injection h with h
        subst h
        rw [readyL_eq] at hl
        show Region.ready .any ops listed = []
        rw [hc.ready, hl]; rfl
      · cases h
    | succ n =>
      unfold planGo at h
      split at h
      · rename_i r hr
        obtain ⟨a1, a2, a3, a4⟩ := firstR_some hr
        split at h
        · rename_i p hw hf hp
          injection h with h
          subst h
          exact ⟨hf, hc.mem_ready a1 a3, hc.free a1 a4, hc.wt hw, planGo_ok n (hc.set a1) hp⟩
        · cases h
      · split at h
        · rename_i hpl
          rw [plain_eq, readyL_eq] at hpl
          have hallf : ∀ r ∈ l.filter (readyR m), fs.testBit r.i = true := fun r hr => by
            cases hb : fs.testBit r.i with
            | true => rfl
            | false =>
              have : r ∈ (l.filter (readyR m)).filter (fun r => !fs.testBit r.i) := List.mem_filter.2 ⟨hr, by rw [hb]; rfl⟩
              rw [hpl] at this; cases this
          split at h
          · rename_i hl
            injection h with h
            subst h
            rw [readyL_eq] at hl
            show Region.ready .any ops listed = []
            rw [hc.ready, hl]; rfl
          · rename_i r more hl
            rw [readyL_eq] at hl
            have hrl : r ∈ l.filter (readyR m) := by rw [hl]; exact List.mem_cons_self
            have hrl' := List.mem_filter.1 hrl
            split at h
            · rename_i p hw hp
              injection h with h
              subst h
              refine ⟨hallf r hrl, hc.mem_ready hrl'.1 hrl'.2, fun j hj => ?_, hc.wt hw, planGo_ok n (hc.set hrl'.1) hp⟩
              obtain ⟨q, hq, rfl⟩ := hrdy hj
              exact hallf q hq
            · cases h
        · rename_i r hpl
          rw [plain_eq, readyL_eq] at hpl
          have hrl : r ∈ (l.filter (readyR m)).filter (fun r => !fs.testBit r.i) := by rw [hpl]; exact List.mem_singleton_self r
          have hrl1 := List.mem_filter.1 hrl
          have hrl' := List.mem_filter.1 hrl1.1
          have hrf : fs.testBit r.i = false := by simpa using hrl1.2
          split at h
          · rename_i p hw hp
            injection h with h
            subst h
            refine ⟨hrf, hc.mem_ready hrl'.1 hrl'.2, fun j hj => ?_, hc.wt hw, planGo_ok n (hc.set hrl'.1) hp⟩
            obtain ⟨q, hq, rfl⟩ := hrdy hj
            cases hb : fs.testBit q.i with
            | true => exact .inr hb
            | false =>
              have : q ∈ (l.filter (readyR m)).filter (fun r => !fs.testBit r.i) := List.mem_filter.2 ⟨hq, by rw [hb]; rfl⟩
              rw [hpl] at this
              rw [List.mem_singleton.1 this]; exact .inl rfl
          · cases h
        · rename_i a b more hpl
          split at h
          · cases h
          · rename_i r hr
            obtain ⟨a1, a2, a3, a4⟩ := firstR_some hr
            split at h
            · rename_i n hpr
              rw [Bool.and_eq_true] at hpr
              obtain ⟨hfs, hpr⟩ := hpr
              have hfs := Nat.eq_of_beq_eq_true hfs
              subst hfs
              have hl : l.filter (readyR m) = [a, b] := by
                rw [plain_eq, readyL_eq] at hpl
                rw [← hpl]
                exact (List.filter_eq_self.2 (fun r _ => by simp)).symm
              have hal : a ∈ l.filter (readyR m) := by rw [hl]; simp
              have hbl : b ∈ l.filter (readyR m) := by rw [hl]; simp
              have ha := List.mem_filter.1 hal
              have hb := List.mem_filter.1 hbl
              unfold pairR at hpr
              simp only [Bool.and_eq_true, allL_eq, List.all_eq_true, Bool.or_eq_true, Bool.not_eq_true'] at hpr
              obtain ⟨⟨⟨⟨⟨p1, p2⟩, p3⟩, p4⟩, p5⟩, p6⟩ := hpr
              have hnd : ((l.filter (readyR m)).map (·.i)).Nodup := by
                rw [hc.rest, List.filter_filter]
                refine List.Nodup.sublist (List.Sublist.map _ List.filter_sublist) ?_
                rw [allR_map]
                exact List.nodup_range
              rw [hl] at hnd
              have hab : a.i ≠ b.i := by simpa using hnd
              have hba : Nat.beq b.i a.i = false := by
                cases hq : Nat.beq b.i a.i with
                | false => rfl
                | true => exact absurd (Nat.eq_of_beq_eq_true hq).symm hab
              have hba' : Nat.beq a.i b.i = false := by
                cases hq : Nat.beq a.i b.i with
                | false => rfl
                | true => exact absurd (Nat.eq_of_beq_eq_true hq) hab
              have haA := (hc.mem ha.1).1
              have hbA := (hc.mem hb.1).1
              have only : ∀ (x y : Rec), x ∈ l → y ∈ l → readyR m y = true → (∀ q ∈ l, readyR (m ||| 2 ^ x.i) q = true → q.i = x.i ∨ q.i = y.i) → (without x.i l).filter (readyR (m ||| 2 ^ x.i)) = (l.filter (readyR m)).filter (fun r => !Nat.beq r.i x.i) := by
                intro x y hx hy hry hq
                rw [without_eq, List.filter_filter, List.filter_filter]
                apply List.filter_congr
                intro q hql
                rw [Bool.and_comm]
                cases hqx : Nat.beq q.i x.i with
                | true => simp
                | false =>
                  simp only [Bool.not_false, Bool.true_and]
                  rw [Bool.eq_iff_iff]
                  constructor
                  · intro hqr
                    rcases hq q hql hqr with e | e
                    · exact absurd e (Nat.ne_of_beq_eq_false hqx)
                    · have : q = y := allR_inj (hc.mem hql).1 (hc.mem hy).1 e
                      rw [this]; exact hry
                  · exact readyR_mono
              have o1 := only a b ha.1 hb.1 hb.2 (fun q hql hqr => by
                rcases p6 q hql with e | e | ⟨e, _⟩
                · exact .inl (Nat.eq_of_beq_eq_true e)
                · exact .inr (Nat.eq_of_beq_eq_true e)
                · rw [hqr] at e; cases e)
              have o2 := only b a hb.1 ha.1 ha.2 (fun q hql hqr => by
                rcases p6 q hql with e | e | ⟨_, e⟩
                · exact .inr (Nat.eq_of_beq_eq_true e)
                · exact .inl (Nat.eq_of_beq_eq_true e)
                · rw [hqr] at e; cases e)
              rw [hl] at o1 o2
              simp only [List.filter_cons, Nat.beq_refl, hba, hba', Bool.not_true, Bool.not_false, List.filter_nil, if_true] at o1 o2
              simp only [Bool.false_eq_true, if_false] at o1 o2
              have hbw : b ∈ without a.i l := by
                rw [without_eq]; exact List.mem_filter.2 ⟨hb.1, by rw [hba]; rfl⟩
              split at h
              · rename_i p hp
                injection h with h
                subst h
                have q1 := planGo_ok n ((hc.set ha.1).set hbw) hp
                exact ⟨fun x => by simp, by rw [hc.ready, hl]; rfl, by rw [(hc.set ha.1).ready, o1]; rfl, by rw [(hc.set hb.1).ready, o2]; rfl, ⟨a.o, b.o, (allR_mem haA).1, (allR_mem hbA).1, by simpa using p3, by simpa using p4, apartR_ok (allR_mem haA).2.2 (allR_mem hbA).2.2 p5, hab⟩, q1⟩
              · cases h
            · split at h
              · rename_i p hw hf hp
                injection h with h
                subst h
                exact ⟨hf, hc.mem_ready a1 a3, hc.free a1 a4, hc.wt hw, planGo_ok _ (hc.set a1) hp⟩
              · cases h
theorem floM_bit {all : List Rec} {x : Nat} : ∀ {l : List Rec}, (floM all l).testBit x = true → ∃ r ∈ l, r.i = x ∧ floR all r = true
  | [], h => by
    have h' : (0 : Nat).testBit x = true := h
    simp at h'
  | r :: l, h => by
    have h' : (Bool.rec (floM all l) (floM all l ||| 2 ^ r.i) (floR all r) : Nat).testBit x = true := h
    cases hb : floR all r with
    | false =>
      rw [hb] at h'
      obtain ⟨q, hq, h1⟩ := floM_bit h'
      exact ⟨q, List.mem_cons_of_mem _ hq, h1⟩
    | true =>
      rw [hb] at h'
      have h' : (floM all l ||| 2 ^ r.i).testBit x = true := h'
      rw [testBit_or_pow, Bool.or_eq_true, decide_eq_true_iff] at h'
      rcases h' with h' | h'
      · obtain ⟨q, hq, h1⟩ := floM_bit h'
        exact ⟨q, List.mem_cons_of_mem _ hq, h1⟩
      · exact ⟨r, List.mem_cons_self, h', hb⟩
theorem flo_ok {P : Program} (hz : allL (zeroB P) ops.toList = true) : FloOk P ops (fun i => (floM (allR ops) (allR ops)).testBit i) := by
  intro i hi
  obtain ⟨r, hr, rfl, hf⟩ := floM_bit hi
  obtain ⟨g1, g2, g3⟩ := allR_mem hr
  unfold floR at hf
  simp only [Bool.and_eq_true] at hf
  obtain ⟨f1, f2, f3⟩ := hf
  have f2 := Nat.eq_of_beq_eq_true f2
  have hzr : zeroB P r.o = true := by
    rw [allL_eq, List.all_eq_true] at hz
    exact hz r.o (by simpa using Array.mem_of_getElem? g1)
  obtain ⟨ty, d, h1, h2, h3⟩ : ∃ ty d, r.o.op = .alloc ty ∧ r.o.dst = some d ∧ r.o.guard = none := by
    unfold isAlloc at f1
    split at f1
    · rename_i ty d e1 e2 e3
      exact ⟨ty, d, e1, e3, e2⟩
    · cases f1
  unfold zeroB at hzr
  rw [h1] at hzr
  simp only at hzr
  split at hzr
  · rename_i inf hinf
    obtain ⟨z, hzz⟩ := Option.isSome_iff_exists.1 hzr
    refine ⟨r.o, ty, d, inf, z, g1, h1, h2, h3, hinf, hzz, fun e he => ?_, fun j oj hj hne => ?_⟩
    · cases hb : Region.binds .any e with
      | false => rfl
      | true =>
        have := (depM_bit r.o e.on).2 ⟨e, he, hb, rfl⟩
        rw [← g2, f2] at this
        simp at this
    · unfold freeR at f3
      rw [allL_eq, List.all_eq_true] at f3
      have hjs : j < ops.size := (Array.getElem?_eq_some_iff.1 hj).1
      obtain ⟨q, hq, rfl⟩ := allR_ex hjs
      obtain ⟨k1, k2, k3⟩ := allR_mem hq
      rw [hj] at k1
      injection k1 with k1
      subst k1
      have := f3 q hq
      simp only [Bool.or_eq_true] at this
      rcases this with h' | h' | h'
      · exact absurd (Nat.eq_of_beq_eq_true h') hne
      · rw [k2, depM_bit] at h'
        exact .inl h'
      · exact .inr (apartR_ok g3 k3 h')
  · cases hzr
theorem plan_ok {pl : List Stp} {fs : Nat} (h : plan ops = some (fs, pl)) : Region.noSelect ops = true ∧ PlanOk ops (fun i => fs.testBit i) pl (Array.replicate ops.size false) ∧ (fs = 0 ∨ fs = floM (allR ops) (allR ops)) := by
  have h0 : Corr ops 0 (allR ops) (Array.replicate ops.size false) := ⟨by simp, fun i hi => by simp [Array.getD, hi], fun i hi => by simp at hi, by
    rw [List.filter_eq_self.2]
    intro r _
    simp⟩
  unfold plan at h
  split at h
  · rename_i hs
    unfold planW at h
    split at h
    · rename_i p hp
      injection h with h
      injection h with h1 h2
      subst h1 h2
      exact ⟨hs, planGo_ok _ h0 hp, .inl rfl⟩
    · split at h
      · rename_i p hp
        injection h with h
        injection h with h1 h2
        subst h1 h2
        exact ⟨hs, planGo_ok _ h0 hp, .inr rfl⟩
      · cases h
  · cases h
end
end Go.Proofs.YtjkonfopajihdaaDoor
