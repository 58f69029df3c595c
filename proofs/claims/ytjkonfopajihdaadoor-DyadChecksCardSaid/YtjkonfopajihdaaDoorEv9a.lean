/- A closed run, reckoned: what waits for what. -/
import Derived.Test.YtjkonfopajihdaaDoorEv9
set_option linter.unusedVariables false
set_option linter.unusedSimpArgs false
namespace Go.Proofs.YtjkonfopajihdaaDoor
open Go Go.RowKit

theorem testBit_or_pow (m i j : Nat) : (m ||| 2 ^ i).testBit j = (m.testBit j || decide (i = j)) := by
  rw [Nat.testBit_or, Nat.testBit_two_pow]
theorem depM_bit (o : Oper) (j : Nat) : (depM o).testBit j = true ↔ ∃ e ∈ o.after, Region.binds .any e = true ∧ e.on = j := by
  have key : ∀ l : List Edge, (l.foldr (fun e m => if Region.binds .any e then m ||| (2 ^ e.on) else m) 0).testBit j = true ↔ ∃ e ∈ l, Region.binds .any e = true ∧ e.on = j := by
    intro l
    induction l with
    | nil => simp
    | cons e l ih =>
      rw [List.foldr_cons]
      by_cases hb : Region.binds .any e = true
      · rw [if_pos hb, testBit_or_pow]
        simp only [Bool.or_eq_true, ih, decide_eq_true_eq, List.mem_cons]
        constructor
        · rintro (⟨x, hx, h⟩ | h)
          · exact ⟨x, .inr hx, h⟩
          · exact ⟨e, .inl rfl, hb, h⟩
        · rintro ⟨x, rfl | hx, h1, h2⟩
          · exact .inr h2
          · exact .inl ⟨x, hx, h1, h2⟩
      · rw [if_neg hb, ih]
        constructor
        · rintro ⟨x, hx, h⟩; exact ⟨x, List.mem_cons_of_mem _ hx, h⟩
        · rintro ⟨x, hx, h1, h2⟩
          rcases List.mem_cons.1 hx with rfl | hx
          · exact absurd h1 hb
          · exact ⟨x, hx, h1, h2⟩
  unfold depM
  rw [key]
  simp
theorem lookM_bit (ops : Array Oper) (o : Oper) (t : Nat) : (lookM ops o).testBit t = true ↔ t ∈ o.looksAt ops := by
  unfold lookM
  generalize o.looksAt ops = l
  induction l with
  | nil => simp
  | cons e l ih =>
    rw [List.foldr_cons, testBit_or_pow]
    simp only [Bool.or_eq_true, ih, decide_eq_true_eq, List.mem_cons]
    constructor
    · rintro (h | h)
      · exact .inr h
      · exact .inl h.symm
    · rintro (h | h)
      · exact .inr h.symm
      · exact .inl h
theorem recs_map (ops : Array Oper) : ∀ (l : List Oper) (k : Nat), (recs ops l k).map (·.i) = List.range' k l.length
  | [], k => rfl
  | o :: l, k => by simp [recs, recs_map ops l (k + 1), List.range'_succ]
theorem recs_mem (ops : Array Oper) (l : List Oper) : ∀ (k : Nat) (r : Rec), r ∈ recs ops l k → ∃ j, l[j]? = some r.o ∧ r.i = k + j ∧ r.deps = depM r.o ∧ r.looks = lookM ops r.o := by
  induction l with
  | nil => intro k r h; cases h
  | cons o l ih =>
    intro k r h
    unfold recs at h
    rcases List.mem_cons.1 h with h | h
    · refine ⟨0, ?_, ?_, ?_, ?_⟩ <;> rw [h] <;> simp
    · obtain ⟨j, h1, h2, h3⟩ := ih (k + 1) r h
      exact ⟨j + 1, by simpa using h1, by omega, h3⟩
/-- All the operations. -/
noncomputable def allR (ops : Array Oper) : List Rec := recs ops ops.toList 0
theorem allR_map (ops : Array Oper) : (allR ops).map (·.i) = List.range ops.size := by
  unfold allR; rw [recs_map, List.range_eq_range']; simp
theorem allR_mem {ops : Array Oper} {r : Rec} (h : r ∈ allR ops) : ops[r.i]? = some r.o ∧ r.deps = depM r.o ∧ r.looks = lookM ops r.o := by
  obtain ⟨j, h1, h2, h3⟩ := recs_mem ops ops.toList 0 r h
  refine ⟨?_, h3⟩
  rw [h2, Nat.zero_add, ← Array.getElem?_toList]
  exact h1
theorem allR_ex {ops : Array Oper} {i : Nat} (h : i < ops.size) : ∃ r ∈ allR ops, r.i = i := by
  have : i ∈ (allR ops).map (·.i) := by rw [allR_map]; exact List.mem_range.2 h
  obtain ⟨r, h1, h2⟩ := List.mem_map.1 this
  exact ⟨r, h1, h2⟩
theorem allR_inj {ops : Array Oper} {r q : Rec} (h : r ∈ allR ops) (h' : q ∈ allR ops) (e : r.i = q.i) : r = q := by
  obtain ⟨h1, h2, h3⟩ := allR_mem h
  obtain ⟨g1, g2, g3⟩ := allR_mem h'
  rw [e, g1] at h1
  injection h1 with h1
  obtain ⟨i, o, d, l⟩ := r
  obtain ⟨i', o', d', l'⟩ := q
  simp only at *
  subst h1 e
  rw [h2, g2, h3, g3]
theorem stepM_bit {c x : Nat} : ∀ {l : List Rec}, (stepM c l).testBit x = true → c.testBit x = true ∨ ∃ r ∈ l, c.testBit r.i = true ∧ r.deps.testBit x = true
  | [], h => .inl h
  | r :: l, h => by
    have h' : (Bool.rec (stepM c l) (stepM c l ||| r.deps) (c.testBit r.i) : Nat).testBit x = true := h
    cases hb : c.testBit r.i with
    | false =>
      rw [hb] at h'
      rcases stepM_bit h' with h1 | ⟨q, hq, h1⟩
      · exact .inl h1
      · exact .inr ⟨q, List.mem_cons_of_mem _ hq, h1⟩
    | true =>
      rw [hb] at h'
      rw [Nat.testBit_or, Bool.or_eq_true] at h'
      rcases h' with h' | h'
      · rcases stepM_bit h' with h1 | ⟨q, hq, h1⟩
        · exact .inl h1
        · exact .inr ⟨q, List.mem_cons_of_mem _ hq, h1⟩
      · exact .inr ⟨r, List.mem_cons_self, hb, h'⟩
theorem closM_ok {ops : Array Oper} {j : Nat} : ∀ (n : Nat) {m : Nat}, (∀ x, m.testBit x = true → Reach ops j x) → ∀ x, (closM (allR ops) n m).testBit x = true → Reach ops j x
  | 0, m, h, x, hx => h x hx
  | n + 1, m, h, x, hx => by
    have hx' : (stepM (closM (allR ops) n m) (allR ops)).testBit x = true := hx
    rcases stepM_bit hx' with h1 | ⟨r, hr, h1, h2⟩
    · exact closM_ok n h x h1
    · have h3 := closM_ok n h r.i h1
      obtain ⟨g1, g2, _⟩ := allR_mem hr
      rw [g2, depM_bit] at h2
      obtain ⟨e, he, hb, rfl⟩ := h2
      exact .next h3 g1 he hb
theorem waitsR_ok {ops : Array Oper} {q : Rec} {i : Nat} (hq : ops[q.i]? = some q.o) (hd : q.deps = depM q.o) (h : waitsR (allR ops) q i = true) : Reach ops q.i i := by
  have base : ∀ x, q.deps.testBit x = true → Reach ops q.i x := by
    intro x hx
    rw [hd, depM_bit] at hx
    obtain ⟨e, he, hb, rfl⟩ := hx
    exact .edge hq he hb
  unfold waitsR at h
  rw [Bool.or_eq_true] at h
  rcases h with h | h
  · exact base i h
  · exact closM_ok 8 base i h
theorem hasK_false {l : List (Nat × Nat)} {k : Nat} (h : hasK l k = false) : ∀ p ∈ l, p.2 ≠ k := by
  induction l with
  | nil => simp
  | cons a l ih =>
    have h' : (Bool.rec (hasK l k) true (Nat.beq a.2 k) : Bool) = false := h
    cases hb : Nat.beq a.2 k with
    | true => rw [hb] at h'; cases h'
    | false =>
      rw [hb] at h'
      intro p hp
      rcases List.mem_cons.1 hp with rfl | hp
      · exact Nat.ne_of_beq_eq_false hb
      · exact ih h' p hp
theorem waitsAll_ok {ops : Array Oper} {i : Nat} {ws : List Nat} {kl : List (Nat × Nat)} (h : waitsAll ops i ws kl = true) : ∀ q ∈ kl, q.2 ∈ ws → Reach ops i q.1 := by
  intro q hq hk
  unfold waitsAll at h
  rw [allL_eq, List.all_eq_true] at h
  have := h q hq
  simp only [Bool.or_eq_true, Bool.not_eq_true'] at this
  rcases this with h1 | h1
  · rw [hasN_iff.2 hk] at h1; cases h1
  · split at h1
    · rename_i o ho
      exact waitsR_ok (q := ⟨i, o, depM o, 0⟩) ho rfl h1
    · cases h1
end Go.Proofs.YtjkonfopajihdaaDoor
