/- A closed run, reckoned: a region that draws its order. -/
import Derived.Test.YtjkonfopajihdaaDoorEv8
import Derived.OrdersHeld
set_option linter.unusedVariables false
set_option linter.unusedSimpArgs false
namespace Go.Proofs.YtjkonfopajihdaaDoor
open Go Go.RowKit

/-- One operation waits for another, through whatever others. -/
inductive Reach (ops : Array Oper) : Nat → Nat → Prop
  | edge {j : Nat} {o : Oper} {e : Edge} : ops[j]? = some o → e ∈ o.after → Region.binds .any e = true → Reach ops j e.on
  | next {j k : Nat} {o : Oper} {e : Edge} : Reach ops j k → ops[k]? = some o → e ∈ o.after → Region.binds .any e = true → Reach ops j e.on
/-- What has come up came up behind all that it waits for. -/
def Down (ops : Array Oper) (listed : Array Bool) : Prop := ∀ j o, ops[j]? = some o → listed.getD j false = true → ∀ e ∈ o.after, Region.binds .any e = true → listed.getD e.on false = true
section
variable {ops : Array Oper}
theorem Down.reach {listed : Array Bool} (h : Down ops listed) {j i : Nat} (hr : Reach ops j i) (h1 : ∀ o, ops[j]? = some o → ∀ e ∈ o.after, Region.binds .any e = true → listed.getD e.on false = true) : listed.getD i false = true := by
  induction hr with
  | edge ho he hb => exact h1 _ ho _ he hb
  | next _ ho he hb ih => exact h _ _ ho ih _ he hb
theorem Down.of_listed {listed : Array Bool} (h : Down ops listed) {j i : Nat} (hr : Reach ops j i) (hj : listed.getD j false = true) : listed.getD i false = true :=
  h.reach hr fun o ho e he hb => h j o ho hj e he hb
theorem getD_set_cases {listed : Array Bool} {i j : Nat} (h : (listed.setIfInBounds i true).getD j false = true) : j = i ∨ listed.getD j false = true := by
  by_cases hij : i = j
  · exact .inl hij.symm
  · exact .inr (by rw [getD_set_ne false hij] at h; exact h)
theorem Down.set {listed : Array Bool} (h : Down ops listed) {i : Nat} (hi : i ∈ Region.ready .any ops listed) : Down ops (listed.setIfInBounds i true) := by
  intro j o ho hj e he hb
  rcases getD_set_cases hj with rfl | hj
  · obtain ⟨_, o', ho', hall⟩ := mem_ready.1 hi
    rw [ho] at ho'
    injection ho' with ho'
    subst ho'
    exact getD_set_true (hall e he hb)
  · exact getD_set_true (h j o ho hj e he hb)
theorem getD_tf {listed : Array Bool} {i : Nat} (h : listed.getD i true = false) : listed.getD i false = false := by
  rcases Nat.lt_or_ge i listed.size with h' | h'
  · simp [h'] at h ⊢; exact h
  · simp [Array.getElem?_eq_none h'] at h
/-- How many have not come up. -/
def cnt (listed : Array Bool) : Nat := listed.toList.count false
theorem cnt_set {listed : Array Bool} {i : Nat} (h : listed.getD i true = false) : cnt (listed.setIfInBounds i true) + 1 = cnt listed := by
  have hi : i < listed.size := by
    rcases Nat.lt_or_ge i listed.size with h' | h'
    · exact h'
    · simp [Array.getElem?_eq_none h'] at h
  have hv : listed[i] = false := by simpa [hi] using h
  unfold cnt
  rw [Array.toList_setIfInBounds]
  have hi' : i < listed.toList.length := by simpa using hi
  have e := List.count_set (a := true) (b := false) hi'
  have hg : listed.toList[i] = false := by simpa using hv
  have hpos : 0 < listed.toList.count false := List.count_pos_iff.2 (by rw [← hg]; exact List.getElem_mem hi')
  have e1 : (if (listed.toList[i] == false) = true then 1 else 0) = 1 := by rw [hg]; rfl
  have e2 : (if (true == false) = true then 1 else 0) = 0 := rfl
  rw [e, e1, e2]
  omega
theorem cnt_pos {listed : Array Bool} {i : Nat} (h : listed.getD i true = false) : 0 < cnt listed := by have := cnt_set h; omega
end
/-- A state that an operation may still meet. -/
def Si (ops : Array Oper) (S : Array Bool → World → Prop) (i : Nat) (w : World) : Prop := ∃ L, Down ops L ∧ L.getD i true = false ∧ S L w
/-- Whatever order is picked from here on. -/
def wpAnyU (P : Program) (ops : Array Oper) (Q : Exit → Act → World → Prop) (S : Array Bool → World → Prop) : Nat → Array Bool → Act → World → Prop
  | 0, listed, a, w => Region.ready .any ops listed = [] ∧ Q .normal a w
  | fuel + 1, listed, a, w => (Region.ready .any ops listed = [] → Q .normal a w) ∧
    ∀ i ∈ Region.ready .any ops listed, wpOp P ops Q i (fun a' w' => S (listed.setIfInBounds i true) w' ∧ wpAnyU P ops Q S fuel (listed.setIfInBounds i true) a' w') a w
section
variable {P : Program} {ops : Array Oper} {Q : Exit → Act → World → Prop} {S : Array Bool → World → Prop}
theorem wpAny_of_U : ∀ (fuel : Nat) {listed : Array Bool} {a : Act} {w : World}, wpAnyU P ops Q S fuel listed a w → wpAny P .any ops Q fuel listed a w
  | 0, _, _, _, h => h
  | fuel + 1, _, _, _, h => ⟨h.1, fun i hi => wpOp_mono (fun a' w' h' => wpAny_of_U fuel h'.2) (h.2 i hi)⟩
theorem wpAnyU_done {listed : Array Bool} {a : Act} {w : World} (hr : Region.ready .any ops listed = []) (h : Q .normal a w) : ∀ fuel, wpAnyU P ops Q S fuel listed a w
  | 0 => ⟨hr, h⟩
  | _ + 1 => ⟨fun _ => h, by rw [hr]; simp⟩
theorem wpAnyU_first (hns : Region.noSelect ops = true) (hmono : ∀ L i w, S L w → S (L.setIfInBounds i true) w) (hQ : ∀ c a w, ¬ Q (.panic c) a w) {i : Nat} {oi : Oper} {v : Value} (hi : ops[i]? = some oi) :
    ∀ (fuel : Nat) (listed : Array Bool) (a : Act) (w : World),
      (∀ j oj, ops[j]? = some oj → j ≠ i → listed.getD j true = false → (∀ e ∈ oj.after, Region.binds .any e = true → e.on ≠ i) → oi.apart ops oj = true) →
      (∀ L w, S (L.setIfInBounds i true) w → S L w) → i ∈ Region.ready .any ops listed → Down ops listed → YieldsIf P ops (Si ops S i) oi v a → S listed w →
      wpAnyU P ops Q S fuel (listed.setIfInBounds i true) (a.put oi.dst v) w → wpAnyU P ops Q S (fuel + 1) listed a w := by
  have hsel := Region.noSelect_spec hns
  have hin : i < ops.size := (Array.getElem?_eq_some_iff.1 hi).1
  intro fuel
  induction fuel with
  | zero =>
    intro listed a w _ hin2 hr hd hy hS H
    have hun := (mem_ready.1 hr).1
    refine ⟨fun h => (by rw [h] at hr; cases hr), fun j hj => ?_⟩
    by_cases hji : j = i
    · subst hji; exact hy.wpOp hi ⟨listed, hd, hun, hS⟩ ⟨hmono _ _ _ hS, H⟩
    · have := ready_mono hj hji
      rw [H.1] at this
      cases this
  | succ fuel ih =>
    intro listed a w hfree hin2 hr hd hy hS H
    have hun := (mem_ready.1 hr).1
    refine ⟨fun h => (by rw [h] at hr; cases hr), fun j hj => ?_⟩
    by_cases hji : j = i
    · subst hji; exact hy.wpOp hi ⟨listed, hd, hun, hS⟩ ⟨hmono _ _ _ hS, H⟩
    · have h1 := H.2 j (ready_mono hj hji)
      obtain ⟨hjun, oj, hoj, hall⟩ := mem_ready.1 hj
      have hnot : ∀ e ∈ oj.after, Region.binds .any e = true → e.on ≠ i := fun e he hb heq => by
        have h1 := hall e he hb
        rw [heq, getD_tf hun] at h1
        cases h1
      have h2 := wpOp_putIf hoj (hfree j oj hoj hji hjun hnot) (fun cs b => hsel i oi cs b hi) (fun cs b => hsel j oj cs b hoj) (fun c a w h => absurd h (hQ _ _ _)) hy h1
      have hun2 : (listed.setIfInBounds j true).getD i true = false := by rw [getD_set_ne true hji]; exact hun
      refine wpOp_mono (fun a' w' h3 => ?_) h2
      obtain ⟨hy', hS', H'⟩ := h3
      rw [Array.setIfInBounds_comm _ _ (Ne.symm hji)] at hS' H'
      have hS2 := hin2 _ _ hS'
      refine ⟨hS2, ih (listed.setIfInBounds j true) a' w' (fun k ok hk hki hun3 hno => hfree k ok hk hki ?_ hno) hin2 (ready_mono hr (Ne.symm hji)) (hd.set hj) hy' hS2 H'⟩
      by_cases hjk : j = k
      · subst hjk; exact hjun
      · rw [getD_set_ne true hjk] at hun3; exact hun3
theorem wpAnyU_take (hns : Region.noSelect ops = true) (hmono : ∀ L i w, S L w → S (L.setIfInBounds i true) w) (hQ : ∀ c a w, ¬ Q (.panic c) a w) {i : Nat} {oi : Oper} {v : Value} {fuel : Nat} {listed : Array Bool} {a : Act} {w : World} (hi : ops[i]? = some oi)
    (hf : Region.free .any ops listed i = true) (hin2 : ∀ L w, S (L.setIfInBounds i true) w → S L w) (hr : i ∈ Region.ready .any ops listed) (hd : Down ops listed) (hy : YieldsIf P ops (Si ops S i) oi v a) (hS : S listed w)
    (h : wpAnyU P ops Q S fuel (listed.setIfInBounds i true) (a.put oi.dst v) w) : wpAnyU P ops Q S (fuel + 1) listed a w :=
  wpAnyU_first hns hmono hQ hi fuel listed a w (Region.free_spec hi hf) hin2 hr hd hy hS h
end
end Go.Proofs.YtjkonfopajihdaaDoor
