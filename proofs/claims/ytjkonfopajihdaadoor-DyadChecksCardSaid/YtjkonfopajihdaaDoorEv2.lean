/- A closed run, reckoned: how what is reckoned with stands to values and memory. -/
import Derived.Test.YtjkonfopajihdaaDoorEv1
import Derived.Laws.NewBlocks
set_option linter.unusedVariables false
namespace Go.Proofs.YtjkonfopajihdaaDoor
open Go Go.RowKit

/-- Number of a block, the block, how many cells it has. -/
abbrev Rho := Nat → Nat → Nat → Prop
mutual
def VRel (R : Rho) : AV → Value → Prop
  | .lit v, x => x = v
  | .ptr k off, x => ∃ b T, R k b T ∧ x = .pointer (some ⟨b, off, none⟩)
  | .sl k off len (some c) _, x => ∃ b T, R k b T ∧ x = .slice (some ⟨b, off, none⟩) len c
  | .sl k off len none sz, x => ∃ b T c, R k b T ∧ len ≤ c ∧ off + c * sz ≤ T ∧ x = .slice (some ⟨b, off, none⟩) len c
  | .emp, x => ∃ a c, x = .slice (some a) 0 c
  | .agg vs, x => ∃ cs, VRels R vs cs ∧ x = .agg cs.toArray
  | .tup vs, x => ∃ cs, VRels R vs cs ∧ x = .tuple cs.toArray
  | .ifc t v, x => ∃ y, VRel R v y ∧ x = .iface t y
  | .fn f a b, x => ∃ as bs, VRels R a as ∧ VRels R b bs ∧ x = .func f as.toArray bs.toArray
def VRels (R : Rho) : List AV → List Value → Prop
  | [], xs => xs = []
  | v :: vs, xs => ∃ y ys, xs = y :: ys ∧ VRel R v y ∧ VRels R vs ys
end
/-- More is known. -/
def Ext (R R' : Rho) : Prop := ∀ k b T, R k b T → R' k b T
theorem Ext.refl (R : Rho) : Ext R R := fun _ _ _ h => h
theorem Ext.trans {R R' R'' : Rho} (h : Ext R R') (h' : Ext R' R'') : Ext R R'' := fun k b T x => h' k b T (h k b T x)
mutual
theorem VRel.ext {R R' : Rho} (h : Ext R R') : ∀ {v : AV} {x : Value}, VRel R v x → VRel R' v x
  | .lit v, x, e => by simpa only [VRel] using e
  | .ptr k off, x, e => by
    simp only [VRel] at e ⊢
    obtain ⟨b, T, r, e⟩ := e
    exact ⟨b, T, h _ _ _ r, e⟩
  | .sl k off len (some c) _, x, e => by
    simp only [VRel] at e ⊢
    obtain ⟨b, T, r, e⟩ := e
    exact ⟨b, T, h _ _ _ r, e⟩
  | .sl k off len none sz, x, e => by
    simp only [VRel] at e ⊢
    obtain ⟨b, T, c, r, e⟩ := e
    exact ⟨b, T, c, h _ _ _ r, e⟩
  | .emp, x, e => by simpa only [VRel] using e
  | .agg vs, x, e => by
    simp only [VRel] at e ⊢
    obtain ⟨cs, r, e⟩ := e
    exact ⟨cs, VRels.ext h r, e⟩
  | .tup vs, x, e => by
    simp only [VRel] at e ⊢
    obtain ⟨cs, r, e⟩ := e
    exact ⟨cs, VRels.ext h r, e⟩
  | .ifc t v, x, e => by
    simp only [VRel] at e ⊢
    obtain ⟨y, r, e⟩ := e
    exact ⟨y, VRel.ext h r, e⟩
  | .fn f a b, x, e => by
    simp only [VRel] at e ⊢
    obtain ⟨as, bs, r, q, e⟩ := e
    exact ⟨as, bs, VRels.ext h r, VRels.ext h q, e⟩
theorem VRels.ext {R R' : Rho} (h : Ext R R') : ∀ {vs : List AV} {xs : List Value}, VRels R vs xs → VRels R' vs xs
  | [], xs, e => by simpa only [VRels] using e
  | v :: vs, xs, e => by
    simp only [VRels] at e ⊢
    obtain ⟨y, ys, e, r, q⟩ := e
    exact ⟨y, ys, e, VRel.ext h r, VRels.ext h q⟩
end
section
variable {R : Rho}
theorem VRels.nil : VRels R [] [] := by simp only [VRels]
theorem VRels.cons {v : AV} {x : Value} {vs : List AV} {xs : List Value} (h : VRel R v x) (hs : VRels R vs xs) : VRels R (v :: vs) (x :: xs) := by
  simp only [VRels]; exact ⟨x, xs, rfl, h, hs⟩
theorem VRels.length : ∀ {vs : List AV} {xs : List Value}, VRels R vs xs → xs.length = vs.length
  | [], xs, h => by simp only [VRels] at h; subst h; rfl
  | v :: vs, xs, h => by
    simp only [VRels] at h
    obtain ⟨y, ys, rfl, _, q⟩ := h
    simp [VRels.length q]
theorem VRels.get : ∀ {vs : List AV} {xs : List Value}, VRels R vs xs → ∀ {i : Nat} {v : AV}, vs[i]? = some v → ∃ x, xs[i]? = some x ∧ VRel R v x
  | [], xs, h, i, v, e => by simp at e
  | w :: vs, xs, h, i, v, e => by
    simp only [VRels] at h
    obtain ⟨y, ys, rfl, r, q⟩ := h
    cases i with
    | zero => simp at e; subst e; exact ⟨y, rfl, r⟩
    | succ i => simp at e; obtain ⟨x, h1, h2⟩ := VRels.get q e; exact ⟨x, by simpa using h1, h2⟩
theorem VRels.set : ∀ {vs : List AV} {xs : List Value}, VRels R vs xs → ∀ (i : Nat) {v : AV} {x : Value}, VRel R v x → VRels R (vs.set i v) (xs.set i x)
  | [], xs, h, i, v, x, e => by simp only [VRels] at h; subst h; exact VRels.nil
  | w :: vs, xs, h, i, v, x, e => by
    simp only [VRels] at h
    obtain ⟨y, ys, rfl, r, q⟩ := h
    cases i with
    | zero => exact VRels.cons e q
    | succ i => exact VRels.cons r (VRels.set q i e)
theorem VRels.append : ∀ {vs : List AV} {xs : List Value} {us : List AV} {ys : List Value}, VRels R vs xs → VRels R us ys → VRels R (vs ++ us) (xs ++ ys)
  | [], xs, us, ys, h, h' => by simp only [VRels] at h; subst h; simpa using h'
  | w :: vs, xs, us, ys, h, h' => by
    simp only [VRels] at h
    obtain ⟨y, zs, rfl, r, q⟩ := h
    exact VRels.cons r (VRels.append q h')
theorem VRels.take : ∀ {vs : List AV} {xs : List Value}, VRels R vs xs → ∀ (n : Nat), VRels R (vs.take n) (xs.take n)
  | [], xs, h, n => by simp only [VRels] at h; subst h; simpa using VRels.nil
  | w :: vs, xs, h, n => by
    simp only [VRels] at h
    obtain ⟨y, zs, rfl, r, q⟩ := h
    cases n with
    | zero => simpa using VRels.nil
    | succ n => simpa using VRels.cons r (VRels.take q n)
theorem VRels.drop : ∀ {vs : List AV} {xs : List Value}, VRels R vs xs → ∀ (n : Nat), VRels R (vs.drop n) (xs.drop n)
  | [], xs, h, n => by simp only [VRels] at h; subst h; simpa using VRels.nil
  | w :: vs, xs, h, n => by
    simp only [VRels] at h
    obtain ⟨y, zs, rfl, r, q⟩ := h
    cases n with
    | zero => simpa using VRels.cons r q
    | succ n => simpa using VRels.drop q n
theorem VRel.lit_ (v : Value) : VRel R (.lit v) v := by simp only [VRel]
theorem VRel.lit_eq {v x : Value} (h : VRel R (.lit v) x) : x = v := by simpa only [VRel] using h
theorem VRels.lits_ : ∀ (l : List Value), VRels R (l.map .lit) l
  | [] => VRels.nil
  | v :: l => VRels.cons (VRel.lit_ v) (VRels.lits_ l)
theorem VRels.map_ {α : Type} (f : α → AV) (g : α → Value) (h : ∀ a, VRel R (f a) (g a)) : ∀ (l : List α), VRels R (l.map f) (l.map g)
  | [] => VRels.nil
  | a :: l => VRels.cons (h a) (VRels.map_ f g h l)
theorem VRels.replicate (n : Nat) (v : Value) : VRels R (List.replicate n (.lit v)) (List.replicate n v) := by
  induction n with
  | zero => exact VRels.nil
  | succ n ih => exact VRels.cons (VRel.lit_ v) ih
theorem litOf2_some {v : AV} {l : Option (List Value)} {r : List Value} (h : litOf2 v l = some r) : ∃ x t, v = .lit x ∧ l = some t ∧ r = x :: t := by
  unfold litOf2 at h
  split at h
  · injection h with h; exact ⟨_, _, rfl, rfl, h.symm⟩
  · cases h
theorem lits_some : ∀ {vs : List AV} {l : List Value}, lits vs = some l → vs = l.map .lit
  | [], l, h => by
    have : (some [] : Option (List Value)) = some l := h
    injection this with h; subst h; rfl
  | v :: vs, l, h => by
    have h' : litOf2 v (lits vs) = some l := h
    obtain ⟨x, t, rfl, ht, rfl⟩ := litOf2_some h'
    rw [lits_some ht]; rfl
theorem VRels.lits_eq {vs : List AV} {xs l : List Value} (h : VRels R vs xs) (hl : lits vs = some l) : xs = l := by
  rw [lits_some hl] at h
  clear hl
  induction l generalizing xs with
  | nil => simpa only [List.map_nil, VRels] using h
  | cons a l ih =>
    simp only [List.map_cons, VRels] at h
    obtain ⟨y, ys, rfl, r, q⟩ := h
    rw [VRel.lit_eq r, ih q]
theorem VRel.mkAgg {vs : List AV} {cs : List Value} (h : VRels R vs cs) : VRel R (mkAgg vs) (.agg cs.toArray) := by
  unfold Go.Proofs.YtjkonfopajihdaaDoor.mkAgg
  cases hl : lits vs with
  | none => simp only [VRel]; exact ⟨cs, h, rfl⟩
  | some l => rw [h.lits_eq hl]; exact VRel.lit_ _
theorem VRel.mkTup {vs : List AV} {cs : List Value} (h : VRels R vs cs) : VRel R (mkTup vs) (.tuple cs.toArray) := by
  unfold Go.Proofs.YtjkonfopajihdaaDoor.mkTup
  cases hl : lits vs with
  | none => simp only [VRel]; exact ⟨cs, h, rfl⟩
  | some l => rw [h.lits_eq hl]; exact VRel.lit_ _
theorem VRel.cells_ {v : AV} {x : Value} (h : VRel R v x) : VRels R v.cells x.cells.toList := by
  have one : ∀ {v : AV} {x : Value}, VRel R v x → x.cells = #[x] → VRels R [v] x.cells.toList := fun h e => by
    rw [e]; exact VRels.cons h VRels.nil
  cases v with
  | lit v =>
    have e := VRel.lit_eq h
    subst e
    cases x <;> first
      | exact one (VRel.lit_ _) rfl
      | (simp only [AV.cells, mapL_eq, Value.cells]; exact VRels.lits_ _)
  | agg vs =>
    simp only [VRel] at h
    obtain ⟨cs, r, rfl⟩ := h
    simpa [AV.cells, Value.cells] using r
  | ptr k off => have h' := h; simp only [VRel] at h'; obtain ⟨_, _, _, e⟩ := h'; exact one h (by rw [e]; rfl)
  | sl k off len c sz =>
    have h' := h
    cases c with
    | none => simp only [VRel] at h'; obtain ⟨_, _, _, _, _, _, e⟩ := h'; exact one h (by rw [e]; rfl)
    | some c => simp only [VRel] at h'; obtain ⟨_, _, _, e⟩ := h'; exact one h (by rw [e]; rfl)
  | emp => have h' := h; simp only [VRel] at h'; obtain ⟨_, _, e⟩ := h'; exact one h (by rw [e]; rfl)
  | tup vs => have h' := h; simp only [VRel] at h'; obtain ⟨_, _, e⟩ := h'; exact one h (by rw [e]; rfl)
  | ifc t v => have h' := h; simp only [VRel] at h'; obtain ⟨_, _, e⟩ := h'; exact one h (by rw [e]; rfl)
  | fn f a b => have h' := h; simp only [VRel] at h'; obtain ⟨_, _, _, _, e⟩ := h'; exact one h (by rw [e]; rfl)
theorem VRel.one_ {v : AV} {x : Value} (h : VRel R v x) (h1 : v.one = true) : x.oneCell' = true := by
  cases v with
  | lit v =>
    have e := VRel.lit_eq h
    subst e
    cases x <;> first | rfl | cases h1
  | agg vs => cases h1
  | tup vs => cases h1
  | ptr k off => simp only [VRel] at h; obtain ⟨_, _, _, e⟩ := h; rw [e]; rfl
  | sl k off len c sz =>
    cases c with
    | none => simp only [VRel] at h; obtain ⟨_, _, _, _, _, _, e⟩ := h; rw [e]; rfl
    | some c => simp only [VRel] at h; obtain ⟨_, _, _, e⟩ := h; rw [e]; rfl
  | emp => simp only [VRel] at h; obtain ⟨_, _, e⟩ := h; rw [e]; rfl
  | ifc t v => simp only [VRel] at h; obtain ⟨_, _, e⟩ := h; rw [e]; rfl
  | fn f a b => simp only [VRel] at h; obtain ⟨_, _, _, _, e⟩ := h; rw [e]; rfl
theorem VRels.ones : ∀ {vs : List AV} {xs : List Value}, VRels R vs xs → vs.all (·.one) = true → ∀ x ∈ xs, x.oneCell' = true
  | [], xs, h, _, x, hx => by simp only [VRels] at h; subst h; cases hx
  | v :: vs, xs, h, h1, x, hx => by
    simp only [VRels] at h
    obtain ⟨y, ys, rfl, r, q⟩ := h
    simp only [List.all_cons, Bool.and_eq_true] at h1
    rcases List.mem_cons.1 hx with rfl | hx
    · exact r.one_ h1.1
    · exact VRels.ones q h1.2 x hx
end
/-! ### Memory -/
theorem look_nil (k : Nat) : look k [] = none := rfl
theorem look_cons (k : Nat) (p : Nat × List AV) (h : List (Nat × List AV)) : look k (p :: h) = if p.1 = k then some p.2 else look k h := by
  show (Bool.rec (look k h) (some p.2) (Nat.beq p.1 k) : Option (List AV)) = _
  cases hb : Nat.beq p.1 k with
  | true => rw [if_pos (Nat.eq_of_beq_eq_true hb)]
  | false => rw [if_neg (Nat.ne_of_beq_eq_false hb)]
theorem upd_cons (k : Nat) (b : List AV) (p : Nat × List AV) (h : List (Nat × List AV)) : upd k b (p :: h) = if p.1 = k then (p.1, b) :: h else p :: upd k b h := by
  show (Bool.rec (p :: upd k b h) ((p.1, b) :: h) (Nat.beq p.1 k) : List (Nat × List AV)) = _
  cases hb : Nat.beq p.1 k with
  | true => rw [if_pos (Nat.eq_of_beq_eq_true hb)]
  | false => rw [if_neg (Nat.ne_of_beq_eq_false hb)]
theorem kill_cons (k : Nat) (p : Nat × List AV) (h : List (Nat × List AV)) : kill k (p :: h) = if p.1 = k then kill k h else p :: kill k h := by
  show (Bool.rec (p :: kill k h) (kill k h) (Nat.beq p.1 k) : List (Nat × List AV)) = _
  cases hb : Nat.beq p.1 k with
  | true => rw [if_pos (Nat.eq_of_beq_eq_true hb)]
  | false => rw [if_neg (Nat.ne_of_beq_eq_false hb)]
theorem dropNew_cons (n : Nat) (p : Nat × List AV) (h : List (Nat × List AV)) : dropNew n (p :: h) = if n ≤ p.1 then dropNew n h else p :: dropNew n h := by
  show (Bool.rec (p :: dropNew n h) (dropNew n h) (Nat.ble n p.1) : List (Nat × List AV)) = _
  cases hb : Nat.ble n p.1 with
  | true => rw [if_pos (Nat.le_of_ble_eq_true hb)]
  | false => rw [if_neg (fun h => by rw [Nat.ble_eq_true_of_le h] at hb; cases hb)]
theorem look_upd_same {k : Nat} {b c : List AV} : ∀ {h : List (Nat × List AV)}, look k h = some c → look k (upd k b h) = some b
  | [], e => by cases e
  | p :: h, e => by
    rw [upd_cons]
    rw [look_cons] at e
    split
    · rename_i hp; rw [look_cons, if_pos hp]
    · rename_i hp; rw [if_neg hp] at e; rw [look_cons, if_neg hp]; exact look_upd_same e
theorem look_upd_ne {j k : Nat} (hjk : j ≠ k) {b : List AV} : ∀ {h : List (Nat × List AV)}, look j (upd k b h) = look j h
  | [] => rfl
  | p :: h => by
    rw [upd_cons]
    split
    · rename_i hp
      rw [look_cons, look_cons]
      have : ¬ p.1 = j := fun e => hjk (e.symm.trans hp)
      rw [if_neg this, if_neg this]
    · rw [look_cons, look_cons, look_upd_ne hjk]
theorem look_upd_some {j k : Nat} {b c B : List AV} {h : List (Nat × List AV)} (hk : look k h = some c) (e : look j (upd k b h) = some B) : ∃ B', look j h = some B' := by
  by_cases hjk : j = k
  · subst hjk; exact ⟨c, hk⟩
  · rw [look_upd_ne hjk] at e; exact ⟨B, e⟩
theorem look_kill_ne {j k : Nat} (hjk : j ≠ k) : ∀ {h : List (Nat × List AV)}, look j (kill k h) = look j h
  | [] => rfl
  | p :: h => by
    rw [kill_cons]
    split
    · rename_i hp
      have : ¬ p.1 = j := fun e => hjk (e.symm.trans hp)
      rw [look_cons, if_neg this, look_kill_ne hjk]
    · rw [look_cons, look_cons, look_kill_ne hjk]
theorem look_kill_same {k : Nat} : ∀ {h : List (Nat × List AV)}, look k (kill k h) = none
  | [] => rfl
  | p :: h => by
    rw [kill_cons]
    split
    · exact look_kill_same
    · rename_i hp; rw [look_cons, if_neg hp, look_kill_same]
theorem look_kill_some {j k : Nat} {B : List AV} {h : List (Nat × List AV)} (e : look j (kill k h) = some B) : j ≠ k ∧ look j h = some B := by
  by_cases hjk : j = k
  · subst hjk; rw [look_kill_same] at e; cases e
  · rw [look_kill_ne hjk] at e; exact ⟨hjk, e⟩
theorem look_dropNew_some {j n : Nat} {B : List AV} : ∀ {h : List (Nat × List AV)}, look j (dropNew n h) = some B → look j h = some B
  | [], e => by cases e
  | p :: h, e => by
    rw [dropNew_cons] at e
    split at e
    · rename_i hp
      have e' := look_dropNew_some e
      rw [look_cons]
      split
      · rename_i hpj
        have : look j (dropNew n h) = none := by
          clear e e'
          induction h with
          | nil => rfl
          | cons q h ih =>
            rw [dropNew_cons]
            split
            · exact ih
            · rename_i hq; rw [look_cons, if_neg (by omega), ih]
        rw [this] at e; cases e
      · exact e'
    · rw [look_cons] at e ⊢
      split at e
      · rename_i hp; rw [if_pos hp]; exact e
      · rename_i hp; rw [if_neg hp]; exact look_dropNew_some e
/-- The cells that are known of a block. -/
def BRel (R : Rho) (B : List AV) (w : World) (b T : Nat) : Prop :=
  ∃ C e fz, w.heap[b]? = some (.cells C e fz) ∧ C.size = T ∧ B.length ≤ T ∧ VRels R B (C.toList.take B.length) ∧ ∀ i, i < T → (decide (fz.1 ≤ i) && decide (i < fz.2)) = false
structure WRel (R : Rho) (s : AS) (w : World) : Prop where
  fn : ∀ {k b T b' T'}, R k b T → R k b' T' → b = b' ∧ T = T'
  dom : ∀ {k b T}, R k b T → k < s.n ∧ b < w.heap.size
  inj : ∀ {k k' b T T' B B'}, look k s.h = some B → look k' s.h = some B' → R k b T → R k' b T' → k = k'
  blk : ∀ {k B}, look k s.h = some B → ∃ b T, R k b T ∧ BRel R B w b T
structure Inv (R : Rho) (s : AS) (w : World) (floor base : Nat) : Prop where
  rel : WRel R s w
  hb : base ≤ w.heap.size
  hf : floor ≤ s.n
  own : ∀ {k b T}, R k b T → floor ≤ k → base ≤ b
  glo : ∀ {g B}, look g s.gl = some B → g < base ∧ ∀ i v, B[i]? = some v → ∃ u, v = .lit u ∧ w.cell? ⟨g, i, none⟩ = some u
theorem BRel.ext {R R' : Rho} (h : Ext R R') {B : List AV} {w : World} {b T : Nat} : BRel R B w b T → BRel R' B w b T :=
  fun ⟨C, e, fz, h1, h2, h3, h4, h5⟩ => ⟨C, e, fz, h1, h2, h3, h4.ext h, h5⟩
theorem BRel.of_block {R : Rho} {B : List AV} {w w' : World} {b T : Nat} (h : BRel R B w b T) (he : w'.heap[b]? = w.heap[b]?) : BRel R B w' b T :=
  let ⟨C, e, fz, h1, h2⟩ := h
  ⟨C, e, fz, he.trans h1, h2⟩
theorem BRel.cell {R : Rho} {B : List AV} {w : World} {b T : Nat} (h : BRel R B w b T) {i : Nat} {v : AV} (hv : B[i]? = some v) : ∃ x, w.cell? ⟨b, i, none⟩ = some x ∧ VRel R v x := by
  obtain ⟨C, e, fz, h1, h2, h3, h4, h5⟩ := h
  obtain ⟨x, hx, hr⟩ := h4.get hv
  have hi : i < B.length := (List.getElem?_eq_some_iff.1 hv).1
  refine ⟨x, ?_, hr⟩
  rw [List.getElem?_take_of_lt hi] at hx
  simpa [World.cell?, h1] using hx
theorem BRel.there {R : Rho} {B : List AV} {w : World} {b T : Nat} (h : BRel R B w b T) {o n : Nat} (hn : o + n ≤ T) : w.there b o n := by
  obtain ⟨C, e, fz, h1, h2, h3, h4, h5⟩ := h
  intro j hj
  have := h5 (o + j) (by omega)
  refine ⟨?_, ?_⟩
  · simp [World.cell?, h1]; omega
  · simpa [World.frozen?, h1] using this
theorem Inv.glo_below {R : Rho} {s : AS} {w w' : World} {f b : Nat} (h : Inv R s w f b) {g : Nat} {B : List AV} (hg : look g s.gl = some B) (hb : Below b w w') : g < b ∧ ∀ i v, B[i]? = some v → ∃ u, v = .lit u ∧ w'.cell? ⟨g, i, none⟩ = some u :=
  ⟨(h.glo hg).1, fun i v hv => let ⟨u, e, hc⟩ := (h.glo hg).2 i v hv; ⟨u, e, (hb.cell (p := ⟨g, i, none⟩) (h.glo hg).1).trans hc⟩⟩
/-- The world has the same memory. -/
theorem Inv.same {R : Rho} {s : AS} {w w' : World} {f b : Nat} (h : Inv R s w f b) (he : w'.heap = w.heap) : Inv R s w' f b :=
  ⟨⟨h.rel.fn, fun r => by rw [he]; exact h.rel.dom r, h.rel.inj, fun hk => let ⟨b, T, r, q⟩ := h.rel.blk hk; ⟨b, T, r, q.of_block (by rw [he])⟩⟩, by rw [he]; exact h.hb, h.hf, h.own, fun {g B} hg => ⟨(h.glo hg).1, fun i v hv => let ⟨u, e, hc⟩ := (h.glo hg).2 i v hv; ⟨u, e, (World.cell?_of_block (a := ⟨g, i, none⟩) (show w'.heap[g]? = w.heap[g]? by rw [he])).trans hc⟩⟩⟩
/-- Nothing that stood there has turned. -/
theorem WRel.below {R : Rho} {s : AS} {w w' : World} (h : WRel R s w) (hb : Below w.heap.size w w') : WRel R s w' :=
  ⟨h.fn, fun r => ⟨(h.dom r).1, Nat.lt_of_lt_of_le (h.dom r).2 hb.size⟩, h.inj, fun hk => let ⟨b, T, r, q⟩ := h.blk hk; ⟨b, T, r, q.of_block (hb.block b (h.dom r).2)⟩⟩
/-- From one state to the next. -/
structure Went (R R' : Rho) (s s' : AS) (w w' : World) (floor base : Nat) : Prop where
  ext : Ext R R'
  old : ∀ {k b T}, R' k b T → k < s.n → R k b T
  num : s.n ≤ s'.n
  keep : ∀ k, k < floor → look k s'.h = look k s.h
  inv : Inv R' s' w' floor base
  below : Below base w w'
  fresh : ∀ {k b T}, R' k b T → (∃ k0 T0, R k0 b T0) ∨ w.heap.size ≤ b
  more : ∀ k ∈ s.wr, k ∈ s'.wr
  wrote : ∀ {k b T B}, look k s.h = some B → R k b T → k ∉ s'.wr → w'.heap[b]? = w.heap[b]? ∧ look k s'.h = look k s.h
  other : ∀ b, b < w.heap.size → (∀ k T, ¬ R' k b T) → w'.heap[b]? = w.heap[b]?
theorem hasN_iff {l : List Nat} {k : Nat} : hasN l k = true ↔ k ∈ l := by
  induction l with
  | nil => exact ⟨fun h => (by cases h), fun h => (by cases h)⟩
  | cons a l ih =>
    show (Bool.rec (hasN l k) true (Nat.beq a k) : Bool) = true ↔ _
    cases hb : Nat.beq a k with
    | true => have := Nat.eq_of_beq_eq_true hb; subst this; simp
    | false =>
      have := Nat.ne_of_beq_eq_false hb
      rw [List.mem_cons]
      exact ⟨fun h => .inr (ih.1 h), fun h => h.elim (fun e => absurd e.symm this) ih.2⟩
theorem addW_iff {l : List Nat} {k j : Nat} : j ∈ addW k l ↔ j = k ∨ j ∈ l := by
  unfold addW
  split
  · rename_i h
    have := hasN_iff.1 h
    exact ⟨.inr, fun h => h.elim (fun e => e ▸ this) id⟩
  · exact List.mem_cons
theorem unionW_iff {l m : List Nat} {j : Nat} : j ∈ unionW l m ↔ j ∈ l ∨ j ∈ m := by
  induction l with
  | nil => exact ⟨.inr, fun h => h.elim (fun h => by cases h) id⟩
  | cons a l ih =>
    show j ∈ addW a (unionW l m) ↔ _
    rw [addW_iff, ih, List.mem_cons, or_assoc]
theorem oldW_iff {n : Nat} {l : List Nat} {j : Nat} : j ∈ oldW n l ↔ j ∈ l ∧ j < n := by
  induction l with
  | nil => exact ⟨fun h => (by cases h), fun h => (by cases h.1)⟩
  | cons a l ih =>
    show j ∈ (Bool.rec (a :: oldW n l) (oldW n l) (Nat.ble n a) : List Nat) ↔ _
    cases hb : Nat.ble n a with
    | true =>
      have := Nat.le_of_ble_eq_true hb
      rw [List.mem_cons]
      exact ⟨fun h => ⟨.inr (ih.1 h).1, (ih.1 h).2⟩, fun ⟨h, h2⟩ => h.elim (fun e => by omega) (fun h => ih.2 ⟨h, h2⟩)⟩
    | false =>
      have : ¬ n ≤ a := fun h => by rw [Nat.ble_eq_true_of_le h] at hb; cases hb
      show j ∈ a :: oldW n l ↔ _
      rw [List.mem_cons, List.mem_cons, ih]
      exact ⟨fun h => h.elim (fun e => ⟨.inl e, by omega⟩) (fun h => ⟨.inr h.1, h.2⟩), fun ⟨h, h2⟩ => h.elim .inl (fun h => .inr ⟨h, h2⟩)⟩
theorem Went.refl {R : Rho} {s : AS} {w : World} {f b : Nat} (h : Inv R s w f b) : Went R R s s w w f b := ⟨Ext.refl _, fun r _ => r, Nat.le_refl _, fun _ _ => rfl, h, Below.refl _ _, fun r => .inl ⟨_, _, r⟩, fun _ h => h, fun _ _ _ => ⟨rfl, rfl⟩, fun _ _ _ => rfl⟩
theorem Went.trans {R R' R'' : Rho} {s s' s'' : AS} {w w' w'' : World} {f b : Nat} (h : Went R R' s s' w w' f b) (h' : Went R' R'' s' s'' w' w'' f b) : Went R R'' s s'' w w'' f b :=
  ⟨h.ext.trans h'.ext, fun r hk => h.old (h'.old r (Nat.lt_of_lt_of_le hk h.num)) hk, Nat.le_trans h.num h'.num, fun k hk => (h'.keep k hk).trans (h.keep k hk), h'.inv, h.below.trans h'.below, fun r => by
    rcases h'.fresh r with ⟨k0, T0, r0⟩ | hb
    · exact h.fresh r0
    · exact .inr (Nat.le_trans h.below.size hb), fun k hk => h'.more k (h.more k hk), fun hk r hn => by
    obtain ⟨a1, a2⟩ := h.wrote hk r (fun hc => hn (h'.more _ hc))
    obtain ⟨b1, b2⟩ := h'.wrote (a2.trans hk) (h.ext _ _ _ r) hn
    exact ⟨b1.trans a1, b2.trans a2⟩, fun b hb hn => (h'.other b (Nat.lt_of_lt_of_le hb h.below.size) hn).trans (h.other b hb (fun k T r => hn k T (h'.ext _ _ _ r)))⟩
/-- A new block. -/
theorem Inv.new {R : Rho} {s : AS} {w w2 : World} {f b : Nat} (h : Inv R s w f b) {B : List AV} {C : Array Value} {e : TypeId} {fz : Nat × Nat} (hw : w2.heap = w.heap.push (.cells C e fz))
    (ho : w2.os = w.os ∧ w2.tape = w.tape ∧ w2.output = w.output) (hB : VRels R B (C.toList.take B.length)) (hl : B.length ≤ C.size) (hfz : ∀ i, i < C.size → (decide (fz.1 ≤ i) && decide (i < fz.2)) = false) :
    ∃ R', R' s.n w.heap.size C.size ∧ Went R R' s (newB s B) w w2 f b ∧ Below w.heap.size w w2 := by
  have hsz : w2.heap.size = w.heap.size + 1 := by rw [hw]; simp
  have hbl : Below w.heap.size w w2 := ⟨ho.1, ho.2.1, ho.2.2, by omega, fun k hk => by rw [hw, Array.getElem?_push, if_neg (by omega)]⟩
  let R' : Rho := fun k b T => R k b T ∨ (k = s.n ∧ b = w.heap.size ∧ T = C.size)
  have hx : Ext R R' := fun _ _ _ r => .inl r
  have hf := h.hf
  have hlook : ∀ {k B1}, look k (newB s B).h = some B1 → (k = s.n ∧ B1 = B) ∨ (k ≠ s.n ∧ look k s.h = some B1) := by
    intro k B1 h1
    change look k ((s.n, B) :: s.h) = _ at h1
    rw [look_cons] at h1
    split at h1
    · rename_i hk
      injection h1 with h1
      exact .inl ⟨hk.symm, h1.symm⟩
    · rename_i hk
      exact .inr ⟨fun e => hk e.symm, h1⟩
  refine ⟨R', .inr ⟨rfl, rfl, rfl⟩, ⟨hx, ?_, by show s.n ≤ s.n + 1; omega, ?_, ⟨⟨?_, ?_, ?_, ?_⟩, ?_, by show f ≤ s.n + 1; omega, ?_, fun hg => h.glo_below hg (hbl.mono h.hb)⟩, hbl.mono h.hb, fun r => by
    rcases r with r | ⟨_, rfl, _⟩
    · exact .inl ⟨_, _, r⟩
    · exact .inr (Nat.le_refl _), fun _ h => h, fun {k b T B1} hk r _ => ⟨hbl.block b (h.rel.dom r).2, by
      have := (h.rel.dom r).1
      show look k ((s.n, B) :: s.h) = _
      rw [look_cons, if_neg (by omega)]⟩, fun b hb _ => hbl.block b hb⟩, hbl⟩
  · rintro k b T (r | ⟨rfl, rfl, rfl⟩) hk
    · exact r
    · omega
  · intro k hk
    show look k ((s.n, B) :: s.h) = _
    rw [look_cons, if_neg (by show ¬ s.n = k; omega)]
  · rintro k b T b' T' (r | ⟨rfl, rfl, rfl⟩) (r' | ⟨e1, rfl, rfl⟩)
    · exact h.rel.fn r r'
    · have := (h.rel.dom r).1; omega
    · have := (h.rel.dom r').1; omega
    · exact ⟨rfl, rfl⟩
  · rintro k b T (r | ⟨rfl, rfl, rfl⟩)
    · have := h.rel.dom r
      exact ⟨by show k < s.n + 1; omega, by omega⟩
    · exact ⟨by show s.n < s.n + 1; omega, by omega⟩
  · rintro k k' b T T' B1 B2 h1 h2 (r | ⟨rfl, rfl, rfl⟩) (r' | ⟨e1, e2, e3⟩)
    · have hk := (h.rel.dom r).1
      have hk' := (h.rel.dom r').1
      rcases hlook h1 with ⟨e, _⟩ | ⟨_, h1⟩
      · omega
      rcases hlook h2 with ⟨e, _⟩ | ⟨_, h2⟩
      · omega
      exact h.rel.inj h1 h2 r r'
    · have := (h.rel.dom r).2; omega
    · have := (h.rel.dom r').2; omega
    · exact e1.symm
  · intro k B1 h1
    rcases hlook h1 with ⟨rfl, rfl⟩ | ⟨_, h1⟩
    · exact ⟨w.heap.size, C.size, .inr ⟨rfl, rfl, rfl⟩, C, e, fz, by rw [hw]; simp, rfl, hl, hB.ext hx, hfz⟩
    · obtain ⟨b, T, r, q⟩ := h.rel.blk h1
      exact ⟨b, T, .inl r, (q.ext hx).of_block (hbl.block b (h.rel.dom r).2)⟩
  · have := h.hb
    omega
  · rintro k b T (r | ⟨rfl, rfl, rfl⟩) hf
    · exact h.own r hf
    · exact h.hb
theorem setCells_heap_same (b : Nat) : ∀ (vs : List Value) (o : Nat) (w : World) (C : Array Value) (e : TypeId) (fz : Nat × Nat), w.heap[b]? = some (.cells C e fz) → o + vs.length ≤ C.size →
    ∃ C', (w.setCells b o vs).heap[b]? = some (.cells C' e fz) ∧ C'.size = C.size ∧ C'.toList = C.toList.take o ++ vs ++ C.toList.drop (o + vs.length)
  | [], o, w, C, e, fz, h, hl => ⟨C, h, rfl, by simp⟩
  | v :: vs, o, w, C, e, fz, h, hl => by
    have hl' : o + (vs.length + 1) ≤ C.size := hl
    have h1 : (w.setCell ⟨b, o, none⟩ v).heap[b]? = some (.cells (C.setIfInBounds o v) e fz) := by
      simp [World.setCell, Array.getElem?_modify, h]
    obtain ⟨C', h2, h3, h4⟩ := setCells_heap_same b vs (o + 1) _ (C.setIfInBounds o v) e fz h1 (by simp; omega)
    refine ⟨C', h2, by rw [h3]; simp, ?_⟩
    rw [h4, Array.toList_setIfInBounds, List.length_cons]
    apply List.ext_getElem?
    intro i
    simp only [List.getElem?_append, List.length_append, List.length_take, List.length_set, List.length_cons, List.getElem?_take, List.getElem?_set, List.getElem?_drop, Array.length_toList]
    rcases Nat.lt_trichotomy i o with hi | hi | hi
    · rw [if_pos (by omega), if_pos (by omega), if_pos (by omega), if_neg (by omega), if_pos (by omega), if_pos (by omega), if_pos (by omega)]
    · subst hi
      rw [if_pos (by omega), if_pos (by omega), if_pos (by omega), if_pos rfl, if_pos (by omega), if_pos (by omega), if_neg (by omega)]
      simp [Nat.min_eq_left (show i ≤ C.size by omega)]
    · by_cases hi2 : i < o + 1 + vs.length
      · rw [if_pos (by omega), if_neg (by omega), if_pos (by omega), if_neg (by omega)]
        rw [Nat.min_eq_left (by omega), Nat.min_eq_left (by omega), show i - o = (i - (o + 1)) + 1 by omega, List.getElem?_cons_succ]
      · rw [if_neg (by omega), if_neg (by omega)]
        rw [if_neg (by omega)]
        congr 1
        omega
theorem setCells_size (b : Nat) : ∀ (vs : List Value) (o : Nat) (w : World), (w.setCells b o vs).heap.size = w.heap.size
  | [], o, w => rfl
  | v :: vs, o, w => by rw [World.setCells, setCells_size b vs (o + 1)]; simp [World.setCell]
theorem setCells_rest (b : Nat) : ∀ (vs : List Value) (o : Nat) (w : World), (w.setCells b o vs).os = w.os ∧ (w.setCells b o vs).tape = w.tape ∧ (w.setCells b o vs).output = w.output
  | [], o, w => ⟨rfl, rfl, rfl⟩
  | v :: vs, o, w => by rw [World.setCells]; exact setCells_rest b vs (o + 1) _
theorem setCells_heap_ne (b : Nat) : ∀ (vs : List Value) (o : Nat) (w : World) (k : Nat), k ≠ b → (w.setCells b o vs).heap[k]? = w.heap[k]?
  | [], o, w, k, hk => rfl
  | v :: vs, o, w, k, hk => by
    rw [World.setCells, setCells_heap_ne b vs (o + 1) _ k hk]
    exact Below.heap_setCell _ _ _ _ hk
theorem setCells_below {b base : Nat} (w : World) (o : Nat) (vs : List Value) (hb : base ≤ b) : Below base w (w.setCells b o vs) :=
  ⟨(setCells_rest b vs o w).1, (setCells_rest b vs o w).2.1, (setCells_rest b vs o w).2.2, by rw [setCells_size]; exact Nat.le_refl _, fun k hk => setCells_heap_ne b vs o w k (by omega)⟩
/-- Cells of a block are written. -/
theorem Inv.put {R : Rho} {s : AS} {w : World} {f base : Nat} (h : Inv R s w f base) {k b T o : Nat} {B vs : List AV} {xs : List Value} (hk : look k s.h = some B) (r : R k b T)
    (hv : VRels R vs xs) (hl : o + vs.length ≤ B.length) (hfl : f ≤ k) :
    Inv R ⟨s.n, upd k (B.take o ++ vs ++ B.drop (o + vs.length)) s.h, addW k s.wr, s.gl⟩ (w.setCells b o xs) f base := by
  have hxl := hv.length
  refine ⟨⟨h.rel.fn, fun r => by rw [setCells_size]; exact h.rel.dom r, ?_, ?_⟩, by rw [setCells_size]; exact h.hb, h.hf, h.own, fun hg => h.glo_below hg (setCells_below w o xs (h.own r hfl))⟩
  · intro k1 k2 b1 T1 T2 B1 B2 h1 h2 r1 r2
    obtain ⟨B1', h1'⟩ := look_upd_some hk h1
    obtain ⟨B2', h2'⟩ := look_upd_some hk h2
    exact h.rel.inj h1' h2' r1 r2
  · intro j B1 h1
    by_cases hj : j = k
    · subst hj
      change look j (upd j _ s.h) = _ at h1
      rw [look_upd_same hk] at h1
      injection h1 with h1
      subst h1
      obtain ⟨b', T', r', C, e, fz, hC, hT, hBl, hBr, hfz⟩ := h.rel.blk hk
      obtain ⟨rfl, rfl⟩ := h.rel.fn r r'
      obtain ⟨C', h2, h3, h4⟩ := setCells_heap_same b xs o w C e fz hC (by omega)
      have hlen : (B.take o ++ vs ++ B.drop (o + vs.length)).length = B.length := by
        simp only [List.length_append, List.length_take, List.length_drop]; omega
      refine ⟨b, T, r, C', e, fz, h2, by omega, by omega, ?_, hfz⟩
      rw [hlen, h4]
      have e1 : (C.toList.take o ++ xs ++ C.toList.drop (o + xs.length)).take B.length = (C.toList.take B.length).take o ++ xs ++ (C.toList.take B.length).drop (o + vs.length) := by
        have hcl : B.length ≤ C.toList.length := by simp; omega
        apply List.ext_getElem?
        intro i
        simp only [List.getElem?_take, List.getElem?_append, List.length_append, List.length_take, List.getElem?_drop, hxl]
        by_cases hi : i < B.length
        · rw [if_pos hi, Nat.min_eq_left (show o ≤ C.toList.length by omega), Nat.min_eq_left (show o ≤ min B.length C.toList.length by omega)]
          by_cases hi2 : i < o + vs.length
          · rw [if_pos hi2, if_pos hi2]
            split
            · first | rfl | rw [if_pos (by omega), if_pos (by omega), if_pos (by omega)] | rw [if_pos (by omega), if_pos (by omega)] | rw [if_pos (by omega)]
            · rfl
          · rw [if_neg hi2, if_neg hi2, if_pos (by omega)]
        · rw [if_neg hi, Nat.min_eq_left (show o ≤ min B.length C.toList.length by omega)]
          rw [if_neg (by omega), if_neg (by omega)]
      rw [e1]
      exact ((hBr.take o).append hv).append (hBr.drop _)
    · change look j (upd k _ s.h) = _ at h1
      rw [look_upd_ne hj] at h1
      obtain ⟨b', T', r', q⟩ := h.rel.blk h1
      refine ⟨b', T', r', q.of_block (setCells_heap_ne b xs o w b' ?_)⟩
      rintro rfl
      exact hj (h.rel.inj h1 hk r' r)
/-- A row goes on in its own block, under a new number. -/
theorem Inv.move {R : Rho} {s : AS} {w : World} {f base : Nat} (h : Inv R s w f base) {k b T o : Nat} {B new : List AV} {xs : List Value} (hk : look k s.h = some B) (r : R k b T)
    (hv : VRels R new xs) (ho : o ≤ B.length) (hl : o + new.length ≤ T) (hfl : f ≤ k) :
    ∃ R', R' s.n b T ∧ Went R R' s (newB ⟨s.n, kill k s.h, addW k s.wr, s.gl⟩ (B.take o ++ new)) w (w.setCells b o xs) f base := by
  have hxl := hv.length
  have hks := (h.rel.dom r).1
  let R' : Rho := fun j c U => R j c U ∨ (j = s.n ∧ c = b ∧ U = T)
  have hx : Ext R R' := fun _ _ _ r => .inl r
  have hf := h.hf
  have hlook : ∀ {j B1}, look j (newB ⟨s.n, kill k s.h, addW k s.wr, s.gl⟩ (B.take o ++ new)).h = some B1 → (j = s.n ∧ B1 = B.take o ++ new) ∨ (j ≠ s.n ∧ j ≠ k ∧ look j s.h = some B1) := by
    intro j B1 h1
    change look j ((s.n, B.take o ++ new) :: kill k s.h) = _ at h1
    rw [look_cons] at h1
    split at h1
    · rename_i hj
      injection h1 with h1
      exact .inl ⟨hj.symm, h1.symm⟩
    · rename_i hj
      obtain ⟨h2, h3⟩ := look_kill_some h1
      exact .inr ⟨fun e => hj e.symm, h2, h3⟩
  refine ⟨R', .inr ⟨rfl, rfl, rfl⟩, ⟨hx, ?_, by show s.n ≤ s.n + 1; omega, ?_, ⟨⟨?_, ?_, ?_, ?_⟩, by rw [setCells_size]; exact h.hb, by show f ≤ s.n + 1; omega, ?_, fun hg => h.glo_below hg (setCells_below w o xs (h.own r hfl))⟩, setCells_below w o xs (h.own r hfl), fun r1 => by
    rcases r1 with r1 | ⟨_, rfl, _⟩
    · exact .inl ⟨_, _, r1⟩
    · exact .inl ⟨_, _, r⟩, fun _ h => addW_iff.2 (.inr h), fun {j b1 T1 B1} hj r1 hn => by
      have hjk : j ≠ k := fun e => hn (addW_iff.2 (.inl e))
      have := (h.rel.dom r1).1
      refine ⟨setCells_heap_ne _ _ _ _ _ (fun e => hjk (h.rel.inj hj hk (e ▸ r1) r)), ?_⟩
      show look j ((s.n, _) :: kill k s.h) = _
      rw [look_cons, if_neg (by omega), look_kill_ne hjk], fun b1 _ hn => setCells_heap_ne _ _ _ _ _ (fun e => hn k T (.inl (e ▸ r)))⟩⟩
  · rintro j c U (r1 | ⟨rfl, rfl, rfl⟩) hj
    · exact r1
    · omega
  · intro j hj
    show look j ((s.n, B.take o ++ new) :: kill k s.h) = _
    rw [look_cons, if_neg (by show ¬ s.n = j; omega), look_kill_ne (by omega)]
  · rintro j c U c' U' (r1 | ⟨e1, e2, e3⟩) (r2 | ⟨e4, e5, e6⟩)
    · exact h.rel.fn r1 r2
    · have := (h.rel.dom r1).1; omega
    · have := (h.rel.dom r2).1; omega
    · exact ⟨e2.trans e5.symm, e3.trans e6.symm⟩
  · rintro j c U (r1 | ⟨e1, e2, e3⟩)
    · have := h.rel.dom r1
      rw [setCells_size]
      exact ⟨by show j < s.n + 1; omega, this.2⟩
    · have := h.rel.dom r
      rw [setCells_size]
      exact ⟨by show j < s.n + 1; omega, by omega⟩
  · rintro j j' c U U' B1 B2 h1 h2 (r1 | ⟨e1, e2, e3⟩) (r2 | ⟨e4, e5, e6⟩)
    · have hj := (h.rel.dom r1).1
      have hj' := (h.rel.dom r2).1
      rcases hlook h1 with ⟨e, _⟩ | ⟨_, _, h1⟩
      · omega
      rcases hlook h2 with ⟨e, _⟩ | ⟨_, _, h2⟩
      · omega
      exact h.rel.inj h1 h2 r1 r2
    · have hj := (h.rel.dom r1).1
      rcases hlook h1 with ⟨e, _⟩ | ⟨_, hjk, h1⟩
      · omega
      · subst e5; exact absurd (h.rel.inj h1 hk r1 r) hjk
    · have hj := (h.rel.dom r2).1
      rcases hlook h2 with ⟨e, _⟩ | ⟨_, hjk, h2⟩
      · omega
      · subst e2; exact absurd (h.rel.inj h2 hk r2 r) hjk
    · exact e1.trans e4.symm
  · intro j B1 h1
    rcases hlook h1 with ⟨rfl, rfl⟩ | ⟨_, hjk, h1⟩
    · obtain ⟨b', T', r', C, e, fz, hC, hT, hBl, hBr, hfz⟩ := h.rel.blk hk
      obtain ⟨rfl, rfl⟩ := h.rel.fn r r'
      obtain ⟨C', h2, h3, h4⟩ := setCells_heap_same b xs o w C e fz hC (by omega)
      have hlen : (B.take o ++ new).length = o + new.length := by simp only [List.length_append, List.length_take]; omega
      refine ⟨b, T, .inr ⟨rfl, rfl, rfl⟩, C', e, fz, h2, by omega, by omega, ?_, hfz⟩
      rw [hlen, h4]
      have e1 : (C.toList.take o ++ xs ++ C.toList.drop (o + xs.length)).take (o + new.length) = (C.toList.take B.length).take o ++ xs := by
        have hc : (C.toList.take o).length = o := by simp; omega
        rw [List.take_append_of_le_length (by simp; omega), List.take_of_length_le (by simp; omega), List.take_take, Nat.min_eq_left ho]
      rw [e1]
      exact ((hBr.take o).append hv).ext hx
    · obtain ⟨b', T', r', q⟩ := h.rel.blk h1
      exact ⟨b', T', .inl r', (q.ext hx).of_block (setCells_heap_ne b xs o w b' (fun e => hjk (h.rel.inj h1 hk (e ▸ r') r)))⟩
  · rintro j c U (r1 | ⟨e1, e2, e3⟩) hj
    · exact h.own r1 hj
    · subst e2; exact h.own r hfl
theorem Inv.put_went {R : Rho} {s : AS} {w : World} {f base : Nat} (h : Inv R s w f base) {k b T o : Nat} {B vs : List AV} {xs : List Value} (hk : look k s.h = some B) (r : R k b T)
    (hv : VRels R vs xs) (hl : o + vs.length ≤ B.length) (hfl : f ≤ k) :
    Went R R s ⟨s.n, upd k (B.take o ++ vs ++ B.drop (o + vs.length)) s.h, addW k s.wr, s.gl⟩ w (w.setCells b o xs) f base :=
  ⟨Ext.refl _, fun r _ => r, Nat.le_refl _, fun j hj => look_upd_ne (by omega), h.put hk r hv hl hfl, setCells_below w o xs (h.own r hfl), fun r => .inl ⟨_, _, r⟩, fun _ h => addW_iff.2 (.inr h), fun {j b1 T1 B1} hj r1 hn => by
    have hjk : j ≠ k := fun e => hn (addW_iff.2 (.inl e))
    exact ⟨setCells_heap_ne _ _ _ _ _ (fun e => hjk (h.rel.inj hj hk (e ▸ r1) r)), look_upd_ne hjk⟩, fun b1 _ hn => setCells_heap_ne _ _ _ _ _ (fun e => hn k T (e ▸ r))⟩
theorem Inv.wr_ {R : Rho} {s : AS} {w : World} {f b : Nat} (h : Inv R s w f b) (x : List Nat) : Inv R ⟨s.n, s.h, x, s.gl⟩ w f b := ⟨⟨h.rel.fn, h.rel.dom, h.rel.inj, h.rel.blk⟩, h.hb, h.hf, h.own, h.glo⟩
/-- What was reckoned with an empty list of writes, put behind another. -/
theorem Went.merge {R R' : Rho} {s s' : AS} {w w' : World} {f b : Nat} (h : Went R R' ⟨s.n, s.h, [], s.gl⟩ s' w w' f b) : Went R R' s ⟨s'.n, s'.h, unionW s'.wr s.wr, s'.gl⟩ w w' f b :=
  ⟨h.ext, h.old, h.num, h.keep, h.inv.wr_ _, h.below, h.fresh, fun _ hk => unionW_iff.2 (.inr hk), fun hk r hn => h.wrote hk r (fun hc => hn (unionW_iff.2 (.inl hc))), h.other⟩
/-- A block that stands there already, and that was not known, is known from now on. -/
theorem Inv.adopt {R : Rho} {s : AS} {w : World} {f base : Nat} (h : Inv R s w f base) {B : List AV} {C : Array Value} {e : TypeId} {fz : Nat × Nat} {p : Nat} (hp : w.heap[p]? = some (.cells C e fz)) (hpb : base ≤ p) (hno : ∀ k T, ¬ R k p T)
    (hB : VRels R B (C.toList.take B.length)) (hl : B.length ≤ C.size) (hfz : ∀ i, i < C.size → (decide (fz.1 ≤ i) && decide (i < fz.2)) = false) :
    Inv (fun k b T => R k b T ∨ (k = s.n ∧ b = p ∧ T = C.size)) (newB s B) w f base := by
  have hps : p < w.heap.size := by
    rcases Nat.lt_or_ge p w.heap.size with c | c
    · exact c
    · rw [Array.getElem?_eq_none c] at hp; cases hp
  have hx : Ext R (fun k b T => R k b T ∨ (k = s.n ∧ b = p ∧ T = C.size)) := fun _ _ _ r => .inl r
  have hf := h.hf
  have hlook : ∀ {k B1}, look k (newB s B).h = some B1 → (k = s.n ∧ B1 = B) ∨ (k ≠ s.n ∧ look k s.h = some B1) := by
    intro k B1 h1
    change look k ((s.n, B) :: s.h) = _ at h1
    rw [look_cons] at h1
    split at h1
    · rename_i hk
      injection h1 with h1
      exact .inl ⟨hk.symm, h1.symm⟩
    · rename_i hk
      exact .inr ⟨fun e => hk e.symm, h1⟩
  refine ⟨⟨?_, ?_, ?_, ?_⟩, h.hb, by show f ≤ s.n + 1; omega, ?_, h.glo⟩
  · rintro k b T b' T' (r | ⟨rfl, rfl, rfl⟩) (r' | ⟨e1, rfl, rfl⟩)
    · exact h.rel.fn r r'
    · have := (h.rel.dom r).1; omega
    · have := (h.rel.dom r').1; omega
    · exact ⟨rfl, rfl⟩
  · rintro k b T (r | ⟨rfl, rfl, rfl⟩)
    · have := h.rel.dom r
      exact ⟨by show k < s.n + 1; omega, this.2⟩
    · exact ⟨by show s.n < s.n + 1; omega, hps⟩
  · rintro k k' b T T' B1 B2 h1 h2 (r | ⟨rfl, rfl, rfl⟩) (r' | ⟨e1, e2, e3⟩)
    · have hk := (h.rel.dom r).1
      have hk' := (h.rel.dom r').1
      rcases hlook h1 with ⟨e, _⟩ | ⟨_, h1⟩
      · omega
      rcases hlook h2 with ⟨e, _⟩ | ⟨_, h2⟩
      · omega
      exact h.rel.inj h1 h2 r r'
    · subst e2; exact absurd r (hno _ _)
    · exact absurd r' (hno _ _)
    · exact e1.symm
  · intro k B1 h1
    rcases hlook h1 with ⟨rfl, rfl⟩ | ⟨_, h1⟩
    · exact ⟨p, C.size, .inr ⟨rfl, rfl, rfl⟩, C, e, fz, hp, rfl, hl, hB.ext hx, hfz⟩
    · obtain ⟨b, T, r, q⟩ := h.rel.blk h1
      exact ⟨b, T, .inl r, q.ext hx⟩
  · rintro k b T (r | ⟨rfl, rfl, rfl⟩) hk
    · exact h.own r hk
    · exact hpb
end Go.Proofs.YtjkonfopajihdaaDoor
