/- A closed run, reckoned: aggregates; all that asks nothing of the world. -/
import Derived.Test.YtjkonfopajihdaaDoorEv4
set_option linter.unusedVariables false
set_option linter.unusedSimpArgs false
namespace Go.Proofs.YtjkonfopajihdaaDoor
open Go Go.RowKit

section
variable {P : Program} {R : Rho}
theorem foldl_put (off : Nat) : ∀ (vs : List Value) (k : Nat) (C : Array Value), off + k + vs.length ≤ C.size →
    ((vs.zipIdx k).foldl (fun cs (p : Value × Nat) => cs.setIfInBounds (off + p.2) p.1) C).toList = C.toList.take (off + k) ++ vs ++ C.toList.drop (off + k + vs.length) ∧
    ((vs.zipIdx k).foldl (fun cs (p : Value × Nat) => cs.setIfInBounds (off + p.2) p.1) C).size = C.size
  | [], k, C, h => by simp
  | v :: vs, k, C, h => by
    have h' : off + k + (vs.length + 1) ≤ C.size := h
    obtain ⟨h1, h2⟩ := foldl_put off vs (k + 1) (C.setIfInBounds (off + k) v) (by simp; omega)
    rw [List.zipIdx_cons, List.foldl_cons]
    refine ⟨?_, by rw [h2]; simp⟩
    rw [h1, Array.toList_setIfInBounds, List.length_cons]
    apply List.ext_getElem?
    intro i
    simp only [List.getElem?_append, List.length_append, List.length_take, List.length_set, List.length_cons, List.getElem?_take, List.getElem?_set, List.getElem?_drop, Array.length_toList]
    rcases Nat.lt_trichotomy i (off + k) with hi | hi | hi
    · rw [if_pos (by omega), if_pos (by omega), if_pos (by omega), if_neg (by omega), if_pos (by omega), if_pos (by omega), if_pos (by omega)]
    · subst hi
      rw [if_pos (by omega), if_pos (by omega), if_pos (by omega), if_pos rfl, if_pos (by omega), if_pos (by omega), if_neg (by omega)]
      simp [Nat.min_eq_left (show off + k ≤ C.size by omega)]
    · by_cases hi2 : i < off + k + 1 + vs.length
      · rw [if_pos (by omega), if_neg (by omega), if_pos (by omega), if_neg (by omega)]
        rw [Nat.min_eq_left (by omega), Nat.min_eq_left (by omega), show i - (off + k) = (i - (off + (k + 1))) + 1 by omega, List.getElem?_cons_succ]
      · rw [if_neg (by omega), if_neg (by omega)]
        rw [if_neg (by omega)]
        congr 1
        omega
theorem fill_ok {place : Nat → Option (Nat × Nat)} {f : Fr} {a : Act} (hf : FRel R f a.tmps) : ∀ (ps : List (Nat × Operand)) {cs r : List AV} {C : Array Value},
    fillA place cs (ps.map fun p => (p.1, opnd f p.2)) = some r → VRels R cs C.toList → ∃ C', Instr.fill place C (ps.map fun p => (p.1, a.eval p.2)) = some C' ∧ VRels R r C'.toList ∧ C'.size = C.size
  | [], cs, r, C, h, hr => by
    simp only [List.map_nil, fillA] at h
    injection h with h; subst h
    exact ⟨C, rfl, hr, rfl⟩
  | (i, x) :: ps, cs, r, C, h, hr => by
    simp only [List.map_cons, fillA] at h
    simp only [List.map_cons, Instr.fill]
    split at h
    · cases h
    · rename_i off size hp
      rw [hp]
      split at h
      · rename_i hb
        simp only [Bool.and_eq_true, lenL_eq] at hb
        have hb1 := Nat.eq_of_beq_eq_true hb.1
        have hb2 := Nat.le_of_ble_eq_true hb.2
        have rc := (opnd_ok hf x).cells_
        have hl := rc.length
        have hC := hr.length
        have hsz : (a.eval x).cells.size = size := by rw [← hb1, ← hl]; simp
        have hCs : C.size = cs.length := by rw [← hC]; simp
        rw [appL_eq, appL_eq, takeL_eq, dropL_eq, lenL_eq] at h
        have hz : (a.eval x).cells.zipIdx.foldl (fun cs (p : Value × Nat) => cs.setIfInBounds (off + p.2) p.1) C = ((a.eval x).cells.toList.zipIdx 0).foldl (fun cs (p : Value × Nat) => cs.setIfInBounds (off + p.2) p.1) C := by
          rw [← Array.foldl_toList]
          simp
        have hlen : (a.eval x).cells.toList.length = (opnd f x).cells.length := hl
        obtain ⟨h1, h2⟩ := foldl_put off (a.eval x).cells.toList 0 C (by omega)
        have hn : ¬ ((a.eval x).cells.size ≠ size ∨ off + (a.eval x).cells.size > C.size) := by
          intro hh
          rcases hh with hh | hh
          · exact hh hsz
          · have : (a.eval x).cells.size = (opnd f x).cells.length := by rw [← hl]; simp
            omega
        obtain ⟨C', h3, h4, h5⟩ := fill_ok hf ps (C := ((a.eval x).cells.toList.zipIdx 0).foldl (fun cs (p : Value × Nat) => cs.setIfInBounds (off + p.2) p.1) C) h (by
          rw [h1, Nat.add_zero, hlen, List.append_assoc]
          exact (hr.take off).append (rc.append (hr.drop _)))
        refine ⟨C', ?_, h4, by rw [h5, h2]⟩
        simp only [ne_eq, hsz, not_true_eq_false, false_or]
        rw [if_neg (by
          intro hh
          apply hn
          right
          simpa [hsz] using hh)]
        rw [hz]
        exact h3
      · cases h
theorem zeros_ok (z : Array Value) (n : Nat) : VRels R (zeros z n) ((Array.range n).map (z[· % z.size]!)).toList := by
  unfold zeros
  rw [mapL_eq, Array.toList_map, Array.toList_range]
  exact VRels.map_ _ _ (fun i => VRel.lit_ _) _
theorem zeros_length (z : Array Value) (n : Nat) : (zeros z n).length = n := by
  unfold zeros
  rw [mapL_eq]; simp
theorem lits_cells (z : Array Value) : VRels R (mapL .lit z.toList) z.toList := by
  rw [mapL_eq]; exact VRels.lits_ _
theorem mapEval {f : Fr} {a : Act} (hf : FRel R f a.tmps) : ∀ (l : List Operand), VRels R (mapL (opnd f) l) (l.map a.eval)
  | [] => VRels.nil
  | x :: l => VRels.cons (opnd_ok hf x) (mapEval hf l)
theorem equal_ptr {t e : TypeId} (hu : P.underlying t = some (.pointer e)) (x : Addr) (w : World) :
    (Op.equal t (.pointer (some x)) (.pointer none)).run P w = .ok false w ∧ (Op.equal t (.pointer none) (.pointer (some x))).run P w = .ok false w := by
  have e : ∀ y z, Op.equal t y z = Op.equalIn (9999 + 1) t y z := fun _ _ => rfl
  rw [e, e]
  generalize 9999 = d
  constructor <;> simp [Op.equalIn, run_underlying hu]
theorem equal_sl {t e : TypeId} (hu : P.underlying t = some (.slice e)) (x : Addr) (n c n' c' : Nat) (w : World) :
    (Op.equal t (.slice (some x) n c) (.slice none n' c')).run P w = .ok false w ∧ (Op.equal t (.slice none n' c') (.slice (some x) n c)).run P w = .ok false w := by
  have e : ∀ y z, Op.equal t y z = Op.equalIn (9999 + 1) t y z := fun _ _ => rfl
  rw [e, e]
  generalize 9999 = d
  constructor <;> simp [Op.equalIn, run_underlying hu]
theorem equal_fn {t : TypeId} {ps rs : Array TypeId} {vd : Bool} (hu : P.underlying t = some (.func ps rs vd)) (g : Fn) (p q : Array Value) (w : World) :
    (Op.equal t (.func g p q) .nilFunc).run P w = .ok false w ∧ (Op.equal t .nilFunc (.func g p q)).run P w = .ok false w := by
  have e : ∀ y z, Op.equal t y z = Op.equalIn (9999 + 1) t y z := fun _ _ => rfl
  rw [e, e]
  generalize 9999 = d
  constructor <;> simp [Op.equalIn, run_underlying hu]
theorem eqGuard_none (op : BinOp) (t : TypeId) (x y : Operand) (a b : Value) (h1 : a ≠ .nilIface) (h2 : ∀ l, a ≠ .agg l) (w : World) : (eqGuard op t x y a b).run P w = .ok () w := by
  unfold eqGuard
  cases op <;> first
    | rfl
    | (cases a <;> cases b <;> first | rfl | exact absurd rfl h1 | exact absurd rfl (h2 _))
end
end Go.Proofs.YtjkonfopajihdaaDoor
