/- Rows of complex numbers of the call's own. -/
import Derived.Test.YtnnefiefgpahdaaC12
import Derived.Laws.AppendOwnNone
import Derived.Maps.AppendAt
set_option linter.unusedSimpArgs false
set_option linter.unusedVariables false
namespace Go.Proofs.Ytnnefiefgpahdaa
open Go Go.RowKit Ff

def cv (p : Nat × Nat) : Value := .complex .f64 p.1 p.2
/-- A slice of the call's own that holds these numbers. -/
def OwnC (w : World) (B : Nat) (T : TypeId) (v : Value) (l : List (Nat × Nat)) : Prop := w.ownsRow B T 1 v l.length (l.map cv)
section
variable {w w' : World} {B B' : Nat} {T : TypeId} {v : Value} {l : List (Nat × Nat)}
theorem OwnC.nil (w : World) (B : Nat) (T : TypeId) : OwnC w B T (.slice none 0 0) [] := World.ownsRow_nil w B T 1
theorem OwnC.below (h : OwnC w B T v l) (hb : Below B' w w') (hB : ∀ g, v.ownBlock = some g → g < B') : OwnC w' B T v l := by
  rcases h.2 with ⟨rfl, h0⟩ | ⟨g, cap, cur, rfl, hB1, hh, hn, hm, hs, ht⟩
  · exact ⟨h.1, Or.inl ⟨rfl, h0⟩⟩
  · exact ⟨h.1, Or.inr ⟨g, cap, cur, rfl, hB1, (hb.block g (hB g rfl)).trans hh, hn, hm, hs, ht⟩⟩
theorem OwnC.lt (h : OwnC w B T v l) : ∀ g, v.ownBlock = some g → B ≤ g ∧ g < w.heap.size := World.ownsRow.lt h
theorem OwnC.whole (h : OwnC w B T v l) (hb : Below w.heap.size w w') : OwnC w' B T v l := h.below hb fun g e => (h.lt g e).2
theorem OwnC.drewN (h : OwnC w B T v l) (n : Nat) : OwnC (w.drewN n) B T v l := h
theorem OwnC.alloc (h : OwnC w B T v l) (o : Obj) : OwnC (w.alloc o) B T v l := World.ownsRow.alloc h o
theorem OwnC.form (h : OwnC w B T v l) : (v = .slice none 0 0 ∧ l = []) ∨ ∃ g cap, v = .slice (some ⟨g, 0, none⟩) l.length cap ∧ l.length ≤ cap ∧ cap ≤ 9223372036854775807 ∧ B ≤ g ∧ g < w.heap.size ∧
    ∀ j (hj : j < l.length), w.cell? ⟨g, j, none⟩ = some (.complex .f64 l[j].1 l[j].2) ∧ w.frozen? ⟨g, j, none⟩ = false := by
  rcases h.2 with ⟨rfl, h0⟩ | ⟨g, cap, cur, rfl, hB, hh, hn, hm, hs, ht⟩
  · exact Or.inl ⟨rfl, List.eq_nil_of_length_eq_zero h0⟩
  · have hlt : g < w.heap.size := by
      rcases Nat.lt_or_ge g w.heap.size with h' | h'
      · exact h'
      · rw [Array.getElem?_eq_none h'] at hh; cases hh
    refine Or.inr ⟨g, cap, rfl, hn, by simpa [maxLen] using hm, hB, hlt, fun j hj => ⟨?_, ?_⟩⟩
    · rw [cell_of_row w g j cur T (0, 0) hh]
      have e := congrArg (fun x => x[j]?) ht
      simp only [Nat.mul_one] at e
      rw [List.getElem?_take, if_pos hj, List.getElem?_map, List.getElem?_eq_getElem hj] at e
      rw [← Array.getElem?_toList]; exact e
    · simp [World.frozen?, hh]
theorem OwnC.full {y : Nat × Nat} (h : OwnC w B T v (l ++ [y])) : ∃ g cap, v = .slice (some ⟨g, 0, none⟩) (l.length + 1) cap ∧ l.length + 1 ≤ cap ∧ cap ≤ 9223372036854775807 ∧ B ≤ g ∧ g < w.heap.size ∧
    (∀ j (hj : j < l.length), w.cell? ⟨g, j, none⟩ = some (.complex .f64 l[j].1 l[j].2)) ∧ w.cell? ⟨g, l.length, none⟩ = some (.complex .f64 y.1 y.2) := by
  rcases h.form with ⟨_, h0⟩ | ⟨g, cap, e, h1, h2, h3, h4, h5⟩
  · simp at h0
  · rw [List.length_append, List.length_singleton] at e h1
    refine ⟨g, cap, e, h1, h2, h3, h4, fun j hj => ?_, ?_⟩
    · have := (h5 j (by rw [List.length_append]; omega)).1
      rwa [List.getElem_append_left hj] at this
    · have := (h5 l.length (by rw [List.length_append, List.length_singleton]; omega)).1
      rw [List.getElem_append_right (Nat.le_refl _)] at this
      simpa using this
end
/-- 'append(s, x)' of one number. -/
theorem wpList_appC1 {P : Program} (w0 : World) {ops : Array Oper} {rest : List Oper} {o : Oper} {a : Act} {Q : Exit → Act → World → Prop} (hgd : o.guard = none) (s x : Operand) (t : TypeId)
    (ho : o.op = .call { callee := .builtin .append, args := #[s, x], argTypes := #[t, t] })
    (B : Nat) (e U : TypeId) (i : TypeInfo) (ht : P.underlying t = some (.slice e)) (hi : P.info? e = some i) (hz : i.zero = some (.complex .f64 0 0))
    (hsize : i.size = 1) (hby : i.bytes = 16)
    (v : Value) (l : List (Nat × Nat)) (p q : Nat) (hs : a.eval s = v) (hx : a.eval x = .slice (some ⟨w0.heap.size, 0, none⟩) 1 1) (hown : OwnC w0 B e v l)
    (hn : (l.length + 1) * 16 ≤ 140737488355328) (hB : B ≤ w0.heap.size)
    (h : ∀ v' w', OwnC w' B e v' (l ++ [(p, q)]) → Below B w0 w' → wpList P ops Q rest (a.put o.dst v') w') :
    wpList P ops Q (o :: rest) a (w0.alloc (.cells #[.complex .f64 p q] U)) := by
  have hown1 : (w0.alloc (.cells #[.complex .f64 p q] U)).ownsRow B e 1 v l.length (l.map cv) := World.ownsRow.alloc hown _
  refine wpList_plain hgd fun _ hK => ?_
  obtain ⟨v', w', hrun, h2, hg, _, h5⟩ := run_append_own_at (P := P) (w0.alloc (.cells #[.complex .f64 p q] U)) B t o.type e i (.complex .f64 0 0) 1 16 ht hi hz hsize hby rfl (by omega) v l.length (l.map cv) hown1
    ⟨w0.heap.size, 0, none⟩ 1 1 [.complex .f64 p q] rfl (cell_one_new _ _ _) (by
      intro u hu
      rw [List.mem_singleton.1 hu]; rfl) (by simp [maxLen]; omega) hn (by simp; omega)
  unfold Oper.wp execOp
  simp only [ho, resolve, invoke, builtin, Sem.run_bind, Sem.run_pure, Result.andThen_ok, List.map_toArray, List.map_cons, List.map_nil, hs, hx, hrun]
  refine hK _ _ (h v' w' ?_ ?_)
  · unfold OwnC
    simpa [cv] using h2
  · exact Below.grown ((Below.refl _ _).alloc hB _) hg (by simp; omega) (fun g e => (World.ownsRow.lt hown g e).1)
end Go.Proofs.Ytnnefiefgpahdaa
