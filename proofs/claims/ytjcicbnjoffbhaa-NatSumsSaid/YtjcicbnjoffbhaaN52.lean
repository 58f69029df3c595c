/- Rows of strings of the call's own. -/
import Derived.Test.YtjcicbnjoffbhaaN47
import Derived.Laws.AppendOwnNone
set_option linter.unusedSimpArgs false
set_option linter.unusedVariables false
namespace Go.Proofs.Ytjcicbnjoffbhaa
open Go Go.RowKit Nt

/-- A slice of the call's own that holds these strings. -/
def OwnS (w : World) (B : Nat) (T : TypeId) (v : Value) (ss : List ByteArray) : Prop := w.ownsRow B T 1 v ss.length (ss.map Value.string)
section
variable {w w' : World} {B B' : Nat} {T : TypeId} {v : Value} {ss : List ByteArray}
theorem OwnS.nil (w : World) (B : Nat) (T : TypeId) : OwnS w B T (.slice none 0 0) [] := World.ownsRow_nil w B T 1
theorem OwnS.below (h : OwnS w B T v ss) (hb : Below B' w w') (hB : ∀ g, v.ownBlock = some g → g < B') : OwnS w' B T v ss := by
  rcases h.2 with ⟨rfl, h0⟩ | ⟨g, cap, cur, rfl, hB1, hh, hn, hm, hs, ht⟩
  · exact ⟨h.1, Or.inl ⟨rfl, h0⟩⟩
  · exact ⟨h.1, Or.inr ⟨g, cap, cur, rfl, hB1, (hb.block g (hB g rfl)).trans hh, hn, hm, hs, ht⟩⟩
theorem OwnS.lt (h : OwnS w B T v ss) : ∀ g, v.ownBlock = some g → B ≤ g ∧ g < w.heap.size := World.ownsRow.lt h
theorem OwnS.whole (h : OwnS w B T v ss) (hb : Below w.heap.size w w') : OwnS w' B T v ss := h.below hb fun g e => (h.lt g e).2
theorem OwnS.drewN (h : OwnS w B T v ss) (n : Nat) : OwnS (w.drewN n) B T v ss := h
theorem OwnS.form (h : OwnS w B T v ss) : (v = .slice none 0 0 ∧ ss = []) ∨ ∃ g cap, v = .slice (some ⟨g, 0, none⟩) ss.length cap ∧ ss.length ≤ cap ∧ cap ≤ 9223372036854775807 ∧ B ≤ g ∧ g < w.heap.size ∧
    ∀ j (hj : j < ss.length), w.cell? ⟨g, j, none⟩ = some (.string ss[j]) ∧ w.frozen? ⟨g, j, none⟩ = false := by
  rcases h.2 with ⟨rfl, h0⟩ | ⟨g, cap, cur, rfl, hB, hh, hn, hm, hs, ht⟩
  · exact Or.inl ⟨rfl, List.eq_nil_of_length_eq_zero h0⟩
  · refine Or.inr ⟨g, cap, rfl, hn, by simpa [maxLen] using hm, hB, Blk.lt hh, fun j hj => ⟨?_, Blk.frozen (cs := cur) (t := T) hh j⟩⟩
    rw [Blk.cell (cs := cur) (t := T) hh j]
    have e := congrArg (fun x => x[j]?) ht
    simp only [Nat.mul_one] at e
    rw [List.getElem?_take, if_pos hj, List.getElem?_map, List.getElem?_eq_getElem hj] at e
    rw [← Array.getElem?_toList]; exact e
theorem OwnS.len (h : OwnS w B T v ss) : ∃ A c, v = .slice A ss.length c ∧ ss.length ≤ c := by
  rcases h.form with ⟨rfl, rfl⟩ | ⟨g, cap, rfl, hn, _⟩
  · exact ⟨none, 0, rfl, Nat.le_refl _⟩
  · exact ⟨_, _, rfl, hn⟩
theorem OwnS.full {y : ByteArray} {n : Nat} (h : OwnS w B T v (ss ++ [y])) (hn : n = ss.length) : ∃ g cap, v = .slice (some ⟨g, 0, none⟩) (n + 1) cap ∧ n + 1 ≤ cap ∧ cap ≤ 9223372036854775807 ∧ B ≤ g ∧ g < w.heap.size ∧
    ∀ j (hj : j < (ss ++ [y]).length), w.cell? ⟨g, j, none⟩ = some (.string (ss ++ [y])[j]) ∧ w.frozen? ⟨g, j, none⟩ = false := by
  subst hn
  rcases h.form with ⟨_, h0⟩ | ⟨g, cap, e, h1, h2, h3, h4, h5⟩
  · simp at h0
  · rw [List.length_append, List.length_singleton] at e h1
    exact ⟨g, cap, e, h1, h2, h3, h4, h5⟩
theorem OwnS.strs {A : Option Addr} {n c : Nat} (h : OwnS w B T (.slice A n c) ss) : Strs w A ss := fun hl => by
  rcases h.form with ⟨_, rfl⟩ | ⟨g, cap, e, _, _, _, _, hc⟩
  · simp at hl
  · injection e with e1 e2 e3
    exact ⟨⟨g, 0, none⟩, e1, fun j hj => by rw [add_plain0]; exact (hc j hj).1⟩
end
/-- 'append(s, x)' of one string. -/
theorem wpList_appS1 {P : Program} (w0 : World) {ops : Array Oper} {rest : List Oper} {o : Oper} {a : Act} {Q : Exit → Act → World → Prop} (hgd : o.guard = none) (s x : Operand) (t : TypeId)
    (ho : o.op = .call { callee := .builtin .append, args := #[s, x], argTypes := #[t, t] })
    (B : Nat) (e U : TypeId) (i : TypeInfo) (ht : P.underlying t = some (.slice e)) (hi : P.info? e = some i) (hz : i.zero = some (.string ⟨#[]⟩))
    (hsize : i.size = 1) (hby : i.bytes = 16)
    (v : Value) (ss : List ByteArray) (y : ByteArray) (hs : a.eval s = v) (hx : a.eval x = .slice (some ⟨w0.heap.size, 0, none⟩) 1 1) (hown : OwnS w0 B e v ss)
    (hn : (ss.length + 1) * 16 ≤ 140737488355328) (hB : B ≤ w0.heap.size)
    (h : ∀ v' w', OwnS w' B e v' (ss ++ [y]) → Below B w0 w' → wpList P ops Q rest (a.put o.dst v') w') :
    wpList P ops Q (o :: rest) a (w0.alloc (.cells #[.string y] U)) := by
  have hown1 : (w0.alloc (.cells #[.string y] U)).ownsRow B e 1 v ss.length (ss.map Value.string) := World.ownsRow.alloc hown _
  refine wpList_plain hgd fun _ hK => ?_
  obtain ⟨v', w', hrun, h2, hg, _, h5⟩ := run_append_own_at (P := P) (w0.alloc (.cells #[.string y] U)) B t o.type e i (.string ⟨#[]⟩) 1 16 ht hi hz hsize hby rfl (by omega) v ss.length (ss.map Value.string) hown1
    ⟨w0.heap.size, 0, none⟩ 1 1 [.string y] rfl (cell_one_new _ _ _) (by
      intro u hu
      rw [List.mem_singleton.1 hu]; rfl) (by simp [maxLen]; omega) hn (by simp; omega)
  unfold Oper.wp execOp
  simp only [ho, resolve, invoke, builtin, Sem.run_bind, Sem.run_pure, Result.andThen_ok, List.map_toArray, List.map_cons, List.map_nil, hs, hx, hrun]
  refine hK _ _ (h v' w' ?_ ?_)
  · unfold OwnS
    simpa using h2
  · exact Below.grown ((Below.refl _ _).alloc hB _) hg (by simp; omega) (fun g e => (World.ownsRow.lt hown g e).1)
/-- 'append([]string(nil), l...)'. -/
theorem wpList_appSl {P : Program} (w0 : World) {ops : Array Oper} {rest : List Oper} {o : Oper} {a : Act} {Q : Exit → Act → World → Prop} (hgd : o.guard = none) (s x : Operand) (t : TypeId)
    (ho : o.op = .call { callee := .builtin .append, args := #[s, x], argTypes := #[t, t] })
    (B : Nat) (e : TypeId) (i : TypeInfo) (ht : P.underlying t = some (.slice e)) (hi : P.info? e = some i) (hz : i.zero = some (.string ⟨#[]⟩))
    (hsize : i.size = 1) (hby : i.bytes = 16)
    (ss : List ByteArray) (A : Option Addr) (n c : Nat) (hnn : n = ss.length) (hs : a.eval s = .slice none 0 0) (hx : a.eval x = .slice A n c) (hA : A = none → ss = [] ∧ c = 0) (hstr : Strs w0 A ss)
    (hn : ss.length * 16 ≤ 140737488355328) (hB : B ≤ w0.heap.size)
    (h : ∀ v' w', OwnS w' B e v' ss → Below w0.heap.size w0 w' → wpList P ops Q rest (a.put o.dst v') w') :
    wpList P ops Q (o :: rest) a w0 := by
  subst hnn
  cases A with
  | none =>
    obtain ⟨rfl, rfl⟩ := hA rfl
    exact wpList_append_own_none hgd s x t ho B e i 1 ht hi (.slice none 0 0) 0 [] hs (World.ownsRow_nil _ _ _ _) hx (h _ _ (OwnS.nil _ _ _) (Below.refl _ _))
  | some ad =>
    refine wpList_append_own_at w0 hgd s x t ho B e i (.string ⟨#[]⟩) 1 16 ht hi hz hsize hby rfl (by omega) (.slice none 0 0) 0 [] hs (World.ownsRow_nil _ _ _ _) ad ss.length c (ss.map Value.string) hx (by simp) ?_ ?_ (by simp [maxLen]; omega) (by simpa using hn) hB ?_
    · intro j u hu
      rw [List.getElem?_map] at hu
      have hj : j < ss.length := by
        rcases Nat.lt_or_ge j ss.length with h | h
        · exact h
        · rw [List.getElem?_eq_none h] at hu; cases hu
      rw [List.getElem?_eq_getElem hj] at hu
      obtain ⟨ad', e1, hc⟩ := hstr.at_ hj
      cases e1
      rw [hc]; exact hu
    · intro u hu
      obtain ⟨y, _, rfl⟩ := List.mem_map.1 hu
      rfl
    · intro v' w' hown hg _ _
      refine h v' w' ?_ ?_
      · unfold OwnS
        simpa using hown
      · exact Below.grown (Below.refl _ _) hg (Nat.le_refl _) (fun g e => by simp [Value.ownBlock] at e)
/-- Numbers that may be, all of them. -/
theorem may_nums : ∀ {ss : List ByteArray}, (∀ s ∈ ss, May s) → ∃ l : List Nat, (∀ n ∈ l, fits n) ∧ ss = l.map natS
  | [], _ => ⟨[], by simp, rfl⟩
  | s :: ss, h => by
    obtain ⟨l, h1, rfl⟩ := may_nums (ss := ss) (fun x hx => h x (List.mem_cons_of_mem _ hx))
    obtain ⟨n, hn, rfl⟩ := may_num (h s (List.mem_cons_self ..))
    exact ⟨n :: l, fun x hx => by
      rcases List.mem_cons.1 hx with rfl | hx
      · exact hn
      · exact h1 x hx, rfl⟩
end Go.Proofs.Ytjcicbnjoffbhaa
