/- Rows of the call's own that grow; slices.Reverse at bytes. -/
import Derived.Test.YtjkonfopajihdaaDoorN20
import Derived.Laws.AppendOwn
import Derived.Deep.LoopGhost
import Derived.Maps.AppendAt
set_option linter.unusedSimpArgs false
set_option linter.unusedVariables false
namespace Go.Proofs.YtjkonfopajihdaaDoor
open Go Go.RowKit Nt

theorem below_chain {a b c : World} (h1 : Below a.heap.size a b) (h2 : Below b.heap.size b c) : Below a.heap.size a c := h1.trans (h2.mono h1.size)
/-- A slice of the call's own that holds these numbers. -/
def Own (w : World) (B : Nat) (T : TypeId) (k : IntKind) (v : Value) (l : List Nat) : Prop := w.ownsRow B T 1 v l.length (l.map (fun (x : Nat) => Value.int k (x : Int)))
theorem Own.nil (w : World) (B : Nat) (T : TypeId) (k : IntKind) : Own w B T k (.slice none 0 0) [] := World.ownsRow_nil w B T 1
theorem Own.form {w : World} {B : Nat} {T : TypeId} {k : IntKind} {v : Value} {l : List Nat} (h : Own w B T k v l) :
    (v = .slice none 0 0 ∧ l = []) ∨ ∃ g cap cs, v = .slice (some ⟨g, 0, none⟩) l.length cap ∧ B ≤ g ∧ g < w.heap.size ∧ Blk w g T cs ∧ l.length ≤ cap ∧ cap ≤ 9223372036854775807 ∧ ∀ j, (hj : j < l.length) → cs[j]? = some (.int k (l[j] : Nat)) := by
  rcases h.2 with ⟨rfl, h0⟩ | ⟨g, cap, cur, rfl, hB, hh, hn, hm, hs, ht⟩
  · exact Or.inl ⟨rfl, List.eq_nil_of_length_eq_zero h0⟩
  · refine Or.inr ⟨g, cap, cur, rfl, hB, Blk.lt hh, hh, hn, by simpa [maxLen] using hm, fun j hj => ?_⟩
    have e := congrArg (fun x => x[j]?) ht
    simp only [Nat.mul_one] at e
    rw [List.getElem?_take, if_pos hj, List.getElem?_map, List.getElem?_eq_getElem hj] at e
    rw [← Array.getElem?_toList]; exact e
theorem Own.cell {w : World} {B : Nat} {T : TypeId} {k : IntKind} {v : Value} {l : List Nat} (h : Own w B T k v l) {j : Nat} (hj : j < l.length) :
    ∃ g cap, v = .slice (some ⟨g, 0, none⟩) l.length cap ∧ B ≤ g ∧ g < w.heap.size ∧ w.cell? ⟨g, j, none⟩ = some (.int k (l[j] : Nat)) ∧ w.frozen? ⟨g, j, none⟩ = false := by
  rcases h.form with ⟨_, rfl⟩ | ⟨g, cap, cs, rfl, hB, hg, hb, _, _, hc⟩
  · simp at hj
  · exact ⟨g, cap, rfl, hB, hg, by rw [hb.cell, hc j hj], hb.frozen j⟩
theorem Own.below {w w' : World} {B B' : Nat} {T : TypeId} {k : IntKind} {v : Value} {l : List Nat} (h : Own w B T k v l) (hb : Below B' w w') (hB : ∀ g, v.ownBlock = some g → g < B') : Own w' B T k v l := by
  rcases h.2 with ⟨rfl, h0⟩ | ⟨g, cap, cur, rfl, hB1, hh, hn, hm, hs, ht⟩
  · exact ⟨h.1, Or.inl ⟨rfl, h0⟩⟩
  · exact ⟨h.1, Or.inr ⟨g, cap, cur, rfl, hB1, (hb.block g (hB g rfl)).trans hh, hn, hm, hs, ht⟩⟩
theorem Own.base {w : World} {B B' : Nat} {T : TypeId} {k : IntKind} {v : Value} {l : List Nat} (h : Own w B T k v l) (hB : B' ≤ B) : Own w B' T k v l := by
  rcases h.2 with ⟨rfl, h0⟩ | ⟨g, cap, cur, rfl, hB1, hh, hn, hm, hs, ht⟩
  · exact ⟨h.1, Or.inl ⟨rfl, h0⟩⟩
  · exact ⟨h.1, Or.inr ⟨g, cap, cur, rfl, by omega, hh, hn, hm, hs, ht⟩⟩
theorem Own.lt {w : World} {B : Nat} {T : TypeId} {k : IntKind} {v : Value} {l : List Nat} (h : Own w B T k v l) : ∀ g, v.ownBlock = some g → B ≤ g ∧ g < w.heap.size := World.ownsRow.lt h
theorem Own.whole {w w' : World} {B : Nat} {T : TypeId} {k : IntKind} {v : Value} {l : List Nat} (h : Own w B T k v l) (hb : Below w.heap.size w w') : Own w' B T k v l := h.below hb fun g e => (h.lt g e).2
theorem Own.drewN {w : World} {B : Nat} {T : TypeId} {k : IntKind} {v : Value} {l : List Nat} (h : Own w B T k v l) (n : Nat) : Own (w.drewN n) B T k v l := h
theorem Own.len {w : World} {B : Nat} {T : TypeId} {k : IntKind} {v : Value} {l : List Nat} (h : Own w B T k v l) : ∃ A c, v = .slice A l.length c ∧ l.length ≤ c := by
  rcases h.form with ⟨rfl, rfl⟩ | ⟨g, cap, cs, rfl, _, _, _, hc, _⟩
  · exact ⟨none, 0, rfl, Nat.le_refl _⟩
  · exact ⟨_, _, rfl, hc⟩
/-- What an append leaves as it was. -/
def Frm (w0 w' : World) (v : Value) : Prop := ∀ k, k < w0.heap.size → some k ≠ v.ownBlock → w'.heap[k]? = w0.heap[k]?
theorem Frm.cell {w0 w' : World} {v : Value} (h : Frm w0 w' v) {p : Addr} (hp : p.block < w0.heap.size) (hne : some p.block ≠ v.ownBlock) : w'.cell? p = w0.cell? p := World.cell?_of_block (h p.block hp hne)
theorem Row.frm {w0 w' : World} {v : Value} {A : Option Addr} {n L : Nat} (hr : Row w0 w0.heap.size A n L) (h : Frm w0 w' v) (hd : ∀ g, A = some ⟨g, 0, none⟩ → v.ownBlock ≠ some g) (hs : w0.heap.size ≤ w'.heap.size) : Row w' w'.heap.size A n L := fun hL => by
  obtain ⟨g, e, hg, hc⟩ := hr hL
  exact ⟨g, e, by omega, fun j hj => (h.cell (p := ⟨g, j, none⟩) hg (fun c => hd g e c.symm)).trans (hc j hj)⟩
theorem Own.frm {w0 w' : World} {B : Nat} {T : TypeId} {k : IntKind} {v u : Value} {l : List Nat} (ho : Own w0 B T k u l) (h : Frm w0 w' v) (hd : ∀ g, u.ownBlock = some g → v.ownBlock ≠ some g) : Own w' B T k u l := by
  rcases ho.2 with ⟨rfl, h0⟩ | ⟨g, cap, cur, rfl, hB1, hh, hn, hm, hs, ht⟩
  · exact ⟨ho.1, Or.inl ⟨rfl, h0⟩⟩
  · exact ⟨ho.1, Or.inr ⟨g, cap, cur, rfl, hB1, (h g (Blk.lt hh) (fun c => hd g rfl c.symm)).trans hh, hn, hm, hs, ht⟩⟩
/-- 'append(s, x)'. -/
theorem wpList_app1 {P : Program} (w0 : World) {ops : Array Oper} {rest : List Oper} {o : Oper} {a : Act} {Q : Exit → Act → World → Prop} (hgd : o.guard = none) (s x : Operand) (t : TypeId)
    (ho : o.op = .call { callee := .builtin .append, args := #[s, x], argTypes := #[t, t] })
    (B : Nat) (e U : TypeId) (i : TypeInfo) (k : IntKind) (bytes : Nat) (ht : P.underlying t = some (.slice e)) (hi : P.info? e = some i) (hz : i.zero = some (.int k 0))
    (hsize : i.size = 1) (hby : i.bytes = bytes) (hb8 : bytes ≤ 8)
    (v : Value) (l : List Nat) (y : Nat) (hs : a.eval s = v) (hx : a.eval x = .slice (some ⟨w0.heap.size, 0, none⟩) 1 1) (hown : Own w0 B e k v l)
    (hn : l.length + 1 ≤ 17592186044416) (hB : B ≤ w0.heap.size)
    (h : ∀ v' w', Own w' B e k v' (l ++ [y]) → Below B w0 w' → Frm w0 w' v → (∀ g, v'.ownBlock = some g → v.ownBlock = some g ∨ w0.heap.size ≤ g) → wpList P ops Q rest (a.put o.dst v') w') :
    wpList P ops Q (o :: rest) a (w0.alloc (.cells #[.int k (y : Nat)] U)) := by
  have hbytes : (l.length + 1) * bytes ≤ 140737488355328 := by
    have h1 : (l.length + 1) * bytes ≤ (l.length + 1) * 8 := Nat.mul_le_mul_left _ hb8
    omega
  have hown1 : (w0.alloc (.cells #[.int k (y : Nat)] U)).ownsRow B e 1 v l.length (l.map (fun (x : Nat) => Value.int k (x : Int))) := World.ownsRow.alloc hown _
  refine wpList_plain hgd fun _ hK => ?_
  obtain ⟨v', w', hrun, h2, hg, _, h5⟩ := run_append_own_at (P := P) (w0.alloc (.cells #[.int k (y : Nat)] U)) B t o.type e i (.int k 0) 1 bytes ht hi hz hsize hby rfl (by omega) v l.length (l.map (fun (x : Nat) => Value.int k (x : Int))) hown1
    ⟨w0.heap.size, 0, none⟩ 1 1 [.int k (y : Nat)] rfl (by
      intro j u hu
      have hj : j = 0 := by
        rcases Nat.lt_or_ge j 1 with h | h
        · omega
        · rw [List.getElem?_eq_none (by simpa using h)] at hu; cases hu
      subst hj
      rw [add_plain0, World.cell?_alloc_new]
      exact hu) (by
      intro u hu
      rw [List.mem_singleton.1 hu]; rfl) (by simp [maxLen]; omega) hbytes (by simp; omega)
  unfold Oper.wp execOp
  simp only [ho, resolve, invoke, builtin, Sem.run_bind, Sem.run_pure, Result.andThen_ok, List.map_toArray, List.map_cons, List.map_nil, hs, hx, hrun]
  refine hK _ _ (h v' w' ?_ ?_ ?_ ?_)
  · unfold Own
    simpa using h2
  · exact Below.grown ((Below.refl _ _).alloc hB _) hg (by simp; omega) (fun g e => (hown.lt g e).1)
  · intro k' hk hne
    rw [hg.block k' (by simp; omega) hne]
    exact Below.heap_alloc w0 _ k' hk
  · intro g hgo
    rcases h5 with h5 | h5
    · rw [← h5]; exact Or.inl hgo
    · rw [h5] at hgo
      have : g = w0.heap.size + 1 := by simpa using hgo.symm
      exact Or.inr (by omega)
/-- A block of bytes turned round. -/
def TurnPost (g n : Nat) (T : TypeId) (f : Nat → Nat) (w : World) (e : Ending) (w' : World) : Prop :=
  e = .returned (.tuple #[]) ∧ ∃ cs, Blk w' g T cs ∧ (∀ j, j < n → cs[j]? = some (.int .u8 (f (n - 1 - j) : Nat))) ∧ Below g w w'
/-- Where the byte at p stands when i have been exchanged. -/
def swF (f : Nat → Nat) (n i p : Nat) : Nat := if p < i ∨ n - i ≤ p then f (n - 1 - p) else f p
theorem sw_set {cs : Array Value} {n i : Nat} {f : Nat → Nat} (hc : ∀ j, j < n → cs[j]? = some (.int .u8 (swF f n i j : Nat))) (h : i < n - 1 - i) :
    ∀ j, j < n → ((cs.setIfInBounds i (.int .u8 (f (n - 1 - i) : Nat))).setIfInBounds (n - 1 - i) (.int .u8 (f i : Nat)))[j]? = some (.int .u8 (swF f n (i + 1) j : Nat)) := by
  intro j hj
  have hsz : n ≤ cs.size := by
    rcases Nat.lt_or_ge cs.size n with h1 | h1
    · have := hc (n - 1) (by omega)
      rw [Array.getElem?_eq_none (by omega)] at this; cases this
    · exact h1
  rw [Array.getElem?_setIfInBounds, Array.size_setIfInBounds]
  by_cases h1 : n - 1 - i = j
  · rw [if_pos h1, if_pos (by omega)]
    unfold swF
    rw [if_pos (by omega)]
    congr 4; omega
  · rw [if_neg h1, Array.getElem?_setIfInBounds]
    by_cases h2 : i = j
    · rw [if_pos h2, if_pos (by omega)]
      unfold swF
      rw [if_pos (by omega), h2]
    · rw [if_neg h2, hc j hj]
      unfold swF
      by_cases h3 : j < i ∨ n - i ≤ j
      · rw [if_pos h3, if_pos (by omega)]
      · rw [if_neg h3, if_neg (by omega)]
end Go.Proofs.YtjkonfopajihdaaDoor
