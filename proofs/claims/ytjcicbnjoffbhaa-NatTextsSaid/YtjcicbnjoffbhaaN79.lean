/- The document's Text: own rows written in place; digits to the base 10. -/
import Derived.Test.YtjcicbnjoffbhaaN46
import Derived.Test.YtjcicbnjoffbhaaN30
set_option linter.unusedSimpArgs false
set_option linter.unusedVariables false
namespace Go.Proofs.Ytjcicbnjoffbhaa
open Go Go.RowKit Nt

theorem Own.set_ {w : World} {B g L cap : Nat} {T : TypeId} {k : IntKind} {l : List Nat} (h : Own w B T k (.slice (some ⟨g, 0, none⟩) L cap) l) (j x : Nat) :
    Own (w.setCell ⟨g, j, none⟩ (.int k (x : Nat))) B T k (.slice (some ⟨g, 0, none⟩) L cap) (l.set j x) := by
  have h1 := h.1
  rcases h.2 with ⟨e, _⟩ | ⟨g', cap', cur, e, hB, hh, hn, hm, hs, ht⟩
  · cases e
  · injection e with e1 e2 e3
    injection e1 with e1
    injection e1 with e1 _ _
    subst e1 e3
    refine ⟨by simp, Or.inr ⟨g, cap, cur.setIfInBounds j (.int k (x : Nat)), ?_, hB, Blk.set_ hh j _, ?_, hm, by simpa using hs, ?_⟩⟩
    · rw [List.length_set, e2]
    · rw [List.length_set]; exact hn
    · rw [List.length_set, Array.toList_setIfInBounds, List.take_set, ht, List.map_set]
theorem Own.far {w : World} {B : Nat} {T : TypeId} {k : IntKind} {v : Value} {l : List Nat} (h : Own w B T k v l) {p : Addr} (hp : p.block < B) (x : Value) : Own (w.setCell p x) B T k v l := by
  rcases h.2 with ⟨rfl, h0⟩ | ⟨g', cap', cur, e, hB, hh, hn, hm, hs, ht⟩
  · exact ⟨h.1, Or.inl ⟨rfl, h0⟩⟩
  · exact ⟨h.1, Or.inr ⟨g', cap', cur, e, hB, (Below.heap_setCell w p x g' (by omega)).trans hh, hn, hm, hs, ht⟩⟩
/-- The digits when those from k on are the quotient's by ten. -/
def tenF (m k p : Nat) : Nat := if p < k then dgt 256 m p else dgt 256 (m / 10) p
theorem tenF_start (m N : Nat) : (List.range N).map (tenF m (nd 256 m)) = dl 256 m N := by
  unfold dl
  apply List.map_congr_left
  intro p _
  unfold tenF
  split
  · rfl
  · rw [dgt_big (by omega) (show nd 256 m ≤ p by omega), dgt_big (by omega) (Nat.le_trans (nd_mono (by omega) (Nat.div_le_self m 10)) (show nd 256 m ≤ p by omega))]
theorem tenF_end (m N : Nat) : (List.range N).map (tenF m 0) = dl 256 (m / 10) N := by
  unfold dl
  apply List.map_congr_left
  intro p _
  unfold tenF
  rw [if_neg (by omega)]
theorem range_set {F F' : Nat → Nat} {N j x : Nat} (h : ∀ p, p < N → (if p = j then x else F p) = F' p) : ((List.range N).map F).set j x = (List.range N).map F' := by
  apply List.ext_getElem (by simp)
  intro p h1 h2
  have hp : p < N := by simpa using h2
  rw [List.getElem_set]
  have := h p hp
  by_cases c : j = p
  · rw [if_pos c]; rw [if_pos c.symm] at this; simpa using this
  · rw [if_neg c]; rw [if_neg (fun c2 => c c2.symm)] at this; simpa using this
theorem tenF_step (m N k : Nat) : ((List.range N).map (tenF m (k + 1))).set k (dgt 256 (m / 10) k) = (List.range N).map (tenF m k) := by
  refine range_set fun p _ => ?_
  unfold tenF
  by_cases c : p = k
  · rw [if_pos c, if_neg (by omega), c]
  · rw [if_neg c]
    by_cases c2 : p < k
    · rw [if_pos (by omega), if_pos c2]
    · rw [if_neg (by omega), if_neg c2]
/-- A digit of the division. -/
theorem ten_digit {m k R d q r : Nat} (hR : R = m / 256 ^ (k + 1) % 10) (hd : d = dgt 256 m k) (hq : q = dgt 256 (m / 10) k) (hr : r = m / 256 ^ k % 10) :
    ((256 : Int) * (R : Int) + (d : Int)).tdiv 10 = (q : Int) ∧ ((256 : Int) * (R : Int) + (d : Int)) % 10 = (r : Int) ∧ R ≤ 9 ∧ d < 256 ∧ q < 256 ∧ r ≤ 9 := by
  have h1 := take_rest (b := 256) (by omega) m 10 k
  have h2 := take_quo (b := 256) (by omega) m 10 k (by omega)
  have h3 := dgt_lt (b := 256) (by omega) m k
  have h4 := dgt_lt (b := 256) (by omega) (m / 10) k
  rw [← hR, ← hd, ← hr] at h1
  rw [← hR, ← hd, ← hq] at h2
  rw [← hd] at h3
  rw [← hq] at h4
  refine ⟨by rw [Int.tdiv_eq_ediv_of_nonneg (by omega)]; omega, by omega, by omega, h3, h4, by omega⟩
theorem ten_first {m j : Nat} (hj : j = nd 256 m) : m / 256 ^ j % 10 = 0 := by
  rw [Nat.div_eq_of_lt (by rw [hj]; exact lt_nd (by omega))]
/-- Leading noughts are left out. -/
theorem trim_more {z q : Nat} (h : nd 256 z ≤ q + 1) (h0 : dgt 256 z q = 0) : nd 256 z ≤ q := by
  rcases Nat.lt_or_ge q (nd 256 z) with c | c
  · have hz : z ≠ 0 := fun e => by rw [e, nd_zero] at c; omega
    have := dgt_top (b := 256) (by omega) hz
    rw [show nd 256 z - 1 = q by omega] at this
    exact absurd h0 this
  · exact c
theorem trim_end {z q : Nat} (h : nd 256 z ≤ q + 1) (h0 : dgt 256 z q ≠ 0) : nd 256 z = q + 1 := by
  rcases Nat.lt_or_ge q (nd 256 z) with c | c
  · omega
  · exact absurd (dgt_big (by omega) c) h0
end Go.Proofs.Ytjcicbnjoffbhaa
