/- Memory: a row of words that reads as a number; a block of the call's own. -/
import Derived.Test.YtjkonfopajihdaaDoorN2
import Derived.Test.YtjkonfopajihdaaDoorRows
import Derived.Below
import Derived.Laws.OwnMore
import Derived.Laws.Rows
import Derived.Deep.Draws
import Derived.Deep.AppendLies
import Derived.OwnWalk
namespace Go.Proofs.YtjkonfopajihdaaDoor
open Go Go.RowKit Nt

/-- A block that is known whole. -/
def Blk (w : World) (g : Nat) (t : TypeId) (cs : Array Value) : Prop := w.heap[g]? = some (.cells cs t (0, 0))
section
variable {w w' : World} {g : Nat} {t : TypeId} {cs : Array Value}
theorem Blk.lt (h : Blk w g t cs) : g < w.heap.size := by
  rcases Nat.lt_or_ge g w.heap.size with hlt | hge
  · exact hlt
  · unfold Blk at h; rw [Array.getElem?_eq_none hge] at h; cases h
theorem Blk.cell (h : Blk w g t cs) (i : Nat) : w.cell? ⟨g, i, none⟩ = cs[i]? := cell_of_row w g i cs t (0, 0) h
theorem Blk.frozen (h : Blk w g t cs) (i : Nat) : w.frozen? ⟨g, i, none⟩ = false := by
  unfold Blk at h
  simp [World.frozen?, h]
theorem Blk.new (w : World) (t : TypeId) (cs : Array Value) : Blk (w.alloc (.cells cs t)) w.heap.size t cs := heap_alloc_new w _
theorem Blk.drew (h : Blk w g t cs) : Blk w.drew g t cs := h
theorem Blk.drewN (h : Blk w g t cs) (n : Nat) : Blk (w.drewN n) g t cs := h
theorem Blk.alloc (h : Blk w g t cs) (o : Obj) : Blk (w.alloc o) g t cs := (Below.heap_alloc w o g h.lt).trans h
theorem Blk.set_ (h : Blk w g t cs) (i : Nat) (u : Value) : Blk (w.setCell ⟨g, i, none⟩ u) g t (cs.setIfInBounds i u) := by
  unfold Blk at h ⊢
  simp [World.setCell, Array.getElem?_modify, h]
theorem Blk.far (h : Blk w g t cs) {p : Addr} (hp : g ≠ p.block) (u : Value) : Blk (w.setCell p u) g t cs := (Below.heap_setCell w p u g hp).trans h
theorem Blk.below {B : Nat} (h : Blk w g t cs) (hb : Below B w w') (hg : g < B) : Blk w' g t cs := (hb.block g hg).trans h
end

/-- The words of a number, as cells. -/
def wcells (n L : Nat) : Array Value := ((dl W n L).map (fun (x : Nat) => Value.int .u64 (x : Int))).toArray
theorem wcells_size (n L : Nat) : (wcells n L).size = L := by simp [wcells, dl_length]
theorem wcells_get (n L j : Nat) (h : j < L) : (wcells n L)[j]? = some (.int .u64 (dgt W n j : Nat)) := by
  unfold wcells
  rw [List.getElem?_toArray, List.getElem?_map, dl_get? _ _ _ _ h]; rfl
theorem wcells_set (n L j v : Nat) (hv : v < 18446744073709551616) : (wcells n L).setIfInBounds j (.int .u64 (v : Nat)) = wcells (put W n j v) L := by
  unfold wcells
  rw [← dl_set W2 n L j v (by rw [W_eq]; exact hv), List.map_set]
  simp
theorem wcells_zero (L : Nat) : wcells 0 L = madeCells (Value.cells (.int .u64 0)) (L * 1) := by
  apply Array.ext_getElem?
  intro j
  by_cases h : j < L
  · rw [wcells_get 0 L j h, Nat.mul_one]
    have e : dgt W 0 j = 0 := by rw [dgt_def]; simp
    rw [e]
    simp [madeCells, Value.cells, h, Nat.mod_one]
  · rw [Array.getElem?_eq_none (by rw [wcells_size]; omega), Array.getElem?_eq_none (by simp [madeCells]; omega)]
theorem wcells_made (L : Nat) : madeCells #[.int .u64 0] L = wcells 0 L := by
  have := wcells_zero L; rw [Nat.mul_one] at this; exact this.symm
theorem wcells_congr {n m L : Nat} (h : n % W ^ L = m % W ^ L) : wcells n L = wcells m L := by
  unfold wcells; rw [← dl_mod W n L, h, dl_mod]

/-- The words from the lowest on up to L of the number n stand at A, below block B. -/
def Row (w : World) (B : Nat) (A : Option Addr) (n L : Nat) : Prop := 0 < L → ∃ g, A = some ⟨g, 0, none⟩ ∧ g < B ∧ ∀ j, j < L → w.cell? ⟨g, j, none⟩ = some (.int .u64 (dgt W n j : Nat))
section
variable {w w' : World} {B B' : Nat} {A : Option Addr} {n L : Nat}
theorem Row.at_ (h : Row w B A n L) {k : Nat} (hk : k < L) : ∃ g, A = some ⟨g, 0, none⟩ ∧ g < B ∧ w.cell? ⟨g, k, none⟩ = some (.int .u64 (dgt W n k : Nat)) := by
  obtain ⟨g, e, hg, hc⟩ := h (by omega); exact ⟨g, e, hg, hc k hk⟩
theorem Row.keep (h : Row w B A n L) (hk : ∀ p : Addr, p.block < B → w'.cell? p = w.cell? p) : Row w' B A n L := fun hL => by
  obtain ⟨g, e, hg, hc⟩ := h hL; exact ⟨g, e, hg, fun j hj => (hk _ hg).trans (hc j hj)⟩
theorem Row.more (h : Row w B A n L) (hB : B ≤ B') : Row w B' A n L := fun hL => by
  obtain ⟨g, e, hg, hc⟩ := h hL; exact ⟨g, e, by omega, hc⟩
theorem Row.below (h : Row w B A n L) (hb : Below B w w') : Row w' B A n L := h.keep fun _ hp => hb.cell hp
theorem Row.drewN (h : Row w B A n L) (k : Nat) : Row (w.drewN k) B A n L := h
theorem Row.less (h : Row w B A n L) {M : Nat} (hM : M ≤ L) : Row w B A n M := fun hL => by
  obtain ⟨g, e, hg, hc⟩ := h (by omega); exact ⟨g, e, hg, fun j hj => hc j (by omega)⟩
theorem Row.congr (h : Row w B A n L) {m : Nat} (hm : n % W ^ L = m % W ^ L) : Row w B A m L := fun hL => by
  obtain ⟨g, e, hg, hc⟩ := h hL
  refine ⟨g, e, hg, fun j hj => ?_⟩
  rw [hc j hj, ← dgt_mod n hj, hm, dgt_mod m hj]
theorem Row.of_blk {T : TypeId} {g : Nat} (h : Blk w g T (wcells n L)) (hB : g < B) : Row w B (some ⟨g, 0, none⟩) n L := fun _ =>
  ⟨g, rfl, hB, fun j hj => by rw [h.cell, wcells_get n L j hj]⟩
theorem Row.none_ : Row w B A n 0 := fun h => absurd h (by omega)
end
/-- The slice value v is the number n, in words. -/
def Num (w : World) (B : Nat) (v : Value) (n : Nat) : Prop := ∃ A c, v = .slice A (nd W n) c ∧ nd W n ≤ c ∧ Row w B A n (nd W n)
theorem Num.below {w w' : World} {B : Nat} {v : Value} {n : Nat} (h : Num w B v n) (hb : Below B w w') : Num w' B v n := by
  obtain ⟨A, c, e, hc, hr⟩ := h; exact ⟨A, c, e, hc, hr.below hb⟩
theorem Num.more {w : World} {B B' : Nat} {v : Value} {n : Nat} (h : Num w B v n) (hB : B ≤ B') : Num w B' v n := by
  obtain ⟨A, c, e, hc, hr⟩ := h; exact ⟨A, c, e, hc, hr.more hB⟩
/-- What a function that makes a number leaves. -/
def NumPost (n : Nat) (w : World) (e : Ending) (w' : World) : Prop := ∃ v, e = .returned v ∧ Num w' w'.heap.size v n ∧ Below w.heap.size w w'
theorem NumPost.get {n : Nat} {w : World} {e : Ending} {w' : World} (h : NumPost n w e w') : ∃ A c, e = .returned (.slice A (nd W n) c) ∧ nd W n ≤ c ∧ Row w' w'.heap.size A n (nd W n) ∧ Below w.heap.size w w' := by
  obtain ⟨v, rfl, ⟨A, c, rfl, hc, hr⟩, hb⟩ := h; exact ⟨A, c, rfl, hc, hr, hb⟩
theorem NumPost.mk {n : Nat} {w w' : World} {A : Option Addr} {c : Nat} (hc : nd W n ≤ c) (hr : Row w' w'.heap.size A n (nd W n)) (hb : Below w.heap.size w w') : NumPost n w (.returned (.slice A (nd W n) c)) w' :=
  ⟨_, rfl, ⟨A, c, rfl, hc, hr⟩, hb⟩
/-- 'make([]T, n)': a new block of noughts. -/
theorem wpList_make_zero {P : Program} (w : World) {ops : Array Oper} {rest : List Oper} {o : Oper} {a : Act} {Q : Exit → Act → World → Prop}
    (hg : o.guard = none) (l c : Operand) (t : TypeId) (hop : o.op = Op.makeSlice t l c)
    (e : TypeId) (i : TypeInfo) (z : Value) (h1 : P.underlying t = some (.slice e)) (h2 : P.info? e = some i) (h3 : i.zero = some z) (h4 : i.size = 1)
    (kl kc : IntKind) (L C : Int) (n : Nat) (hl : a.eval l = .int kl L) (hc : a.eval c = .int kc C) (hL : L = (n : Int)) (hC : C = (n : Int)) (b2 : i.bytes * n ≤ 281474976710656) (b3 : n ≤ maxLen)
    (hK : wpList P ops Q rest (a.put o.dst (.slice (some ⟨w.heap.size, 0, none⟩) n n)) (w.alloc (.cells (madeCells z.cells (n * 1)) e))) :
    wpList P ops Q (o :: rest) a w := by
  refine wpList_plain hg fun K hK' => ?_
  have hr := run_make (P := P) w t e i z h1 h2 h3 kl kc n n (by omega) (Int.le_refl _) (by
    have h : ((i.bytes * n : Nat) : Int) ≤ 281474976710656 := by omega
    rwa [Int.natCast_mul] at h) (by have h := b3; simp [maxLen] at h; omega)
  simp only [Int.toNat_natCast, h4] at hr
  subst hL
  subst hC
  unfold Oper.wp
  simp [execOp, hop, hl, hc, hr, Result.andThen]
  exact hK' _ _ (by simpa using hK)
end Go.Proofs.YtjkonfopajihdaaDoor
