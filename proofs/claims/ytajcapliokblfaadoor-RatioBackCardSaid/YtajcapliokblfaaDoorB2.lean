/- Texts put together: P2 P3 P10 N22 N23 N54 N55 N56 N57 N58 N24 N59 N60 N75 N25 N32 N33 N34 D1 D2 P5. -/
import Derived.Test.YtajcapliokblfaaDoorB1
import Derived.Deep.RegionHeld3
import Derived.Laws.CopyOwn
import Derived.Laws.AppendOwnNone
import Derived.BigQuiet
set_option linter.unusedSimpArgs false
set_option linter.unusedVariables false
namespace Go.Proofs.YtajcapliokblfaaDoor
open Go Go.RowKit Nt
def Bx3 (w : World) (B : Nat) (c : Value × Value × Value) : Prop := ∃ T : TypeId, Blk w B T #[c.1, c.2.1, c.2.2]
theorem Bx3.facts {w : World} {B : Nat} {c : Value × Value × Value} (h : Bx3 w B c) : B < w.heap.size ∧ w.cell? ⟨B, 0, none⟩ = some c.1 ∧ w.cell? ⟨B, 1, none⟩ = some c.2.1 ∧ w.cell? ⟨B, 2, none⟩ = some c.2.2 ∧ w.frozen? ⟨B, 0, none⟩ = false ∧ w.frozen? ⟨B, 1, none⟩ = false ∧ w.frozen? ⟨B, 2, none⟩ = false := by
  obtain ⟨T, h⟩ := h
  exact ⟨h.lt, by rw [h.cell]; rfl, by rw [h.cell]; rfl, by rw [h.cell]; rfl, h.frozen 0, h.frozen 1, h.frozen 2⟩
theorem Bx3.step {w w' : World} {B : Nat} {c : Value × Value × Value} (h : Bx3 w B c) (hb : Below w.heap.size w w') : Bx3 w' B c := by
  obtain ⟨T, h⟩ := h; exact ⟨T, h.below hb h.lt⟩
theorem Bx3.more {w : World} {B : Nat} {c : Value × Value × Value} (h : Bx3 w B c) (o : Obj) : Bx3 (w.alloc o) B c := by
  obtain ⟨T, h⟩ := h; exact ⟨T, h.alloc o⟩
theorem Bx3.new (w : World) (a b c : Value) (T : TypeId) : Bx3 (w.alloc (.cells #[a, b, c] T)) w.heap.size (a, b, c) := ⟨T, Blk.new w _ _⟩
theorem Bx3.put {w : World} {B : Nat} {c : Value × Value × Value} (h : Bx3 w B c) (x y z : Value) : Bx3 (((w.setCell ⟨B, 0, none⟩ x).setCell ⟨B, 1, none⟩ y).setCell ⟨B, 2, none⟩ z) B (x, y, z) := by
  obtain ⟨T, h⟩ := h
  exact ⟨T, by simpa using ((h.set_ 0 x).set_ 1 y).set_ 2 z⟩
theorem Bx3.far {w : World} {B C : Nat} {c : Value × Value × Value} (h : Bx3 w B c) (hne : B ≠ C) (x y z : Value) : Bx3 (((w.setCell ⟨C, 0, none⟩ x).setCell ⟨C, 1, none⟩ y).setCell ⟨C, 2, none⟩ z) B c := by
  obtain ⟨T, h⟩ := h
  exact ⟨T, ((h.far (p := ⟨C, 0, none⟩) hne x).far (p := ⟨C, 1, none⟩) hne y).far (p := ⟨C, 2, none⟩) hne z⟩
theorem below_put3 {n : Nat} {w W : World} {A : Nat} (hb : Below n w W) (hA : n ≤ A) (a' b' c' : Value) : Below n w (((W.setCell ⟨A, 0, none⟩ a').setCell ⟨A, 1, none⟩ b').setCell ⟨A, 2, none⟩ c') :=
  ((hb.setCell (p := ⟨A, 0, none⟩) hA a').setCell (p := ⟨A, 1, none⟩) hA b').setCell (p := ⟨A, 2, none⟩) hA c'
abbrev C3 := Value × Value × Value
def BR (w : World) (l : List C3) (W : World) : Prop := Below w.heap.size w W ∧ (∀ i c, l[i]? = some c → Bx3 W (w.heap.size + i) c) ∧ ∃ (b : Bool) (y z : Value), Bx3 W (w.heap.size + l.length) (.bool b, y, z)
theorem BR.step {w : World} {l : List C3} {W W' : World} (h : BR w l W) (hb : Below W.heap.size W W') : BR w l W' := by
  obtain ⟨b, y, z, hc⟩ := h.2.2
  exact ⟨below_chain h.1 hb, fun i c hi => (h.2.1 i c hi).step hb, b, y, z, hc.step hb⟩
theorem BR.more {w : World} {l : List C3} {W : World} (h : BR w l W) (o : Obj) : BR w l (W.alloc o) := h.step ((Below.refl _ _).alloc (Nat.le_refl _) _)
theorem BR.drawn {w : World} {l : List C3} {W : World} (h : BR w l W) (n : Nat) : BR w l (W.drewN n) := h.step (below_drewN (Below.refl _ _) n)
theorem BR.drew {w : World} {l : List C3} {W : World} (h : BR w l W) : BR w l W.drew := h.step (Below.refl _ _).drew
theorem BR.put {w : World} {l : List C3} {W : World} (h : BR w l W) {n : Nat} (hn : l.length = n) (x : Bool) (y z : Value) : BR w l (((W.setCell ⟨w.heap.size + n, 0, none⟩ (.bool x)).setCell ⟨w.heap.size + n, 1, none⟩ y).setCell ⟨w.heap.size + n, 2, none⟩ z) := by
  subst hn
  obtain ⟨b, y', z', hc⟩ := h.2.2
  refine ⟨below_put3 h.1 (by omega) _ _ _, fun i c hi => (h.2.1 i c hi).far ?_ _ _ _, _, _, _, hc.put (.bool x) y z⟩
  have := (List.getElem?_eq_some_iff.1 hi).1
  omega
theorem Row.put3 {W : World} {B : Nat} {A : Option Addr} {n L C : Nat} (hr : Row W B A n L) {b : Bool} (hc : W.cell? ⟨C, 0, none⟩ = some (.bool b)) (x y z : Value) : Row (((W.setCell ⟨C, 0, none⟩ x).setCell ⟨C, 1, none⟩ y).setCell ⟨C, 2, none⟩ z) B A n L := fun hL => by
  obtain ⟨g, e, hg, hcell⟩ := hr hL
  refine ⟨g, e, hg, fun j hj => ?_⟩
  have hne : g ≠ C := fun c => by
    have := hcell 0 hL
    rw [c, hc] at this
    cases this
  have h1 : ∀ (U : World) (i : Nat) (v : Value), (U.setCell ⟨C, i, none⟩ v).cell? ⟨g, j, none⟩ = U.cell? ⟨g, j, none⟩ := fun U i v => by
    unfold World.cell?
    rw [show (U.setCell ⟨C, i, none⟩ v).heap[g]? = U.heap[g]? from by simp [World.setCell, Array.getElem?_modify, Ne.symm hne]]
  rw [h1, h1, h1]
  exact hcell j hj
theorem BR.row {w : World} {l : List C3} {W : World} (h : BR w l W) {n : Nat} (hn : l.length = n) {B : Nat} {A : Option Addr} {m L : Nat} (hr : Row W B A m L) (x y z : Value) : Row (((W.setCell ⟨w.heap.size + n, 0, none⟩ x).setCell ⟨w.heap.size + n, 1, none⟩ y).setCell ⟨w.heap.size + n, 2, none⟩ z) B A m L := by
  subst hn
  obtain ⟨b, y', z', hc⟩ := h.2.2
  exact hr.put3 hc.facts.2.1 x y z
theorem BR.box {w : World} {l : List C3} {W : World} (h : BR w l W) (i : Nat) (c : C3) (hi : l[i]? = some c) : w.heap.size + i < W.heap.size ∧ W.cell? ⟨w.heap.size + i, 0, none⟩ = some c.1 ∧ W.cell? ⟨w.heap.size + i, 1, none⟩ = some c.2.1 ∧ W.cell? ⟨w.heap.size + i, 2, none⟩ = some c.2.2 ∧ W.frozen? ⟨w.heap.size + i, 0, none⟩ = false ∧ W.frozen? ⟨w.heap.size + i, 1, none⟩ = false ∧ W.frozen? ⟨w.heap.size + i, 2, none⟩ = false := (h.2.1 i c hi).facts
@[irreducible] def celAt (W : World) (B i : Nat) : Value := (W.cell? ⟨B, i, none⟩).getD undef
theorem celAt_eq {W : World} {B i : Nat} {v : Value} (h : W.cell? ⟨B, i, none⟩ = some v) : W.cell? ⟨B, i, none⟩ = some (celAt W B i) := by unfold celAt; rw [h]; rfl
theorem BR.res {w : World} {l : List C3} {W : World} (h : BR w l W) {n : Nat} (hn : l.length = n) : w.heap.size + n < W.heap.size ∧ W.cell? ⟨w.heap.size + n, 0, none⟩ = some (celAt W (w.heap.size + n) 0) ∧ W.cell? ⟨w.heap.size + n, 1, none⟩ = some (celAt W (w.heap.size + n) 1) ∧ W.cell? ⟨w.heap.size + n, 2, none⟩ = some (celAt W (w.heap.size + n) 2) ∧ W.frozen? ⟨w.heap.size + n, 0, none⟩ = false ∧ W.frozen? ⟨w.heap.size + n, 1, none⟩ = false ∧ W.frozen? ⟨w.heap.size + n, 2, none⟩ = false := by
  subst hn
  obtain ⟨b, y, z, hc⟩ := h.2.2
  obtain ⟨r0, r1, r2, r3, r4, r5, r6⟩ := hc.facts
  exact ⟨r0, celAt_eq r1, celAt_eq r2, celAt_eq r3, r4, r5, r6⟩
theorem BR.res0 {w : World} {W : World} (h : BR w [] W) : w.heap.size < W.heap.size ∧ W.cell? ⟨w.heap.size, 0, none⟩ = some (celAt W w.heap.size 0) ∧ W.cell? ⟨w.heap.size, 1, none⟩ = some (celAt W w.heap.size 1) ∧ W.cell? ⟨w.heap.size, 2, none⟩ = some (celAt W w.heap.size 2) ∧ W.frozen? ⟨w.heap.size, 0, none⟩ = false ∧ W.frozen? ⟨w.heap.size, 1, none⟩ = false ∧ W.frozen? ⟨w.heap.size, 2, none⟩ = false := h.res (n := 0) rfl
theorem BR.start0 (w : World) (x : Bool) (y z : Value) (U : TypeId) : BR w [] (w.alloc (.cells #[.bool x, y, z] U)) := by
  refine ⟨(Below.refl _ _).alloc (Nat.le_refl _) _, fun i d hi => ?_, x, y, z, Bx3.new w (.bool x) y z U⟩
  simp at hi
theorem BR.start1 (w : World) (a b c : Value) (x : Bool) (y z : Value) (T U : TypeId) : BR w [(a, b, c)] ((w.alloc (.cells #[a, b, c] T)).alloc (.cells #[.bool x, y, z] U)) := by
  refine ⟨((Below.refl _ _).alloc (Nat.le_refl _) _).alloc (by simp) _, fun i d hi => ?_, x, y, z, by have := Bx3.new (w.alloc (.cells #[a, b, c] T)) (.bool x) y z U; simpa using this⟩
  match i, hi with
  | 0, hi => cases hi; exact (Bx3.new w a b c T).more _
  | n + 1, hi => simp at hi
theorem BR.pair (w : World) (a b c : Value) (a' : Bool) (b' c' : Value) (T T' : TypeId) : BR w [(a, b, c)] ((w.alloc (.cells #[a, b, c] T)).alloc (.cells #[.bool a', b', c'] T')) := BR.start1 w a b c a' b' c' T T'
end Go.Proofs.YtajcapliokblfaaDoor
namespace Go.Proofs.YtajcapliokblfaaDoor
open Go Go.RowKit Nt
@[reducible] noncomputable def qv (q : Rat) : Value := .agg #[.bool (qG q), .string (natS (qN q)), .string (natS (qD q))]
def qfits (q : Rat) : Prop := fits (qN q) ∧ fits (qD q)
open Classical in
@[irreducible] noncomputable def rsG (q : Rat) : Bool := if qfits q then qG q else false
open Classical in
@[irreducible] noncomputable def rsN (q : Rat) : ByteArray := if qfits q then natS (qN q) else ⟨#[]⟩
open Classical in
@[irreducible] noncomputable def rsD (q : Rat) : ByteArray := if qfits q then natS (qD q) else ⟨#[]⟩
open Classical in
@[irreducible] noncomputable def rsE (q : Rat) : Int := if qfits q then 0 else 4
theorem rs_ok {q : Rat} (h : qfits q) : rsG q = qG q ∧ rsN q = natS (qN q) ∧ rsD q = natS (qD q) ∧ rsE q = 0 := by
  unfold rsG rsN rsD rsE; rw [if_pos h, if_pos h, if_pos h, if_pos h]; exact ⟨rfl, rfl, rfl, rfl⟩
theorem rs_no {q : Rat} (h : ¬ qfits q) : rsG q = false ∧ rsN q = ⟨#[]⟩ ∧ rsD q = ⟨#[]⟩ ∧ rsE q = 4 := by
  unfold rsG rsN rsD rsE; rw [if_neg h, if_neg h, if_neg h, if_neg h]; exact ⟨rfl, rfl, rfl, rfl⟩
def LwPost (q : Rat) (w : World) (e : Ending) (w' : World) : Prop := e = .returned (.tuple #[.agg #[.bool (rsG q), .string (rsN q), .string (rsD q)], .int .i64 (rsE q)]) ∧ Below w.heap.size w w'
def FrPost (g : Bool) (n d : Nat) (w : World) (e : Ending) (w' : World) : Prop :=
  ∃ A c A' c', e = .returned (.agg #[.bool g, .slice A (nd W n) c, .slice A' (nd W d) c']) ∧ nd W n ≤ c ∧ nd W d ≤ c' ∧ Row w' w'.heap.size A n (nd W n) ∧ Row w' w'.heap.size A' d (nd W d) ∧ Below w.heap.size w w'
theorem bits_131072'' {n : Nat} : ((131072 : Int) < (nd 2 n : Int)) ↔ ¬ fits n := by
  have := bits_le n 16384
  unfold fits
  omega
theorem Pwords_c (n : Nat) (w : World) (hn : fits n) :
    Calls Tryd.prog 40 #[.string (natS n)] w (NumPost n w) := by
  have hz : (natS n).size ≤ 1000000000 := by rw [natS_size]; unfold fits at hn; omega
  have hr := Read_c (natS n) w hz
  rw [bytesN_natS] at hr
  have HR := Lib.hid hr
  clear hr
  go_enter Tryd.func40, Tryd.ntmps40
  go_wp2_with fail
  refine HR.out.mono ?_
  intro e w' hp
  obtain ⟨A, c, rfl, hc, hrow, hb⟩ := hp.get
  go_wp2
  go_ret
  exact NumPost.mk hc hrow hb
set_option maxRecDepth 100000 in
set_option maxHeartbeats 1000000 in
theorem Popen_c (g : Bool) (n d : Nat) (w : World) (hn : fits n) (hd : fits d) :
    Calls Tryd.prog 26 #[.agg #[.bool g, .string (natS n), .string (natS d)]] w (FrPost g n d w) := by
  have K1 := Lib.hid (fun w => Pwords_c n w hn)
  have K2 := Lib.hid (fun w => Pwords_c d w hd)
  have T0 := BR.start1 w (.bool g) (.string (natS n)) (.string (natS d)) false (.slice none 0 0) (.slice none 0 0) 25 47
  have L0 : ∀ W, BR w [(.bool g, .string (natS n), .string (natS d))] W → W.cell? ⟨w.heap.size, 0, none⟩ = some (.bool g) := fun W h => (h.box 0 _ rfl).2.1
  have L1 : ∀ W, BR w [(.bool g, .string (natS n), .string (natS d))] W → W.cell? ⟨w.heap.size, 1, none⟩ = some (.string (natS n)) := fun W h => (h.box 0 _ rfl).2.2.1
  have L2 : ∀ W, BR w [(.bool g, .string (natS n), .string (natS d))] W → W.cell? ⟨w.heap.size, 2, none⟩ = some (.string (natS d)) := fun W h => (h.box 0 _ rfl).2.2.2.1
  have M1 := fun W (h : BR w [(.bool g, .string (natS n), .string (natS d))] W) => (h.res (n := 1) rfl).2.1
  have M2 := fun W (h : BR w [(.bool g, .string (natS n), .string (natS d))] W) => (h.res (n := 1) rfl).2.2.1
  have M3 := fun W (h : BR w [(.bool g, .string (natS n), .string (natS d))] W) => (h.res (n := 1) rfl).2.2.2.1
  have M4 := fun W (h : BR w [(.bool g, .string (natS n), .string (natS d))] W) => (h.res (n := 1) rfl).2.2.2.2.1
  have M5 := fun W (h : BR w [(.bool g, .string (natS n), .string (natS d))] W) => (h.res (n := 1) rfl).2.2.2.2.2.1
  have M6 := fun W (h : BR w [(.bool g, .string (natS n), .string (natS d))] W) => (h.res (n := 1) rfl).2.2.2.2.2.2
  clear hn hd
  go_enter Tryd.func26, Tryd.ntmps26
  go_wp2_with fail
  go_region_held3 (BR w [(.bool g, .string (natS n), .string (natS d))]) (first | assumption | exact BR.step (by assumption) (by assumption) | exact BR.put (by assumption) rfl _ _ _ | exact BR.drew (by assumption) | exact BR.drawn (by assumption) _)
    (first
      | (go_at_call 40; (with_reducible refine (K1.out _).mono ?_); rintro e wa hp; obtain ⟨A1, c1, rfl, hc1, hr1, hb1⟩ := hp.get; clear hp)
      | (go_at_call 40; (with_reducible refine (K2.out _).mono ?_); rintro e wb hp; obtain ⟨A2, c2, rfl, hc2, hr2, hb2⟩ := hp.get; clear hp; have HSV := Lib.hid (BR.step (w := w) (by assumption) hb2)))
  have HR1 := Lib.hid (HSV.out.row (n := 1) rfl ((hr1.below hb2).more hb2.size))
  have HR2 := Lib.hid (HSV.out.row (n := 1) rfl hr2)
  obtain ⟨r0, r1, r2, r3, r4, r5, r6⟩ := HSV.out.res (n := 1) rfl
  have hfin := below_put3 HSV.out.1 (show w.heap.size ≤ w.heap.size + 1 by omega)
  clear L0 L1 L2 M1 M2 M3 M4 M5 M6 hr1 hr2 hb1 hb2
  go_wp2_with fail
  refine bodyPost_ret (v := .agg #[.bool g, .slice A1 (nd W n) c1, .slice A2 (nd W d) c2]) (by simp [results, Tryd.results26, go_sem, r0, r1, r2, r3]) rfl ⟨A1, c1, A2, c2, rfl, hc1, hc2, ?_, ?_, hfin _ _ _⟩
  · simpa using HR1.out _ _ _
  · simpa using HR2.out _ _ _
end Go.Proofs.YtajcapliokblfaaDoor
namespace Go.Proofs.YtajcapliokblfaaDoor
open Nt
theorem ndB_mul (a b : Nat) : nd 256 (a * b) ≤ nd 256 a + nd 256 b := by
  refine nd_le (by omega) ?_
  rw [Nat.pow_add]
  have h1 := lt_nd (b := 256) (n := a) (by omega)
  have h2 := lt_nd (b := 256) (n := b) (by omega)
  exact Nat.mul_lt_mul'' h1 h2
theorem ndB_add {a b k : Nat} (ha : nd 256 a ≤ k) (hb : nd 256 b ≤ k) : nd 256 (a + b) ≤ k + 1 := by
  refine nd_le (by omega) ?_
  have h1 := Nat.lt_of_lt_of_le (lt_nd (b := 256) (n := a) (by omega)) (Nat.pow_le_pow_right (by omega) ha)
  have h2 := Nat.lt_of_lt_of_le (lt_nd (b := 256) (n := b) (by omega)) (Nat.pow_le_pow_right (by omega) hb)
  rw [Nat.pow_succ]; omega
theorem ndB_mono {a b : Nat} (h : a ≤ b) : nd 256 a ≤ nd 256 b := nd_mono (by omega) h
def Bq (q : Rat) (k : Nat) : Prop := nd 256 (qN q) ≤ k ∧ nd 256 (qD q) ≤ k
theorem Bq.le {q : Rat} {k m : Nat} (h : Bq q k) (hk : k ≤ m) : Bq q m := ⟨Nat.le_trans h.1 hk, Nat.le_trans h.2 hk⟩
theorem adN_le (g : Bool) (x : Nat) (h : Bool) (y : Nat) : adN g x h y ≤ x + y := by
  unfold adN
  by_cases c : x < y <;> cases g <;> cases h <;> simp [c] <;> omega
theorem Bq_fr {g : Bool} {n d k : Nat} (hd : d ≠ 0) (h1 : nd 256 n ≤ k) (h2 : nd 256 d ≤ k) : Bq (fr g n d) k :=
  ⟨Nat.le_trans (ndB_mono (qN_le g n d hd)) h1, Nat.le_trans (ndB_mono (qD_le g n d hd)) h2⟩
theorem Bq.add {x y : Rat} {k m : Nat} (hx : Bq x k) (hy : Bq y m) : Bq (x + y) (k + m + 1) := by
  rw [← fr_add]
  refine Bq_fr (Nat.mul_ne_zero (qD_pos x) (qD_pos y)) ?_ ?_
  · refine Nat.le_trans (ndB_mono (adN_le _ _ _ _)) (ndB_add (k := k + m) ?_ ?_)
    · have := ndB_mul (qN x) (qD y); have := hx.1; have := hy.2; omega
    · have := ndB_mul (qN y) (qD x); have := hx.2; have := hy.1; omega
  · have := ndB_mul (qD x) (qD y); have := hx.2; have := hy.2; omega
theorem Bq.mul {x y : Rat} {k m : Nat} (hx : Bq x k) (hy : Bq y m) : Bq (x * y) (k + m) := by
  rw [← fr_mul]
  refine Bq_fr (Nat.mul_ne_zero (qD_pos x) (qD_pos y)) ?_ ?_
  · have := ndB_mul (qN x) (qN y); have := hx.1; have := hy.1; omega
  · have := ndB_mul (qD x) (qD y); have := hx.2; have := hy.2; omega
theorem Bq.neg {x : Rat} {k : Nat} (hx : Bq x k) : Bq (-x) k := by
  have := q_neg x
  unfold Bq
  rw [this.2.1, this.2.2]; exact hx
theorem Bq.sub {x y : Rat} {k m : Nat} (hx : Bq x k) (hy : Bq y m) : Bq (x - y) (k + m + 1) := by
  rw [Rat.sub_eq_add_neg]; exact hx.add hy.neg
theorem Bq.quo {x y : Rat} {k m : Nat} (hx : Bq x k) (hy : Bq y m) (h0 : qN y ≠ 0) : Bq (x / y) (k + m) := by
  rw [← fr_quo x y h0]
  refine Bq_fr (Nat.mul_ne_zero (qD_pos x) h0) ?_ ?_
  · have := ndB_mul (qN x) (qD y); have := hx.1; have := hy.2; omega
  · have := ndB_mul (qD x) (qN y); have := hx.2; have := hy.1; omega
end Go.Proofs.YtajcapliokblfaaDoor
namespace Go.Proofs.YtajcapliokblfaaDoor
open Go Go.RowKit Nt
@[irreducible] def T19 : Nat := 10000000000000000000
theorem T19_eq : T19 = 10000000000000000000 := by unfold T19; rfl
theorem T19_pow : T19 = 10 ^ 19 := by rw [T19_eq]
def digs (n L : Nat) : List Nat := (dl 10 n L).map (48 + ·)
theorem digs_succ (n L : Nat) : digs n (L + 1) = digs n L ++ [48 + dgt 10 n L] := by unfold digs; rw [dl_succ, List.map_append]; rfl
theorem digs_length (n L : Nat) : (digs n L).length = L := by unfold digs; rw [List.length_map, dl_length]
theorem digs_get (n L j : Nat) (h : j < (digs n L).length) : (digs n L)[j] = 48 + dgt 10 n j := by
  have hj : j < L := by rwa [digs_length] at h
  have e : (digs n L)[j]? = some (48 + dgt 10 n j) := by unfold digs; rw [List.getElem?_map, dl_get? _ _ _ _ hj]; rfl
  rw [List.getElem?_eq_getElem h] at e
  exact Option.some.inj e
@[irreducible] def decS (n : Nat) : ByteArray := if n = 0 then ⟨#[48]⟩ else ⟨((digs n (nd 10 n)).reverse.map UInt8.ofNat).toArray⟩
theorem decS_zero : decS 0 = ⟨#[48]⟩ := by unfold decS; rw [if_pos rfl]
theorem decS_pos {n : Nat} (h : n ≠ 0) : decS n = ⟨((digs n (nd 10 n)).reverse.map UInt8.ofNat).toArray⟩ := by unfold decS; rw [if_neg h]
@[irreducible] def lowV (n L i : Nat) : Nat := n / 10 ^ (L + i) % 10 ^ (19 - i)
theorem lowV_def (n L i : Nat) : lowV n L i = n / 10 ^ (L + i) % 10 ^ (19 - i) := by unfold lowV; rfl
theorem lowV_lt (n L i : Nat) : lowV n L i < 10000000000000000000 := by
  rw [lowV_def]
  refine Nat.lt_of_lt_of_le (Nat.mod_lt _ (Nat.pow_pos (by omega))) ?_
  have : (10 : Nat) ^ (19 - i) ≤ 10 ^ 19 := Nat.pow_le_pow_right (by omega) (by omega)
  exact Nat.le_trans this (by decide)
theorem low_start (n L : Nat) : n / 10 ^ L % T19 = lowV n L 0 := by rw [lowV_def, T19_pow]; rfl
theorem low_digit (n L i : Nat) (hi : i < 19) : lowV n L i % 10 = dgt 10 n (L + i) := by
  obtain ⟨k, hk⟩ : ∃ k, 19 - i = k + 1 := ⟨18 - i, by omega⟩
  rw [lowV_def, hk, dgt_def, Nat.pow_succ, Nat.mul_comm, Nat.mod_mul_right_mod]
theorem low_next (n L i : Nat) (hi : i < 19) : lowV n L i / 10 = lowV n L (i + 1) := by
  obtain ⟨k, hk⟩ : ∃ k, 19 - i = k + 1 := ⟨18 - i, by omega⟩
  rw [lowV_def, lowV_def, hk, show 19 - (i + 1) = k by omega, show L + (i + 1) = L + i + 1 by omega, Nat.pow_succ 10 (L + i), ← Nat.div_div_eq_div_mul, Nat.pow_succ, Nat.mul_comm, Nat.mod_mul_right_div_self]
theorem low_whole (n L i : Nat) (hi : i ≤ 19) : n / 10 ^ (L + i) = lowV n L i + 10 ^ (19 - i) * (n / 10 ^ (L + 19)) := by
  rw [lowV_def, show L + 19 = (L + i) + (19 - i) by omega, Nat.pow_add 10 (L + i), ← Nat.div_div_eq_div_mul]
  exact (Nat.mod_add_div _ _).symm
theorem low_done {n L i : Nat} (hi : i ≤ 19) (h1 : n / 10 ^ (L + 19) = 0) (h2 : lowV n L i = 0) : n / 10 ^ (L + i) = 0 := by rw [low_whole n L i hi, h1, h2]; simp
theorem low_more {n L i : Nat} (hi : i ≤ 19) (h : n / 10 ^ (L + 19) ≠ 0 ∨ lowV n L i ≠ 0) : L + i < nd 10 n := by
  refine (pow_le_iff (by omega) _ _).1 ?_
  have h3 : n / 10 ^ (L + i) ≠ 0 := by
    rw [low_whole n L i hi]
    rcases h with h | h
    · have := Nat.mul_pos (Nat.pow_pos (n := 19 - i) (show 0 < 10 by omega)) (Nat.pos_of_ne_zero h); omega
    · omega
  rcases Nat.lt_or_ge n (10 ^ (L + i)) with h4 | h4
  · exact absurd (Nat.div_eq_of_lt h4) h3
  · exact h4
set_option maxRecDepth 100000 in
theorem NText_zero (w : World) :
    Calls Tryd.prog 30 #[.string (natS 0)] w (StrPost (decS 0) 0 w) := by
  have hf : fits 0 := by unfold fits; rw [nd_zero]; omega
  have hm := may1 hf
  have hE := natS_empty (n := 0) rfl
  have HD := Lib.hid decS_zero
  go_enter Tryd.func30, Tryd.ntmps30
  go_wp2_with (go_at_call 28; refine (Check_c _ _).mono ?_; rintro e w1 ⟨rfl, hb⟩)
  go_ret2
  exact ⟨by rw [HD.out]; rfl, hb⟩
set_option maxRecDepth 100000 in
set_option maxHeartbeats 2000000 in
theorem NText_c (n : Nat) (w : World) (hf : fits n) (h0 : n ≠ 0) :
    Calls Tryd.prog 30 #[.string (natS n)] w (StrPost (decS n) 0 w) := by
  obtain ⟨i0, hi0, hz0, hj1, hj2⟩ := info_parts (P := Tryd.prog) (e := 5) (z := .int .u8 0) (size := 1) (bytes := 1) (by kernel_rfl)
  have hm := may1 hf
  have hF := natS_full h0
  have hF2 := natS_full2 h0
  have HD := Lib.hid (decS_pos h0)
  have hwn := fits_words hf
  have HWN := Lib.hid hwn
  have HND : Hid (nd 10 n ≤ 16384 * 8) := Lib.hid (by
    have h1 : nd 2 n ≤ 8 * 16384 := (bits_le n 16384).2 hf
    have h2 : n < 10 ^ nd 2 n := Nat.lt_of_lt_of_le (lt_nd (b := 2) (by omega)) (Nat.pow_le_pow_left (by omega) _)
    have := nd_le (b := 10) (by omega) h2
    omega)
  clear hwn
  go_enter Tryd.func30, Tryd.ntmps30
  go_wp2_with (first
    | (go_at_call 28; refine (Check_c _ _).mono ?_; rintro e w1 ⟨rfl, hb⟩)
    | (go_at_call 49; refine (words_c n _ hf).mono ?_; intro e w2 hp; obtain ⟨A1, c1, rfl, hc1, hr1, hb2⟩ := hp.get; have HR1 := Lib.hid hr1; clear hr1 hp))
  have hb12 := hb.trans (hb2.mono hb.size)
  clear hm hF hF2
  go_loopg [5, 6] n (fun G x y wr => ∃ (m L c : Nat) (A : Option Addr), y = .slice A (nd W m) c ∧ nd W m ≤ c ∧ Hid (Row wr wr.heap.size A m (nd W m)) ∧ Hid (Own wr w.heap.size 5 .u8 x (digs n L)) ∧ Hid (m = n / 10 ^ L) ∧ Hid (L ≤ nd 10 n) ∧ m ≤ G ∧ Below w.heap.size w wr)
  case atStart => exact ⟨n, 0, c1, A1, rfl, hc1, HR1, Lib.hid (Own.nil _ _ _ _), Lib.hid (by rw [Nat.pow_zero, Nat.div_one]), Lib.hid (Nat.zero_le _), Nat.le_refl _, hb12⟩
  case round =>
    obtain ⟨m, L, c, A, rfl, hc, hrow, hown, hm, hL, hG, hbw⟩ := hrel
    by_cases hm0 : m = 0
    · subst hm0
      have e0 : nd W 0 = 0 := nd_zero _
      rw [e0]
      have hLn : L = nd 10 n := by
        have h1 : n < 10 ^ L := by
          rcases Nat.lt_or_ge n (10 ^ L) with h | h
          · exact h
          · have := Nat.div_pos h (Nat.pow_pos (n := L) (show 0 < 10 by omega)); have := hm.out; omega
        have := nd_le (b := 10) (by omega) h1
        have := hL.out; omega
      have hown2 := hown.out
      rw [hLn] at hown2
      have hlen := digs_length n (nd 10 n)
      rcases hown2.form with ⟨rfl, hnil⟩ | ⟨g, cap, cs, rfl, hgB, hgw, hblk, hcap, hcap2, hcs⟩
      · exfalso
        rw [hnil] at hlen
        exact h0 ((nd_eq_zero (b := 10) (by omega)).1 hlen.symm)
      · rw [hlen]
        have hcs' : ∀ j, j < nd 10 n → cs[j]? = some (.int .u8 ((48 + dgt 10 n j : Nat) : Int)) := fun j hj => by
          have h1 : j < (digs n (nd 10 n)).length := by rw [hlen]; exact hj
          rw [hcs j h1, digs_get n (nd 10 n) j h1]
        have hrev := Reverse_c g (nd 10 n) cap 5 cs (fun j => 48 + dgt 10 n j) wr (by have := HND.out; omega) hblk hcs'
        have HREV := Lib.hid hrev
        have HBW := Lib.hid hbw
        have HGB := Lib.hid hgB
        clear hrev hcs' hcs hblk hbw hgB hlen hown2 hrow hown hm hL hG hc hLn hcap2 hgw
        have hn64 : nd 10 n ≤ 131072 := by have := HND.out; omega
        go_wp2_with fail
        refine HREV.out.mono ?_
        rintro e w' ⟨rfl, cs2, hb2', hc2', hbw2⟩
        have hcv : (convert 74 9 (.slice (some ⟨g, 0, none⟩) (nd 10 n) cap)).run Tryd.prog w' = .ok (.string (decS n)) w' := by
          rw [HD.out]
          have hl : ((digs n (nd 10 n)).reverse.map UInt8.ofNat).length = nd 10 n := by rw [List.length_map, List.length_reverse, digs_length]
          have h := run_convert_bytes_back (P := Tryd.prog) w' 74 9 5 ⟨g, 0, none⟩ cap ((digs n (nd 10 n)).reverse.map UInt8.ofNat) Tryd.underlying74 Tryd.underlying5 Tryd.underlying9 (fun j hj => by
            have hj' : j < nd 10 n := by rw [← hl]; exact hj
            rw [add_plain0, hb2'.cell, hc2' j hj', List.getElem_map, List.getElem_reverse, digs_get, digs_length, UInt8.toNat_ofNat', Nat.mod_eq_of_lt]
            have := dgt_lt (b := 10) (by omega) n (nd 10 n - 1 - j); omega)
          rw [hl] at h
          exact h
        have HBL := Lib.hid hbw2
        clear hb2' hc2' hbw2
        go_wp2
        go_ret2
        exact ⟨rfl, HBW.out.trans (HBL.out.mono HGB.out)⟩
    · have hmn : 0 < nd W m := by
        rcases Nat.eq_zero_or_pos (nd W m) with h | h
        · exact absurd ((nd_eq_zero W2).1 h) hm0
        · exact h
      have hmw : nd W m ≤ 2048 := Nat.le_trans (nd_mono W2 (by rw [hm.out]; exact Nat.div_le_self _ _)) HWN.out
      have htk := Take_c A c m T19 wr.heap.size wr (by rw [T19_eq]; omega) (by rw [T19_eq]; omega) (by omega) hrow.out (Nat.le_refl _)
      have hm19 : m / T19 = n / 10 ^ (L + 19) := by rw [hm.out, T19_pow, Nat.div_div_eq_div_mul, ← Nat.pow_add]
      have hl19 : m % T19 = lowV n L 0 := by rw [hm.out, low_start]
      rw [hm19, hl19, show ((T19 : Nat) : Int) = 10000000000000000000 by rw [T19_eq]; rfl] at htk
      have hmlt : n / 10 ^ (L + 19) < m := by
        rw [← hm19]; exact Nat.div_lt_self (by omega) (by rw [T19_eq]; omega)
      obtain ⟨m', hm'⟩ : ∃ m', m' = n / 10 ^ (L + 19) := ⟨_, rfl⟩
      rw [← hm'] at htk hmlt
      have HTK := Lib.hid htk
      have HM' := Lib.hid hm'
      have HG := Lib.hid hG
      have HLT := Lib.hid hmlt
      have hmI : (0 : Int) < (nd W m : Int) := by omega
      have hw0 : nd W m' ≤ 2048 := Nat.le_trans (nd_mono W2 (by rw [hm']; exact Nat.div_le_self _ _)) HWN.out
      clear htk hm19 hl19 hm' hG hmlt
      go_wp2_with (go_at_call 50; refine HTK.out.mono ?_; rintro e w3 ⟨A3, c3, rfl, hA3, hs3, hc3, hr3, hb3⟩; have HA3 := Lib.hid hA3; clear hA3)
      have HDJ : Hid (∀ g, A3 = some ⟨g, 0, none⟩ → Value.ownBlock _ ≠ some g ∧ g < w3.heap.size) := Lib.hid (fun g e => by
        have hA3 := HA3.out
        rw [hA3] at e
        have h2 : wr.heap.size = g := congrArg Addr.block (Option.some.inj e)
        refine ⟨fun c => ?_, by omega⟩
        have h1 := (hown.out.lt g c).2
        omega)
      have HR3 := Lib.hid hr3
      have HOW : Hid (Own w3 w.heap.size 5 .u8 _ (digs n L)) := Lib.hid (hown.out.whole hb3)
      have hbw3 := hbw.trans (hb3.mono hbw.size)
      clear hr3 hrow hown hb3 hs3
      obtain ⟨wo, rfl⟩ : ∃ wo : World, wo = w3 := ⟨_, rfl⟩
      go_loopw [5, 7, 8] (fun x y z wr => ∃ (i : Nat), i ≤ 19 ∧ z = .int .i64 i ∧ y = .int .u64 (lowV n L i : Nat) ∧ Hid (Own wr w.heap.size 5 .u8 x (digs n (L + i))) ∧ Hid (L + i ≤ nd 10 n) ∧ Hid (Row wr wr.heap.size A3 m' (nd W m')) ∧ Hid (∀ g, A3 = some ⟨g, 0, none⟩ → x.ownBlock ≠ some g ∧ g < wr.heap.size) ∧ Below w.heap.size w wr) (fun _ _ z _ => 19 - (intOf z).toNat)
      case atStart => exact ⟨0, by omega, rfl, rfl, HOW, hL, HR3, HDJ, hbw3⟩
      case round =>
        obtain ⟨i, hi, rfl, rfl, hown4, hL4, hr4, hdj4, hb4⟩ := hrel
        have hcase : (i = 19 ∨ (i < 19 ∧ m' = 0 ∧ lowV n L i = 0)) ∨ (i < 19 ∧ (m' ≠ 0 ∨ (m' = 0 ∧ lowV n L i ≠ 0))) := by omega
        rcases hcase with hex | ⟨hi19, hgo⟩
        · have HLi : Hid (m' = n / 10 ^ (L + i)) := Lib.hid (by
            rcases hex with h | ⟨h1, h2, h3⟩
            · rw [HM'.out, h]
            · rw [h2, low_done hi (HM'.out ▸ h2) h3])
          rcases hex with h | ⟨h1, h2, h3⟩
          case' inl => subst h
          case' inr =>
            have hz1 : ¬ 0 < nd W m' := by rw [h2, nd_zero]; omega
            have hz2 : ¬ (0 : Int) < (nd W m' : Int) := by omega
            have hz3 : ¬ (0 : Int) < (lowV n L i : Int) := by omega
            have hz4 : ¬ 0 < lowV n L i := by omega
            have Hh2 := Lib.hid h2
            have Hh3 := Lib.hid h3
            clear h2 h3
          all_goals
            go_wp2
            go_roundg m'
            case rel => exact ⟨m', _, c3, A3, rfl, hc3, hr4, hown4, HLi, hL4, Nat.le_refl _, hb4⟩
            case measure => have := HLT.out; have := HG.out; omega
        · have hlow := low_digit n L i hi19
          have hnx := low_next n L i hi19
          have hmore := low_more (n := n) (L := L) (i := i) (by omega) (by rw [← HM'.out]; omega)
          obtain ⟨d, hd⟩ : ∃ d, d = dgt 10 n (L + i) := ⟨_, rfl⟩
          have hd10 : d < 10 := by rw [hd]; exact dgt_lt (by omega) _ _
          rw [← hd] at hlow
          have e1 : IntKind.u8.wrap ((lowV n L i : Int) % 10) = (d : Int) := by rw [show (lowV n L i : Int) % 10 = ((d : Nat) : Int) by omega, wrap_u8]; omega
          obtain ⟨y, hy⟩ : ∃ y, y = 48 + d := ⟨_, rfl⟩
          have e2 : IntKind.u8.wrap (48 + (d : Int)) = (y : Int) := by rw [show (48 : Int) + (d : Int) = ((y : Nat) : Int) by omega, wrap_u8]; omega
          have e3 : (lowV n L i : Int) / 10 = ((lowV n L (i + 1) : Nat) : Int) := by omega
          have e4 : IntKind.u64.wrap ((lowV n L (i + 1) : Nat) : Int) = ((lowV n L (i + 1) : Nat) : Int) := by have := lowV_lt n L (i + 1); rw [IntKind.wrap_u64]; omega
          have HDD := Lib.hid (show digs n (L + (i + 1)) = digs n (L + i) ++ [y] by rw [show L + (i + 1) = L + i + 1 by omega, digs_succ, hy, hd])
          have HMM := Lib.hid hmore
          have hi19I : (i : Int) < 19 := by omega
          have hd10I : (d : Int) < 10 := by omega
          clear hlow hnx hmore hd hy
          rcases hgo with h | ⟨h1, h2⟩
          case' inl =>
            have hz1 : 0 < nd W m' := by
              rcases Nat.eq_zero_or_pos (nd W m') with h' | h'
              · exact absurd ((nd_eq_zero W2).1 h') h
              · exact h'
            have hz2 : (0 : Int) < (nd W m' : Int) := by omega
          case' inr =>
            have hz1 : ¬ 0 < nd W m' := by rw [h1, nd_zero]; omega
            have hz2 : ¬ (0 : Int) < (nd W m' : Int) := by omega
            have hz3 : (0 : Int) < (lowV n L i : Int) := by omega
            have hz4 : 0 < lowV n L i := by omega
            have Hh1 := Lib.hid h1
            clear h1 h2
          all_goals
            have hlen : (digs n (L + i)).length + 1 ≤ 17592186044416 := by rw [digs_length]; have := HND.out; have := hL4.out; omega
            have HLEN := Lib.hid hlen
            clear hlen
            go_wp2_with (at_builtin; go_loud (refine wpList_app1 wr rfl (.tmp 39) (.tmp 44) _ rfl w.heap.size 5 5 i0 .u8 1 Tryd.underlying74 hi0 hz0 hj1 hj2 (by omega) _ (digs n (L + i)) y rfl rfl hown4.out HLEN.out hb4.size ?_); intro v5 w5 hown5 hb5 hfr5 hnw5)
            rw [← HDD.out] at hown5
            have HO5 := Lib.hid hown5
            have HR5 : Hid (Row w5 w5.heap.size A3 m' (nd W m')) := Lib.hid (hr4.out.frm hfr5 (fun g e => (hdj4.out g e).1) hb5.size)
            have HD5 : Hid (∀ g, A3 = some ⟨g, 0, none⟩ → v5.ownBlock ≠ some g ∧ g < w5.heap.size) := Lib.hid (fun g e => by
              have h0 := hdj4.out g e
              refine ⟨fun c => ?_, Nat.lt_of_lt_of_le h0.2 hb5.size⟩
              rcases hnw5 g c with h | h
              · exact h0.1 h
              · omega)
            clear hown5 hfr5 hnw5
            go_roundw
            case rel => exact ⟨i + 1, by omega, by go_num, rfl, HO5, HMM, HR5, HD5, hb4.trans hb5⟩
            case measure => simp [intOf]; omega
end Go.Proofs.YtajcapliokblfaaDoor
namespace Go.Proofs.YtajcapliokblfaaDoor
open Go Go.RowKit Nt
def DivPost (q r : Nat) (w : World) (e : Ending) (w' : World) : Prop :=
  ∃ A c A' c', e = .returned (.tuple #[.slice A (nd W q) c, .slice A' (nd W r) c']) ∧ nd W q ≤ c ∧ nd W r ≤ c' ∧ Row w' w'.heap.size A q (nd W q) ∧ Row w' w'.heap.size A' r (nd W r) ∧ Below w.heap.size w w'
theorem one_word {b : Nat} (h : nd W b = 1) : dgt W b 0 = b ∧ b ≠ 0 ∧ b < 18446744073709551616 := by
  have h1 : b < W ^ 1 := (lt_pow_iff W2 1 b).2 (by omega)
  rw [Nat.pow_one] at h1
  refine ⟨by rw [dgt_def, Nat.pow_zero, Nat.div_one, Nat.mod_eq_of_lt h1], fun c => ?_, by rw [← W_eq]; exact h1⟩
  subst c; rw [nd_zero] at h; omega
set_option maxRecDepth 100000 in
set_option maxHeartbeats 1000000 in
theorem Div_one (A A' : Option Addr) (c c' a b : Nat) (w : World) (hb1 : nd W b = 1) (hab : b ≤ a) (hL : nd W a ≤ 1000000000) (hr : Row w w.heap.size A a (nd W a)) (hr' : Row w w.heap.size A' b (nd W b)) :
    Calls Tryd.prog 65 #[.slice A (nd W a) c, .slice A' (nd W b) c'] w (DivPost (a / b) (a % b) w) := by
  have hcmp := cmp_pos hab
  have hcm := Cmp_c A A' c c' a b w.heap.size w hL (by omega) hr hr'
  have HCM := Lib.hid hcm
  obtain ⟨g', rfl, hg', hcell⟩ := hr'.at_ (k := 0) (by omega)
  obtain ⟨e1, e2, e3⟩ := one_word hb1
  rw [e1] at hcell
  have HR := Lib.hid hr
  have HR' := Lib.hid hr'
  have HE2 := Lib.hid e2
  have HE3 := Lib.hid e3
  have HLL := Lib.hid hL
  have H1 := Lib.hid hb1
  rw [hb1] at HCM ⊢
  clear hcm hr hr' e1 e2 e3 hab hL hb1
  go_enter Tryd.func65, Tryd.ntmps65
  go_wp2
  go_step3
  go_wp2_with (first
    | (go_at_call 44; refine HCM.out.mono ?_; rintro e w1 ⟨rfl, nn, rfl⟩)
    | (go_at_call 50; refine (Take_c A c a b _ _ HE2.out HE3.out HLL.out (HR.out.drewN nn) (Nat.le_refl _)).mono ?_; rintro e w2 ⟨A2, c2, rfl, hA2, hs2, hc2, hr2, hb2⟩; have HR2 := Lib.hid hr2; clear hA2 hr2)
    | (go_at_call 74; refine (Of_c _ _ (by exact Nat.lt_of_lt_of_le (Nat.mod_lt _ (Nat.pos_of_ne_zero HE2.out)) (Nat.le_of_lt HE3.out))).mono ?_; intro e w3 hp; obtain ⟨A3, c3, rfl, hc3, hr3, hb3⟩ := hp.get; have HR3 := Lib.hid hr3; clear hr3 hp))
  rw [Exit.noGoto_ret]
  go_ret2
  exact ⟨_, _, _, _, rfl, hc2, hc3, (HR2.out.below hb3).more hb3.size, HR3.out, (below_drewN (Below.refl _ _) nn).trans (hb2.trans (hb3.mono hb2.size))⟩
end Go.Proofs.YtajcapliokblfaaDoor
namespace Nt
theorem est_hi {U v k m q : Nat} (hv : W ^ m ≤ v) (h : q * (W ^ k * v) ≤ U) : q ≤ U / W ^ (k + m) / (v / W ^ m) := by
  have hV : 0 < v / W ^ m := Nat.div_pos hv (Nat.pow_pos W0)
  rw [Nat.le_div_iff_mul_le hV, Nat.le_div_iff_mul_le (Nat.pow_pos W0)]
  have h1 : v / W ^ m * W ^ m ≤ v := Nat.div_mul_le_self _ _
  have h2 : q * (W ^ k * (v / W ^ m * W ^ m)) ≤ q * (W ^ k * v) := Nat.mul_le_mul_left _ (Nat.mul_le_mul_left _ h1)
  refine Nat.le_trans (Nat.le_of_eq ?_) (Nat.le_trans h2 h)
  rw [Nat.pow_add, Nat.mul_assoc, Nat.mul_left_comm (v / W ^ m)]
theorem est_lo {U v k m g : Nat} (hv : W ^ (m + 1) ≤ v) (hg : g ≤ W) (h : g * (v / W ^ m) ≤ U / W ^ (k + m)) : g * (W ^ k * v) ≤ U + W ^ k * v := by
  have h1 := Nat.mod_add_div v (W ^ m)
  have h2 : v % W ^ m < W ^ m := Nat.mod_lt _ (Nat.pow_pos W0)
  have h3 : g * (v / W ^ m) * W ^ (k + m) ≤ U := by
    rwa [Nat.le_div_iff_mul_le (Nat.pow_pos W0)] at h
  have h4 : g * (v % W ^ m) ≤ W * W ^ m := Nat.mul_le_mul hg (Nat.le_of_lt h2)
  have h5 : W * W ^ m = W ^ (m + 1) := by rw [Nat.pow_succ, Nat.mul_comm]
  have h6 : g * (W ^ k * v) = W ^ k * (g * (v % W ^ m)) + g * (v / W ^ m) * W ^ (k + m) := by
    conv => lhs; rw [← h1]
    rw [Nat.mul_add, Nat.mul_add, Nat.pow_add]
    congr 1
    · rw [Nat.mul_left_comm]
    · rw [Nat.mul_assoc, Nat.mul_left_comm (v / W ^ m), Nat.mul_comm (v / W ^ m)]
  have h7 : W ^ k * (g * (v % W ^ m)) ≤ W ^ k * v := Nat.mul_le_mul_left _ (by omega)
  omega
theorem est_top {U v k n x y : Nat} (hx : x = v / W ^ n) (hy : y = U / W ^ (k + n + 1)) (hxy : x ≤ y) (hn : W ≤ 2 * x) : (W - 2) * (W ^ k * v) ≤ U := by
  have h1 := Nat.mod_add_div v (W ^ n)
  have h2 : v % W ^ n < W ^ n := Nat.mod_lt _ (Nat.pow_pos W0)
  have h3 : y * W ^ (k + n + 1) ≤ U := by rw [hy]; exact Nat.div_mul_le_self _ _
  rw [← hx] at h1
  have hv : v ≤ W ^ n * (x + 1) := by rw [Nat.mul_add]; omega
  have h4 : (W - 2) * (x + 1) ≤ x * W := by
    obtain ⟨c, hc⟩ : ∃ c, W = c + 2 := ⟨W - 2, by have := W2; omega⟩
    rw [hc] at hn ⊢
    rw [Nat.add_sub_cancel, Nat.mul_add, Nat.mul_add, Nat.mul_comm c x]; omega
  calc (W - 2) * (W ^ k * v) ≤ (W - 2) * (W ^ k * (W ^ n * (x + 1))) := Nat.mul_le_mul_left _ (Nat.mul_le_mul_left _ hv)
    _ = W ^ (k + n) * ((W - 2) * (x + 1)) := by rw [Nat.pow_add]; simp only [Nat.mul_left_comm, Nat.mul_comm, Nat.mul_assoc]
    _ ≤ W ^ (k + n) * (x * W) := Nat.mul_le_mul_left _ h4
    _ = x * W ^ (k + n + 1) := by rw [Nat.pow_succ]; simp only [Nat.mul_left_comm, Nat.mul_comm, Nat.mul_assoc]
    _ ≤ y * W ^ (k + n + 1) := Nat.mul_le_mul_right _ hxy
    _ ≤ U := h3
def guessN (u2 u1 u0 v1 v0 : Nat) : Nat := if v1 ≤ u2 then W - 1 else ((u2 * W + u1) * W + u0) / (v1 * W + v0)
theorem turn3 (a b c w : Nat) : a + w * (b + w * c) = (c * w + b) * w + a := by
  rw [Nat.mul_comm (c * w + b) w, Nat.mul_comm c w, Nat.add_comm (w * c) b, Nat.add_comm _ a]
theorem turn2 (a b w : Nat) : a + w * b = b * w + a := by rw [Nat.mul_comm b w, Nat.add_comm _ a]
theorem three (U j : Nat) (h : U < W ^ (j + 3)) : U / W ^ j = (dgt W U (j + 2) * W + dgt W U (j + 1)) * W + dgt W U j := by
  have e1 := div_eq_dgt W0 U j
  have e2 := div_eq_dgt W0 U (j + 1)
  have e3 := div_eq_dgt W0 U (j + 2)
  have e4 : U / W ^ (j + 2 + 1) = 0 := Nat.div_eq_of_lt h
  rw [e4, Nat.mul_zero] at e3
  have e5 : U / W ^ (j + 1 + 1) = dgt W U (j + 2) := e3.trans (Nat.add_zero _)
  rw [e5] at e2
  rw [e2] at e1
  rw [e1]
  exact turn3 _ _ _ _
theorem two_w (v j : Nat) (h : v < W ^ (j + 2)) : v / W ^ j = dgt W v (j + 1) * W + dgt W v j := by
  have e1 := div_eq_dgt W0 v j
  have e2 := div_eq_dgt W0 v (j + 1)
  have e4 : v / W ^ (j + 1 + 1) = 0 := Nat.div_eq_of_lt h
  rw [e4, Nat.mul_zero] at e2
  rw [e2.trans (Nat.add_zero _)] at e1
  rw [e1]
  exact turn2 _ _ _
theorem top_w (v j : Nat) (h : v < W ^ (j + 1)) : v / W ^ j = dgt W v j := by
  have e := div_eq_dgt W0 v j
  rw [Nat.div_eq_of_lt h, Nat.mul_zero] at e
  exact e.trans (Nat.add_zero _)
theorem guess_ok {U v k m : Nat} (hv : v < W ^ (m + 2)) (hn : W ^ (m + 2) ≤ 2 * v) (hU : U < W * (W ^ k * v)) :
    guessN (dgt W U (k + m + 2)) (dgt W U (k + m + 1)) (dgt W U (k + m)) (dgt W v (m + 1)) (dgt W v m) < W ∧
    (U / (W ^ k * v) = guessN (dgt W U (k + m + 2)) (dgt W U (k + m + 1)) (dgt W U (k + m)) (dgt W v (m + 1)) (dgt W v m) ∨
     U / (W ^ k * v) + 1 = guessN (dgt W U (k + m + 2)) (dgt W U (k + m + 1)) (dgt W U (k + m)) (dgt W v (m + 1)) (dgt W v m)) := by
  have hp := Nat.pow_pos (n := m) W0
  have hpk := Nat.pow_pos (n := k) W0
  have hw := W2
  have hv0 : W ^ (m + 1) ≤ v := by
    have : W ^ (m + 2) = W ^ (m + 1) * W := Nat.pow_succ ..
    have h2 : W ^ (m + 1) * 2 ≤ W ^ (m + 1) * W := Nat.mul_le_mul_left _ hw
    omega
  have hv1 : W ^ m ≤ v := Nat.le_trans (Nat.pow_le_pow_right W0 (by omega)) hv0
  have hvp : 0 < v := Nat.lt_of_lt_of_le hp hv1
  have hV : 0 < W ^ k * v := Nat.mul_pos hpk hvp
  have hUW : U < W ^ (k + m + 3) := by
    refine Nat.lt_trans hU ?_
    have : W ^ (k + m + 3) = W * (W ^ k * W ^ (m + 2)) := by
      rw [← Nat.pow_add, ← Nat.pow_succ', show (k + (m + 2)).succ = k + m + 3 by omega]
    rw [this]
    exact (Nat.mul_lt_mul_left W0).2 ((Nat.mul_lt_mul_left hpk).2 hv)
  obtain ⟨q, hq⟩ : ∃ q, q = U / (W ^ k * v) := ⟨_, rfl⟩
  have hqle : q * (W ^ k * v) ≤ U := by rw [hq]; exact Nat.div_mul_le_self _ _
  have hqlt : U < (q + 1) * (W ^ k * v) := by
    rw [hq]
    have := Nat.lt_mul_div_succ U hV
    rwa [Nat.mul_comm] at this
  have hqW : q < W := by
    rw [hq, Nat.div_lt_iff_lt_mul hV]; exact hU
  rw [← hq]
  -- one bound suffices
  have main : ∀ g, g ≤ W → q ≤ g → g * (W ^ k * v) ≤ U + W ^ k * v → q = g ∨ q + 1 = g := fun g _ h1 h2 => by
    have h3 : g * (W ^ k * v) < (q + 2) * (W ^ k * v) := by
      have : (q + 2) * (W ^ k * v) = (q + 1) * (W ^ k * v) + W ^ k * v := by rw [← Nat.succ_mul]
      omega
    have := Nat.lt_of_mul_lt_mul_right h3
    omega
  unfold guessN
  by_cases hc : dgt W v (m + 1) ≤ dgt W U (k + m + 2)
  · rw [if_pos hc]
    refine ⟨by omega, main _ (by omega) (by omega) ?_⟩
    have hx : dgt W v (m + 1) = v / W ^ (m + 1) := (top_w v (m + 1) hv).symm
    have hy : dgt W U (k + m + 2) = U / W ^ (k + (m + 1) + 1) := (top_w U (k + m + 2) hUW).symm
    have hn2 : W ≤ 2 * dgt W v (m + 1) := by
      rw [hx]
      have h1 := Nat.lt_mul_div_succ v (Nat.pow_pos (n := m + 1) W0)
      have h2 : W ^ (m + 2) = W ^ (m + 1) * W := Nat.pow_succ ..
      have h3 : W ^ (m + 1) * W < W ^ (m + 1) * (2 * (v / W ^ (m + 1) + 1)) := by
        rw [← h2, Nat.mul_left_comm]; omega
      have h4 := Nat.lt_of_mul_lt_mul_left h3
      have h5 : W % 2 = 0 := by rw [W_eq]
      omega
    have ht := est_top (U := U) (v := v) (k := k) (n := m + 1) hx hy hc hn2
    have : (W - 1) * (W ^ k * v) = (W - 2) * (W ^ k * v) + W ^ k * v := by
      rw [← Nat.succ_mul]; congr 1; omega
    omega
  · rw [if_neg hc]
    have e1 := three U (k + m) hUW
    have e2 := two_w v m hv
    rw [← e1, ← e2]
    have hV2 : 0 < v / W ^ m := Nat.div_pos hv1 hp
    have h1 := est_hi (q := q) (k := k) hv1 hqle
    have hgle : U / W ^ (k + m) / (v / W ^ m) * (v / W ^ m) ≤ U / W ^ (k + m) := Nat.div_mul_le_self _ _
    have hgW : U / W ^ (k + m) / (v / W ^ m) < W := by
      rw [Nat.div_lt_iff_lt_mul hV2, e1, e2]
      have hu1 := dgt_lt W0 U (k + m + 1)
      have hu0 := dgt_lt W0 U (k + m)
      have h2 : dgt W U (k + m + 2) + 1 ≤ dgt W v (m + 1) := by omega
      have h3 : (dgt W U (k + m + 2) + 1) * W * W ≤ dgt W v (m + 1) * W * W := Nat.mul_le_mul_right _ (Nat.mul_le_mul_right _ h2)
      have h4 : dgt W U (k + m + 1) * W + W ≤ W * W := by
        have := Nat.mul_le_mul_right W (show dgt W U (k + m + 1) + 1 ≤ W from hu1)
        rwa [Nat.add_mul, Nat.one_mul] at this
      rw [Nat.add_mul, Nat.add_mul, Nat.one_mul] at h3
      rw [Nat.add_mul, Nat.mul_add, Nat.mul_comm W (dgt W v (m + 1) * W)]
      have := Nat.zero_le (W * dgt W v m)
      omega
    exact ⟨hgW, main _ (by omega) h1 (est_lo hv0 (by omega) hgle)⟩
end Nt
namespace Nt
def subI (U v q k i Z c b : Nat) : Prop := Z + W ^ k * (q * (v % W ^ i)) = U + W ^ (k + i) * (b + c)
theorem subI_first (U v q k : Nat) : subI U v q k 0 U 0 0 := by
  unfold subI; rw [Nat.pow_zero, Nat.mod_one, Nat.mul_zero, Nat.mul_zero, Nat.add_zero, Nat.mul_zero, Nat.add_zero]
theorem subI_step {U v q k i Z c b s d b' : Nat} (h : subI U v q k i Z c b) (hs : s = q * dgt W v i + c) (hd : d + s % W + b = dgt W Z (k + i) + W * b') :
    subI U v q k (i + 1) (put W Z (k + i) d) (s / W) b' := by
  unfold subI at h ⊢
  have h1 := put_eq (b := W) Z (k + i) d W0
  have h2 := Nat.mod_add_div s W
  have h3 : W ^ k * (q * (v % W ^ (i + 1))) = W ^ k * (q * (v % W ^ i)) + W ^ (k + i) * (q * dgt W v i) := by
    rw [mod_succ, Nat.mul_add, Nat.mul_add, Nat.pow_add]
    congr 1
    rw [Nat.mul_left_comm q, Nat.mul_assoc]
  have h4 : W ^ (k + (i + 1)) * (b' + s / W) = W ^ (k + i) * (W * b') + W ^ (k + i) * (W * (s / W)) := by
    rw [← Nat.add_assoc, Nat.pow_succ, Nat.mul_assoc, Nat.mul_add, Nat.mul_add]
  have h5 : W ^ (k + i) * d + W ^ (k + i) * (s % W) + W ^ (k + i) * b = W ^ (k + i) * dgt W Z (k + i) + W ^ (k + i) * (W * b') := by
    rw [← Nat.mul_add, ← Nat.mul_add, ← Nat.mul_add, hd]
  have h6 : W ^ (k + i) * (s % W) + W ^ (k + i) * (W * (s / W)) = W ^ (k + i) * (q * dgt W v i) + W ^ (k + i) * c := by
    rw [← Nat.mul_add, ← Nat.mul_add, h2, hs]
  rw [Nat.mul_add] at h
  rw [h3, h4]
  omega
theorem subI_last {U v q k n Z b : Nat} (h : subI U v q k (n + 1) Z 0 b) (hv : v < W ^ n) : Z + W ^ k * (q * v) = U + W ^ (k + n + 1) * b := by
  unfold subI at h
  rw [Nat.mod_eq_of_lt (Nat.lt_trans hv (Nat.pow_lt_pow_right W2 (by omega)))] at h
  exact h
def addI (U v k i Z c : Nat) : Prop := Z + W ^ (k + i) * c = U + W ^ k * (v % W ^ i)
theorem addI_first (U v k : Nat) : addI U v k 0 U 0 := by
  unfold addI; rw [Nat.pow_zero, Nat.mod_one, Nat.mul_zero, Nat.mul_zero]
theorem addI_step {U v k i Z c d c' : Nat} (h : addI U v k i Z c) (hd : d + W * c' = dgt W Z (k + i) + dgt W v i + c) :
    addI U v k (i + 1) (put W Z (k + i) d) c' := by
  unfold addI at h ⊢
  have h1 := put_eq (b := W) Z (k + i) d W0
  have h3 : W ^ k * (v % W ^ (i + 1)) = W ^ k * (v % W ^ i) + W ^ (k + i) * dgt W v i := by
    rw [mod_succ, Nat.mul_add, Nat.pow_add, Nat.mul_assoc]
  have h4 : W ^ (k + (i + 1)) * c' = W ^ (k + i) * (W * c') := by rw [← Nat.add_assoc, Nat.pow_succ, Nat.mul_assoc]
  have h5 : W ^ (k + i) * d + W ^ (k + i) * (W * c') = W ^ (k + i) * dgt W Z (k + i) + W ^ (k + i) * dgt W v i + W ^ (k + i) * c := by
    rw [← Nat.mul_add, ← Nat.mul_add, ← Nat.mul_add, hd]
  rw [h3, h4]
  omega
theorem addI_last {U v k n Z c : Nat} (h : addI U v k (n + 1) Z c) (hv : v < W ^ n) : Z + W ^ (k + n + 1) * c = U + W ^ k * v := by
  unfold addI at h
  rw [Nat.mod_eq_of_lt (Nat.lt_trans hv (Nat.pow_lt_pow_right W2 (by omega)))] at h
  exact h
theorem step_fine {U v q k n Z g : Nat} (hg : q = g ∨ q + 1 = g) (hq : q = U / (W ^ k * v)) (hv : 0 < v) (h : Z + W ^ k * (g * v) = U) : q = g ∧ Z = U % (W ^ k * v) := by
  have hV : 0 < W ^ k * v := Nat.mul_pos (Nat.pow_pos W0) hv
  have h1 := Nat.mod_add_div U (W ^ k * v)
  have h2 := Nat.mod_lt U hV
  rw [← hq] at h1
  rw [Nat.mul_left_comm] at h
  rcases hg with rfl | hg
  · refine ⟨rfl, ?_⟩
    rw [Nat.mul_comm (W ^ k * v)] at h1; omega
  · rw [← hg, Nat.add_mul] at h
    rw [Nat.mul_comm (W ^ k * v)] at h1; omega
theorem step_back {U v q k n Z Z' g c : Nat} (hg : q = g ∨ q + 1 = g) (hq : q = U / (W ^ k * v)) (hv0 : 0 < v) (hv : v < W ^ n) (hU : U < W ^ (k + n + 1)) (hZ : Z < W ^ (k + n + 1)) (hZ' : Z' < W ^ (k + n + 1)) (hc : c ≤ 1)
    (h : Z + W ^ k * (g * v) = U + W ^ (k + n + 1)) (hb : Z' + W ^ (k + n + 1) * c = Z + W ^ k * v) : q + 1 = g ∧ Z' = U % (W ^ k * v) := by
  have hV : 0 < W ^ k * v := Nat.mul_pos (Nat.pow_pos W0) hv0
  have h1 := Nat.mod_add_div U (W ^ k * v)
  have h2 := Nat.mod_lt U hV
  rw [← hq] at h1
  rw [Nat.mul_left_comm] at h
  have h3 : W ^ k * v < W ^ (k + n + 1) := by
    rw [Nat.add_assoc, Nat.pow_add]
    exact (Nat.mul_lt_mul_left (Nat.pow_pos W0)).2 (Nat.lt_trans hv (Nat.pow_lt_pow_right W2 (by omega)))
  rw [Nat.mul_comm (W ^ k * v)] at h1
  rcases hg with rfl | hg
  · omega
  · refine ⟨hg, ?_⟩
    rw [← hg, Nat.add_mul, Nat.one_mul] at h
    generalize W ^ (k + n + 1) = M at *
    generalize W ^ k * v = V at *
    generalize q * V = S at *
    have : c = 0 ∨ c = 1 := by omega
    rcases this with rfl | rfl
    · omega
    · omega
def divI (A v Q U k : Nat) : Prop := A = U + v * (W ^ k * Q) ∧ U < W ^ k * v
theorem divI_step {A v Q U k q : Nat} (h : divI A v Q U (k + 1)) (hq : q = U / (W ^ k * v)) (hv : 0 < v) : divI A v (q + W * Q) (U % (W ^ k * v)) k := by
  have hV : 0 < W ^ k * v := Nat.mul_pos (Nat.pow_pos W0) hv
  have h1 := Nat.mod_add_div U (W ^ k * v)
  refine ⟨?_, Nat.mod_lt _ hV⟩
  rw [← hq] at h1
  obtain ⟨h2, _⟩ := h
  have h3 : v * (W ^ k * (q + W * Q)) = W ^ k * v * q + v * (W ^ (k + 1) * Q) := by
    rw [Nat.mul_add, Nat.mul_add, Nat.pow_succ, Nat.mul_assoc (W ^ k) W, Nat.mul_left_comm v, Nat.mul_assoc (W ^ k) v]
  rw [h3]; omega
theorem divI_lt {A v Q U k : Nat} (h : divI A v Q U (k + 1)) : U < W * (W ^ k * v) := by
  have := h.2
  rwa [Nat.pow_succ, Nat.mul_comm (W ^ k) W, Nat.mul_assoc] at this
theorem divI_end {a b A v Q U by_ : Nat} (h : divI A v Q U 0) (hA : A = a * 2 ^ by_) (hv : v = b * 2 ^ by_) (hb : 0 < b) : Q = a / b ∧ U / 2 ^ by_ = a % b := by
  obtain ⟨h1, h2⟩ := h
  rw [Nat.pow_zero, Nat.one_mul] at h1 h2
  have hp := Nat.two_pow_pos by_
  generalize 2 ^ by_ = p at *
  subst hA hv
  have hU : U / p < b := by rw [Nat.div_lt_iff_lt_mul hp]; exact h2
  have e1 : U = p * (U / p) := by
    have h3 := Nat.mod_add_div U p
    have h4 : U % p = 0 := by
      have h5 : (U + b * p * Q) % p = 0 := by rw [← h1]; exact Nat.mul_mod_left _ _
      rw [Nat.mul_right_comm, Nat.add_mul_mod_self_right] at h5
      exact h5
    omega
  have e2 : a = U / p + b * Q := by
    refine Nat.eq_of_mul_eq_mul_right hp ?_
    rw [h1, Nat.add_mul, Nat.mul_right_comm b Q p]
    congr 1
    rw [Nat.mul_comm]; exact e1
  have e3 : a / b = Q := by
    rw [e2, Nat.add_mul_div_left _ _ hb, Nat.div_eq_of_lt hU, Nat.zero_add]
  refine ⟨e3.symm, ?_⟩
  rw [e2, Nat.add_mul_mod_self_left, Nat.mod_eq_of_lt hU]
def gueI (u2 u1 u0 v1 v0 q r : Nat) : Prop := q * v1 + r = u2 * W + u1 ∧ ((u2 * W + u1) * W + u0) / (v1 * W + v0) ≤ q ∧ q < W
theorem gue_first {u2 u1 u0 v1 v0 : Nat} (h : u2 < v1) (h1 : u1 < W) (h0 : u0 < W) : gueI u2 u1 u0 v1 v0 ((u2 * W + u1) / v1) ((u2 * W + u1) % v1) := by
  have hv : 0 < v1 := by omega
  have e1 := Nat.mod_add_div (u2 * W + u1) v1
  have hV : 0 < v1 * W + v0 := by have := Nat.mul_pos hv W0; omega
  refine ⟨by rw [Nat.mul_comm]; omega, ?_, ?_⟩
  · rw [← Nat.lt_succ_iff, Nat.div_lt_iff_lt_mul hV]
    have h2 := Nat.lt_mul_div_succ (u2 * W + u1) hv
    have h3 : (u2 * W + u1 + 1) * W ≤ v1 * ((u2 * W + u1) / v1 + 1) * W := Nat.mul_le_mul_right _ h2
    rw [Nat.add_mul, Nat.one_mul] at h3
    have h4 : ((u2 * W + u1) / v1).succ * (v1 * W + v0) = v1 * ((u2 * W + u1) / v1 + 1) * W + ((u2 * W + u1) / v1 + 1) * v0 := by
      rw [Nat.mul_add, ← Nat.mul_assoc, Nat.mul_comm v1]
    rw [h4]
    omega
  · rw [Nat.div_lt_iff_lt_mul hv]
    have h2 : (u2 + 1) * W ≤ v1 * W := Nat.mul_le_mul_right _ h
    rw [Nat.add_mul, Nat.one_mul] at h2
    rw [Nat.mul_comm W]; omega
theorem gue_done {u2 u1 u0 v1 v0 q r : Nat} (h : gueI u2 u1 u0 v1 v0 q r) (hv : 0 < v1) (ht : q * v0 ≤ r * W + u0) : q = ((u2 * W + u1) * W + u0) / (v1 * W + v0) := by
  obtain ⟨h1, h2, _⟩ := h
  have hV : 0 < v1 * W + v0 := by have := Nat.mul_pos hv W0; omega
  refine Nat.le_antisymm ?_ h2
  rw [Nat.le_div_iff_mul_le hV, ← h1]
  have : q * (v1 * W + v0) = q * v1 * W + q * v0 := by rw [Nat.mul_add, Nat.mul_assoc]
  rw [this, Nat.add_mul]; omega
theorem gue_next {u2 u1 u0 v1 v0 q r : Nat} (h : gueI u2 u1 u0 v1 v0 q r) (hv : 0 < v1) (ht : r * W + u0 < q * v0) : 0 < q ∧ gueI u2 u1 u0 v1 v0 (q - 1) (r + v1) := by
  obtain ⟨h1, h2, h3⟩ := h
  have hq : 0 < q := by
    rcases Nat.eq_zero_or_pos q with c | c
    · rw [c, Nat.zero_mul] at ht; omega
    · exact c
  have hV : 0 < v1 * W + v0 := by have := Nat.mul_pos hv W0; omega
  obtain ⟨x, rfl⟩ : ∃ x, q = x + 1 := ⟨q - 1, by omega⟩
  refine ⟨hq, ?_, ?_, ?_⟩
  · rw [Nat.add_sub_cancel]; rw [Nat.add_mul, Nat.one_mul] at h1; omega
  · rw [Nat.add_sub_cancel, ← Nat.lt_succ_iff, Nat.div_lt_iff_lt_mul hV, ← h1]
    have : x.succ * (v1 * W + v0) = (x + 1) * v1 * W + (x + 1) * v0 := by rw [Nat.mul_add, Nat.mul_assoc]
    rw [this, Nat.add_mul ((x + 1) * v1)]; omega
  · omega
theorem gue_full {u0 v0 q r : Nat} (hq : q < W) (hv : v0 < W) (hr : W ≤ r) : q * v0 ≤ r * W + u0 := by
  have h1 : q * v0 ≤ W * W := Nat.mul_le_mul (by omega) (by omega)
  have h2 : W * W ≤ r * W := Nat.mul_le_mul_right _ hr
  omega
theorem two_words {p r u0 : Nat} (hu : u0 < W) : p ≤ r * W + u0 ↔ p / W < r ∨ (p / W = r ∧ p % W ≤ u0) := by
  have h := Nat.mod_add_div p W
  have h2 := Nat.mod_lt p W0
  constructor
  · intro h1
    rcases Nat.lt_trichotomy (p / W) r with c | c | c
    · exact Or.inl c
    · refine Or.inr ⟨c, ?_⟩
      rw [c, Nat.mul_comm W] at h; omega
    · have h3 : W * (r + 1) ≤ W * (p / W) := Nat.mul_le_mul_left _ c
      rw [Nat.mul_add, Nat.mul_comm W r] at h3; omega
  · rintro (c | ⟨c, d⟩)
    · have h3 : W * (p / W + 1) ≤ W * r := Nat.mul_le_mul_left _ c
      rw [Nat.mul_add, Nat.mul_comm W r] at h3; omega
    · rw [c, Nat.mul_comm W] at h; omega
theorem normed {b n s : Nat} (hn : nd W b = n + 1) (hs : nd 2 (dgt W b n) + s = 64) : b * 2 ^ s < W ^ (n + 1) ∧ W ^ (n + 1) ≤ 2 * (b * 2 ^ s) := by
  have hb : b < W ^ (n + 1) := by rw [← hn]; exact lt_nd W2
  have h1 := Nat.mod_add_div b (W ^ n)
  rw [top_w b n hb] at h1
  have h2 := Nat.mod_lt b (Nat.pow_pos (n := n) W0)
  have ht0 : dgt W b n ≠ 0 := by
    have := dgt_top (b := W) (n := b) W2 (fun c => by rw [c, nd_zero] at hn; omega)
    rwa [hn, Nat.add_sub_cancel] at this
  generalize dgt W b n = t at *
  have h3 : t < 2 ^ nd 2 t := lt_nd (by omega)
  have hnz : nd 2 t ≠ 0 := fun c => ht0 ((nd_eq_zero (by omega)).1 c)
  have h4 : 2 ^ (nd 2 t - 1) ≤ t := (pow_le_iff (by omega) _ _).2 (by omega)
  have h5 : 2 ^ nd 2 t = 2 ^ (nd 2 t - 1) * 2 := by rw [← Nat.pow_succ]; congr 1; omega
  have hW : 2 ^ nd 2 t * 2 ^ s = W := by rw [← Nat.pow_add, hs, W_eq]
  have h6 : (t + 1) * 2 ^ s ≤ W := by rw [← hW]; exact Nat.mul_le_mul_right _ h3
  have h7 : W ≤ 2 * t * 2 ^ s := by rw [← hW]; exact Nat.mul_le_mul_right _ (by rw [h5]; omega)
  have hp := Nat.two_pow_pos s
  constructor
  · have h8 : b < W ^ n * (t + 1) := by rw [Nat.mul_add]; omega
    have h9 : b * 2 ^ s < W ^ n * (t + 1) * 2 ^ s := (Nat.mul_lt_mul_right hp).2 h8
    rw [Nat.mul_assoc] at h9
    refine Nat.lt_of_lt_of_le h9 ?_
    rw [Nat.pow_succ]
    exact Nat.mul_le_mul_left _ h6
  · rw [Nat.pow_succ]
    have h8 : W ^ n * t ≤ b := Nat.le_trans (Nat.le_add_left _ _) (Nat.le_of_eq h1)
    have h9 : W ^ n * W ≤ W ^ n * (2 * t * 2 ^ s) := Nat.mul_le_mul_left _ h7
    refine Nat.le_trans h9 ?_
    have h10 : W ^ n * (2 * t * 2 ^ s) = 2 * (W ^ n * t * 2 ^ s) := by
      rw [Nat.mul_assoc 2, Nat.mul_left_comm, Nat.mul_assoc (W ^ n)]
    rw [h10]
    exact Nat.mul_le_mul_left _ (Nat.mul_le_mul_right _ h8)
end Nt
namespace Go.Proofs.YtajcapliokblfaaDoor
open Go Go.RowKit Nt
theorem addc64 (x y : Nat) : ∃ s c : Nat, (∀ w, (callFunc 69 #[.int .u64 (x : Nat), .int .u64 (y : Nat), .int .u64 0]).run Tryd.prog w = .ok (.value (.tuple #[.int .u64 (s : Nat), .int .u64 (c : Nat)])) w) ∧
    s = (x + y) % 18446744073709551616 ∧ c = (x + y) / 18446744073709551616 :=
  ⟨_, _, fun w => Tryd.bits_Add64 x y 0 (by omega) w, by rw [Nat.add_zero], by rw [Nat.add_zero]⟩
theorem mul_two (x y : Nat) (hx : x < 18446744073709551616) (hy : y < 18446744073709551616) : ∃ hi lo : Nat, (∀ w, Calls Tryd.prog 68 #[.int .u64 (x : Nat), .int .u64 (y : Nat)] w fun e w' => e = .returned (.tuple #[.int .u64 (hi : Nat), .int .u64 (lo : Nat)]) ∧ w = w') ∧
    hi = x * y / W ∧ lo = x * y % W := by
  refine ⟨x * y / 18446744073709551616, x * y % 18446744073709551616, fun w => ?_, by rw [W_eq], by rw [W_eq]⟩
  refine (Tryd.bits_Mul64 x y hx hy w).mono ?_
  rintro e w' ⟨rfl, rfl⟩; exact ⟨rfl, rfl⟩
theorem div_two (hi lo y : Nat) (hhy : hi < y) (hy : y < 18446744073709551616) (hlo : lo < 18446744073709551616) : ∃ q r : Nat, (∀ w, Calls Tryd.prog 75 #[.int .u64 (hi : Nat), .int .u64 (lo : Nat), .int .u64 (y : Nat)] w fun e w' => e = .returned (.tuple #[.int .u64 (q : Nat), .int .u64 (r : Nat)]) ∧ ∃ n, w' = w.drewN n) ∧
    q = (hi * W + lo) / y ∧ r = (hi * W + lo) % y :=
  ⟨_, _, fun w => Div64_c hi lo y w hhy hy hlo, by rw [W_eq], by rw [W_eq]⟩
set_option maxRecDepth 100000 in
theorem Digit_top (u2 u1 u0 v1 v0 : Nat) (w : World) (h : v1 ≤ u2) :
    Calls Tryd.prog 87 #[.int .u64 (u2 : Nat), .int .u64 (u1 : Nat), .int .u64 (u0 : Nat), .int .u64 (v1 : Nat), .int .u64 (v0 : Nat)] w fun e w' => e = .returned (.int .u64 (guessN u2 u1 u0 v1 v0 : Nat)) ∧ Drawn w w' := by
  have hg : ((guessN u2 u1 u0 v1 v0 : Nat) : Int) = 18446744073709551615 := by unfold guessN; rw [if_pos h, W_eq]; rfl
  have HG := Lib.hid hg
  have h2 : (v1 : Int) ≤ (u2 : Int) := by omega
  clear hg
  go_enter Tryd.func87, Tryd.ntmps87
  go_wp2_with fail
  go_ret
  exact ⟨by rw [HG.out]; rfl, Drawn.refl _⟩
set_option maxRecDepth 100000 in
set_option maxHeartbeats 1000000 in
theorem Digit_c (u2 u1 u0 v1 v0 : Nat) (w : World) (h : u2 < v1) (hv1 : v1 < 18446744073709551616) (hu1 : u1 < 18446744073709551616) (hu0 : u0 < 18446744073709551616) (hv0 : v0 < 18446744073709551616) :
    Calls Tryd.prog 87 #[.int .u64 (u2 : Nat), .int .u64 (u1 : Nat), .int .u64 (u0 : Nat), .int .u64 (v1 : Nat), .int .u64 (v0 : Nat)] w fun e w' => e = .returned (.int .u64 (guessN u2 u1 u0 v1 v0 : Nat)) ∧ Drawn w w' := by
  have hg : guessN u2 u1 u0 v1 v0 = ((u2 * W + u1) * W + u0) / (v1 * W + v0) := by unfold guessN; rw [if_neg (by omega)]
  obtain ⟨q0, r0, hdiv, hq0, hr0⟩ := div_two u2 u1 v1 h hv1 hu1
  have hw := W_eq
  have hfirst := gue_first (u2 := u2) (u1 := u1) (u0 := u0) (v1 := v1) (v0 := v0) h (by omega) (by omega)
  rw [← hq0, ← hr0] at hfirst
  have hr0v : r0 < v1 := by rw [hr0]; exact Nat.mod_lt _ (by omega)
  have HG := Lib.hid hg
  have KD := Lib.hid hdiv
  have HF := Lib.hid hfirst
  have HR0 := Lib.hid (show r0 < 18446744073709551616 by omega)
  have HV1 := Lib.hid hv1
  have HV1P := Lib.hid (show 0 < v1 by omega)
  have HV0 := Lib.hid hv0
  have HU0 := Lib.hid hu0
  have h2 : ¬ (v1 : Int) ≤ (u2 : Int) := by omega
  clear hg hdiv hq0 hr0 hw hfirst hr0v hv1 hu1 hu0 hv0 h
  go_enter Tryd.func87, Tryd.ntmps87
  go_wp2_with fail
  refine (KD.out _).mono ?_
  rintro e w1 ⟨rfl, nn, rfl⟩
  have hdr : Drawn w (w.drewN nn) := ⟨nn, rfl⟩
  generalize w.drewN nn = w1 at *
  have HDR := Lib.hid hdr
  clear hdr
  go_wp2_with fail
  go_loopw [11, 12] (fun x y wr => ∃ q r : Nat, x = .int .u64 q ∧ y = .int .u64 r ∧ Hid (gueI u2 u1 u0 v1 v0 q r) ∧ Hid (r < 18446744073709551616) ∧ w1 = wr) (fun x _ _ => (intOf x).toNat)
  case atStart => exact ⟨q0, r0, rfl, rfl, HF, HR0, rfl⟩
  case round =>
    obtain ⟨q, r, rfl, rfl, hgu, hr, rfl⟩ := hrel
    have hqW : q < 18446744073709551616 := by have := hgu.out.2.2; have := W_eq; omega
    obtain ⟨hi, lo, hmul, hhi, hlo⟩ := mul_two q v0 hqW HV0.out
    have KM := Lib.hid hmul
    have htw := two_words (p := q * v0) (r := r) (u0 := u0) (by have := HU0.out; have := W_eq; omega)
    rw [← hhi, ← hlo] at htw
    by_cases ht : q * v0 ≤ r * W + u0
    · have hq := gue_done hgu.out HV1P.out ht
      have HQ := Lib.hid (HG.out.trans hq.symm)
      have hc := htw.1 ht
      have hc2 : hi < r ∨ (¬ hi < r ∧ hi = r ∧ lo ≤ u0) := by
        rcases hc with c | ⟨c, d⟩
        · exact Or.inl c
        · exact Or.inr ⟨by omega, c, d⟩
      clear hmul htw ht hq hc hhi hlo hqW
      rcases hc2 with c | ⟨c1, rfl, c3⟩
      all_goals
        go_wp2_with fail
        refine (KM.out _).mono ?_
        rintro e w2 ⟨rfl, rfl⟩
        go_wp2_with fail
        go_ret
        exact ⟨by rw [HQ.out]; rfl, HDR.out⟩
    · obtain ⟨hq0, hnext⟩ := gue_next hgu.out HV1P.out (by omega)
      have hc2 : ¬ hi < r ∧ (¬ hi = r ∨ (hi = r ∧ ¬ lo ≤ u0)) := by
        refine ⟨fun c => ht (htw.2 (Or.inl c)), ?_⟩
        by_cases c : hi = r
        · exact Or.inr ⟨c, fun d => ht (htw.2 (Or.inr ⟨c, d⟩))⟩
        · exact Or.inl c
      obtain ⟨s, c, hadd, hs, hcc⟩ := addc64 r v1
      obtain ⟨x, rfl⟩ : ∃ x, q = x + 1 := ⟨q - 1, by omega⟩
      rw [Nat.add_sub_cancel] at hnext
      have hwx : IntKind.u64.wrap ((x : Int) + 1 - 1) = (x : Int) := by rw [IntKind.wrap_u64]; omega
      have hwx2 : IntKind.u64.wrap (x : Int) = (x : Int) := by rw [IntKind.wrap_u64]; omega
      have hrr := hr.out
      have hvv := HV1.out
      obtain ⟨hnr, hc3⟩ := hc2
      have HN := Lib.hid hnext
      by_cases hcz : c = 0
      · have hsv : s = r + v1 := by omega
        have HS := Lib.hid hsv
        have HSB : Hid (s < 18446744073709551616) := Lib.hid (by omega)
        subst hcz
        clear hmul htw ht hhi hlo hs hcc hrr hvv hqW hnext hq0 hsv
        rcases hc3 with c1 | ⟨rfl, c2⟩
        case' inl =>
          have c1' : ((hi : Int) == (r : Int)) = false := by rw [beq_eq_false_iff_ne]; omega
        all_goals
          go_wp2_with fail
          refine (KM.out _).mono ?_
          rintro e w2 ⟨rfl, rfl⟩
          go_wp2_with (first | simp only [hadd])
          go_roundw
          case rel => exact ⟨x, s, rfl, rfl, by rw [HS.out]; exact HN, HSB, trivial⟩
          case measure => simp [intOf]; try omega
      · have hfull := gue_full (u0 := u0) (q := x) (v0 := v0) (r := r + v1) (by have := W_eq; omega) (by have := W_eq; have := HV0.out; omega) (by have := W_eq; omega)
        have hq := gue_done hnext HV1P.out hfull
        have HQ := Lib.hid (HG.out.trans hq.symm)
        have hcn : (((c : Nat) : Int) != 0) = true := by rw [bne_iff_ne]; omega
        have HC := Lib.hid hcz
        clear hmul htw ht hhi hlo hs hcc hrr hvv hqW hnext hq0 hfull hq hcz
        rcases hc3 with c1 | ⟨rfl, c2⟩
        case' inl =>
          have c1' : ((hi : Int) == (r : Int)) = false := by rw [beq_eq_false_iff_ne]; omega
        all_goals
          go_wp2_with fail
          refine (KM.out _).mono ?_
          rintro e w2 ⟨rfl, rfl⟩
          go_wp2_with (first | simp only [hadd])
          go_ret
          exact ⟨by rw [HQ.out]; rfl, HDR.out⟩
theorem Digit_all (u2 u1 u0 v1 v0 : Nat) (w : World) (hv1 : v1 < 18446744073709551616) (hu1 : u1 < 18446744073709551616) (hu0 : u0 < 18446744073709551616) (hv0 : v0 < 18446744073709551616) :
    Calls Tryd.prog 87 #[.int .u64 (u2 : Nat), .int .u64 (u1 : Nat), .int .u64 (u0 : Nat), .int .u64 (v1 : Nat), .int .u64 (v0 : Nat)] w fun e w' => e = .returned (.int .u64 (guessN u2 u1 u0 v1 v0 : Nat)) ∧ Drawn w w' := by
  by_cases h : v1 ≤ u2
  · exact Digit_top u2 u1 u0 v1 v0 w h
  · exact Digit_c u2 u1 u0 v1 v0 w (by omega) hv1 hu1 hu0 hv0
end Go.Proofs.YtajcapliokblfaaDoor
namespace Go.Proofs.YtajcapliokblfaaDoor
open Go Go.RowKit Nt
theorem less_words (q y c x b : Nat) (hq : q < 18446744073709551616) (hy : y < 18446744073709551616) (hc : c < 18446744073709551616) (hx : x < 18446744073709551616) (hb : b ≤ 1) : ∃ hi lo lo2 c1 cy d b2 : Nat,
    (∀ w, Calls Tryd.prog 68 #[.int .u64 (q : Nat), .int .u64 (y : Nat)] w fun e w' => e = .returned (.tuple #[.int .u64 (hi : Nat), .int .u64 (lo : Nat)]) ∧ w = w') ∧
    (∀ w, (callFunc 69 #[.int .u64 (lo : Nat), .int .u64 (c : Nat), .int .u64 0]).run Tryd.prog w = .ok (.value (.tuple #[.int .u64 (lo2 : Nat), .int .u64 (c1 : Nat)])) w) ∧
    IntKind.u64.wrap ((hi : Int) + (c1 : Int)) = (cy : Int) ∧
    (∀ w, (callFunc 71 #[.int .u64 (x : Nat), .int .u64 (lo2 : Nat), .int .u64 (b : Nat)]).run Tryd.prog w = .ok (.value (.tuple #[.int .u64 (d : Nat), .int .u64 (b2 : Nat)])) w) ∧
    d < 18446744073709551616 ∧ cy < 18446744073709551616 ∧ b2 ≤ 1 ∧ cy = (q * y + c) / W ∧ d + (q * y + c) % W + b = x + W * b2 := by
  have hp := prod_lt hq hy
  have h1 := Tryd.bits_Add64 (q * y % 18446744073709551616) c 0 (by omega)
  have hl := Nat.mod_lt (q * y % 18446744073709551616 + c + 0) (show 0 < 18446744073709551616 by omega)
  have h2 := Tryd.bits_Sub64 x ((q * y % 18446744073709551616 + c + 0) % 18446744073709551616) b hb
  refine ⟨q * y / 18446744073709551616, q * y % 18446744073709551616, (q * y % 18446744073709551616 + c + 0) % 18446744073709551616, (q * y % 18446744073709551616 + c + 0) / 18446744073709551616,
    q * y / 18446744073709551616 + (q * y % 18446744073709551616 + c + 0) / 18446744073709551616, _, _, ?_, h1, ?_, h2, ?_, ?_, ?_, ?_, ?_⟩
  · intro w
    refine (Tryd.bits_Mul64 q y hq hy w).mono ?_
    rintro e w' ⟨rfl, rfl⟩; exact ⟨rfl, rfl⟩
  · refine wadd_nat rfl ?_
    generalize q * y = p at *; omega
  · exact Nat.mod_lt _ (by omega)
  · generalize q * y = p at *; omega
  · split <;> omega
  · rw [W_eq]; generalize q * y = p at *; omega
  · rw [W_eq]
    have e : (q * y % 18446744073709551616 + c + 0) % 18446744073709551616 = (q * y + c) % 18446744073709551616 := by generalize q * y = p at *; omega
    rw [e]
    have hm := Nat.mod_lt (q * y + c) (show 0 < 18446744073709551616 by omega)
    generalize (q * y + c) % 18446744073709551616 = m at *
    split <;> omega
def Only (g : Nat) (w w' : World) : Prop := ∀ x, x ≠ g → w'.heap[x]? = w.heap[x]?
theorem Only.refl (g : Nat) (w : World) : Only g w w := fun _ _ => rfl
theorem Only.set {g i : Nat} {w w' : World} (h : Only g w w') (u : Value) : Only g w (w'.setCell ⟨g, i, none⟩ u) := fun x hx => (Below.heap_setCell w' ⟨g, i, none⟩ u x hx).trans (h x hx)
theorem Only.blk {g x : Nat} {T : TypeId} {cs : Array Value} {w w' : World} (h : Only g w w') (hx : x ≠ g) (hb : Blk w x T cs) : Blk w' x T cs := (h x hx).trans hb
def LessPost (g k n L U v q : Nat) (T : TypeId) (w : World) (e : Ending) (w' : World) : Prop :=
  ∃ (Z b : Nat) (bb : Bool), e = .returned (.bool bb) ∧ (bb = decide (b ≠ 0)) ∧ b ≤ 1 ∧ Blk w' g T (wcells Z L) ∧ Only g w w' ∧ Below g w w' ∧ Z < W ^ (k + n + 1) ∧ Z + W ^ k * (q * v) = U + W ^ (k + n + 1) * b
set_option maxRecDepth 100000 in
set_option maxHeartbeats 2000000 in
theorem Less_c (g k n L U v q cp cv : Nat) (Av : Option Addr) (w : World) (hb : Blk w g 67 (wcells U L)) (hL : k + n + 1 ≤ L) (hL2 : L ≤ 1000000000) (hv : Row w g Av v n) (hvn : v < W ^ n) (hq : q < 18446744073709551616) (hU : U < W ^ (k + n + 1)) (hcp : n + 1 ≤ cp) :
    Calls Tryd.prog 88 #[.slice (some ⟨g, k, none⟩) (n + 1) cp, .slice Av n cv, .int .u64 (q : Nat)] w (LessPost g k n L U v q 67 w) := by
  have HB := Lib.hid hb
  have HV := Lib.hid hv
  have HVN := Lib.hid hvn
  have HQ := Lib.hid hq
  have HU := Lib.hid hU
  have HL := Lib.hid hL
  have hn : n ≤ 1000000000 := by omega
  have HL2 := Lib.hid hL2
  have HCP := Lib.hid hcp
  clear hb hv hvn hq hU hL hL2 hcp
  go_enter Tryd.func88, Tryd.ntmps88
  go_wp2_with fail
  go_loopw [7, 8, 16] (fun c b i wr => ∃ (j Z cc bb : Nat), j ≤ n ∧ i = .int .i64 j ∧ c = .int .u64 cc ∧ b = .int .u64 bb ∧ Hid (cc < 18446744073709551616 ∧ bb ≤ 1) ∧ Hid (subI U v q k j Z cc bb) ∧ Hid (Z < W ^ (k + n + 1)) ∧ Hid (Blk wr g 67 (wcells Z L)) ∧ Hid (Only g w wr) ∧ Below g w wr) (fun _ _ i _ => n - (intOf i).toNat)
  case atStart => exact ⟨0, U, 0, 0, Nat.zero_le _, rfl, rfl, rfl, Lib.hid ⟨by omega, by omega⟩, Lib.hid (subI_first U v q k), HU, HB, Lib.hid (Only.refl _ _), Below.refl _ _⟩
  case round =>
    obtain ⟨j, Z, cc, bb, hj, rfl, rfl, rfl, hcb, hsub, hZ, hblk, hon, hbw⟩ := hrel
    by_cases hlt : j < n
    · obtain ⟨gv, rfl, hgv, hcv⟩ := HV.out.at_ hlt
      have hcv2 := (hbw.cell (p := ⟨gv, j, none⟩) hgv).trans hcv
      have hcz := hblk.out.cell (k + j)
      rw [wcells_get _ _ _ (by have := HL.out; omega)] at hcz
      have hfz := hblk.out.frozen (k + j)
      obtain ⟨hi, lo, lo2, c1, cy, d, b2, hmul, ha1, hw1, hs1, hd, hcy, hb2, hcye, hde⟩ := less_words q (dgt W v j) cc (dgt W Z (k + j)) bb HQ.out (wd_lt _ _) hcb.out.1 (wd_lt _ _) hcb.out.2
      have HN := Lib.hid (subI_step hsub.out rfl hde)
      rw [← hcye] at HN
      have HZ := Lib.hid (put_lt W2 (by rw [W_eq]; exact hd) hZ.out (show k + j < k + n + 1 by omega))
      have HB1 := hblk.out.set_ (k + j) (.int .u64 (d : Nat))
      rw [wcells_set _ _ _ _ hd] at HB1
      have HB2 := Lib.hid HB1
      have hb1 := hbw.setCell (p := ⟨g, k + j, none⟩) (Nat.le_refl _) (.int .u64 (d : Nat))
      have HON := Lib.hid (hon.out.set (i := k + j) (.int .u64 (d : Nat)))
      have KM := Lib.hid hmul
      have HCB : Hid (cy < 18446744073709551616 ∧ b2 ≤ 1) := Lib.hid ⟨hcy, hb2⟩
      have HD := Lib.hid hd
      generalize dgt W v j = y at *
      generalize dgt W Z (k + j) = x at *
      clear hmul hcv hcye hde HB1 hd hcy hb2
      go_wp2_with fail
      refine (KM.out _).mono ?_
      rintro e w2 ⟨rfl, rfl⟩
      go_wp2_with (first | simp only [ha1] | simp only [hs1])
      go_roundw
      case rel => exact ⟨j + 1, _, cy, b2, by omega, by go_num, rfl, rfl, HCB, HN, HZ, HB2, HON, hb1⟩
      case measure => simp [intOf]; omega
    · obtain rfl : j = n := by omega
      have hcz := hblk.out.cell (k + j)
      rw [wcells_get _ _ _ (by have := HL.out; omega)] at hcz
      have hfz := hblk.out.frozen (k + j)
      have hcb1 := hcb.out
      have hx := wd_lt Z (k + j)
      have h2 := Tryd.bits_Sub64 (dgt W Z (k + j)) cc bb hcb1.2
      obtain ⟨d, hd⟩ : ∃ d, d = (dgt W Z (k + j) + 18446744073709551616 - cc - bb) % 18446744073709551616 := ⟨_, rfl⟩
      obtain ⟨b2, hb2⟩ : ∃ b2, b2 = (if dgt W Z (k + j) < cc + bb then 1 else 0) := ⟨_, rfl⟩
      rw [← hd, ← hb2] at h2
      have hd1 : d < 18446744073709551616 := by rw [hd]; exact Nat.mod_lt _ (by omega)
      have hb1' : b2 ≤ 1 := by rw [hb2]; split <;> omega
      have hvz : dgt W v j = 0 := dgt_of_lt W2 HVN.out (Nat.le_refl _)
      have hcw : cc % W = cc := Nat.mod_eq_of_lt (by rw [W_eq]; exact hcb1.1)
      have hcd : cc / W = 0 := Nat.div_eq_of_lt (by rw [W_eq]; exact hcb1.1)
      have hde : d + (q * dgt W v j + cc) % W + bb = dgt W Z (k + j) + W * b2 := by
        rw [hvz, Nat.mul_zero, Nat.zero_add, hcw, hd, hb2]
        generalize dgt W Z (k + j) = x at *
        rw [W_eq]
        split <;> omega
      have hstep := subI_step hsub.out rfl hde
      rw [hvz, Nat.mul_zero, Nat.zero_add, hcd] at hstep
      have hlast := subI_last hstep HVN.out
      have HZ := Lib.hid (put_lt W2 (by rw [W_eq]; exact hd1) hZ.out (show k + j < k + j + 1 by omega))
      have HB1 := hblk.out.set_ (k + j) (.int .u64 (d : Nat))
      rw [wcells_set _ _ _ _ hd1] at HB1
      have HB2 := Lib.hid HB1
      have hb1 := hbw.setCell (p := ⟨g, k + j, none⟩) (Nat.le_refl _) (.int .u64 (d : Nat))
      have HON := Lib.hid (hon.out.set (i := k + j) (.int .u64 (d : Nat)))
      have HLAST := Lib.hid hlast
      have HB1L := Lib.hid hb1'
      have hjj : j < j + 1 := by omega
      generalize dgt W Z (k + j) = x at *
      clear hd hb2 hd1 hvz hcw hcd hde hstep hlast HB1 hx hcb1 hb1'
      by_cases hz : b2 = 0
      · have hbf : ((b2 : Int) != 0) = false := by subst hz; rfl
        have HZ2 := Lib.hid hz
        clear hz
        go_wp2_with (first | simp only [h2])
        go_ret
        exact ⟨_, b2, _, rfl, by rw [HZ2.out]; rfl, HB1L.out, HB2.out, HON.out, hb1, HZ.out, HLAST.out⟩
      · have hbf : ((b2 : Int) != 0) = true := by rw [bne_iff_ne]; omega
        have HZ2 := Lib.hid hz
        clear hz
        go_wp2_with (first | simp only [h2])
        go_ret
        exact ⟨_, b2, _, rfl, (decide_eq_true HZ2.out).symm, HB1L.out, HB2.out, HON.out, hb1, HZ.out, HLAST.out⟩
end Go.Proofs.YtajcapliokblfaaDoor
namespace Go.Proofs.YtajcapliokblfaaDoor
open Go Go.RowKit Nt
def BackPost (g k n L U v : Nat) (T : TypeId) (w : World) (e : Ending) (w' : World) : Prop :=
  ∃ (Z c : Nat), e = .returned (.tuple #[]) ∧ c ≤ 1 ∧ Blk w' g T (wcells Z L) ∧ Only g w w' ∧ Below g w w' ∧ Z < W ^ (k + n + 1) ∧ Z + W ^ (k + n + 1) * c = U + W ^ k * v
theorem back_words (x y c : Nat) (hx : x < 18446744073709551616) (hy : y < 18446744073709551616) (hc : c ≤ 1) : ∃ d c2 : Nat,
    (∀ w, (callFunc 69 #[.int .u64 (x : Nat), .int .u64 (y : Nat), .int .u64 (c : Nat)]).run Tryd.prog w = .ok (.value (.tuple #[.int .u64 (d : Nat), .int .u64 (c2 : Nat)])) w) ∧
    d < 18446744073709551616 ∧ c2 ≤ 1 ∧ d + W * c2 = x + y + c :=
  ⟨_, _, fun w => Tryd.bits_Add64 x y c hc w, Nat.mod_lt _ (by omega), by omega, by rw [W_eq]; omega⟩
set_option maxRecDepth 100000 in
set_option maxHeartbeats 2000000 in
theorem Back_c (g k n L U v cp cv : Nat) (Av : Option Addr) (w : World) (hb : Blk w g 67 (wcells U L)) (hL : k + n + 1 ≤ L) (hL2 : L ≤ 1000000000) (hv : Row w g Av v n) (hvn : v < W ^ n) (hU : U < W ^ (k + n + 1)) (hcp : n + 1 ≤ cp) :
    Calls Tryd.prog 89 #[.slice (some ⟨g, k, none⟩) (n + 1) cp, .slice Av n cv] w (BackPost g k n L U v 67 w) := by
  have HB := Lib.hid hb
  have HV := Lib.hid hv
  have HVN := Lib.hid hvn
  have HU := Lib.hid hU
  have HL := Lib.hid hL
  have hn : n ≤ 1000000000 := by omega
  have HL2 := Lib.hid hL2
  have HCP := Lib.hid hcp
  clear hb hv hvn hU hL hL2 hcp
  go_enter Tryd.func89, Tryd.ntmps89
  go_wp2_with fail
  go_loopw [4, 9] (fun c i wr => ∃ (j Z cc : Nat), j ≤ n ∧ i = .int .i64 j ∧ c = .int .u64 cc ∧ Hid (cc ≤ 1) ∧ Hid (addI U v k j Z cc) ∧ Hid (Z < W ^ (k + n + 1)) ∧ Hid (Blk wr g 67 (wcells Z L)) ∧ Hid (Only g w wr) ∧ Below g w wr) (fun _ i _ => n - (intOf i).toNat)
  case atStart => exact ⟨0, U, 0, Nat.zero_le _, rfl, rfl, Lib.hid (by omega), Lib.hid (addI_first U v k), HU, HB, Lib.hid (Only.refl _ _), Below.refl _ _⟩
  case round =>
    obtain ⟨j, Z, cc, hj, rfl, rfl, hcb, hadd, hZ, hblk, hon, hbw⟩ := hrel
    by_cases hlt : j < n
    · obtain ⟨gv, rfl, hgv, hcv⟩ := HV.out.at_ hlt
      have hcv2 := (hbw.cell (p := ⟨gv, j, none⟩) hgv).trans hcv
      have hcz := hblk.out.cell (k + j)
      rw [wcells_get _ _ _ (by have := HL.out; omega)] at hcz
      have hfz := hblk.out.frozen (k + j)
      obtain ⟨d, c2, ha1, hd, hc2, hde⟩ := back_words (dgt W Z (k + j)) (dgt W v j) cc (wd_lt _ _) (wd_lt _ _) hcb.out
      have HN := Lib.hid (addI_step hadd.out hde)
      have HZ := Lib.hid (put_lt W2 (by rw [W_eq]; exact hd) hZ.out (show k + j < k + n + 1 by omega))
      have HB1 := hblk.out.set_ (k + j) (.int .u64 (d : Nat))
      rw [wcells_set _ _ _ _ hd] at HB1
      have HB2 := Lib.hid HB1
      have hb1 := hbw.setCell (p := ⟨g, k + j, none⟩) (Nat.le_refl _) (.int .u64 (d : Nat))
      have HON := Lib.hid (hon.out.set (i := k + j) (.int .u64 (d : Nat)))
      have HC2 := Lib.hid hc2
      generalize dgt W v j = y at *
      generalize dgt W Z (k + j) = x at *
      clear hcv hde HB1 hd hc2
      go_wp2_with (first | simp only [ha1])
      go_roundw
      case rel => exact ⟨j + 1, _, c2, by omega, by go_num, rfl, HC2, HN, HZ, HB2, HON, hb1⟩
      case measure => simp [intOf]; omega
    · obtain rfl : j = n := by omega
      have hcz := hblk.out.cell (k + j)
      rw [wcells_get _ _ _ (by have := HL.out; omega)] at hcz
      have hfz := hblk.out.frozen (k + j)
      have hx := wd_lt Z (k + j)
      have hcb1 := hcb.out
      obtain ⟨d, hd⟩ : ∃ d, d = (dgt W Z (k + j) + cc) % 18446744073709551616 := ⟨_, rfl⟩
      obtain ⟨c2, hc2⟩ : ∃ c2, c2 = (dgt W Z (k + j) + cc) / 18446744073709551616 := ⟨_, rfl⟩
      have hd1 : d < 18446744073709551616 := by rw [hd]; exact Nat.mod_lt _ (by omega)
      have hvz : dgt W v j = 0 := dgt_of_lt W2 HVN.out (Nat.le_refl _)
      have hde : d + W * c2 = dgt W Z (k + j) + dgt W v j + cc := by
        rw [hvz, hd, hc2]
        generalize dgt W Z (k + j) = x at *
        rw [W_eq]; omega
      have hlast := addI_last (addI_step hadd.out hde) HVN.out
      have hw : IntKind.u64.wrap ((dgt W Z (k + j) : Nat) + (cc : Nat) : Int) = (d : Int) := by rw [IntKind.wrap_u64]; omega
      have HZ := Lib.hid (put_lt W2 (by rw [W_eq]; exact hd1) hZ.out (show k + j < k + j + 1 by omega))
      have HB1 := hblk.out.set_ (k + j) (.int .u64 (d : Nat))
      rw [wcells_set _ _ _ _ hd1] at HB1
      have HB2 := Lib.hid HB1
      have hb1 := hbw.setCell (p := ⟨g, k + j, none⟩) (Nat.le_refl _) (.int .u64 (d : Nat))
      have HON := Lib.hid (hon.out.set (i := k + j) (.int .u64 (d : Nat)))
      have HLAST := Lib.hid hlast
      have HC2 := Lib.hid (show c2 ≤ 1 by omega)
      have hjj : j < j + 1 := by omega
      generalize dgt W Z (k + j) = x at *
      clear hd hc2 hd1 hvz hde hlast HB1 hx hcb1
      go_wp2_with fail
      go_end0
      exact ⟨_, c2, rfl, HC2.out, HB2.out, HON.out, hb1, HZ.out, HLAST.out⟩
end Go.Proofs.YtajcapliokblfaaDoor
namespace Go.Proofs.YtajcapliokblfaaDoor
open Go Go.RowKit Nt
@[irreducible] def KA : Nat := 9223372036854775808
@[irreducible] def KB : Nat := 10
@[irreducible] def KP : Nat := 92233720368547758080
theorem natS_one {n : Nat} (h0 : 1 ≤ n) (h : n < 256) : natS n = ⟨#[UInt8.ofNat n]⟩ := by
  have e : nd 256 n = 1 := nd_unique (b := 256) (k := 0) (by omega) (by simpa using h0) (by simpa using h)
  rw [natS_def, e]
  have : dl 256 n 1 = [n] := by
    unfold dl; simp [List.range_succ, dgt_def, Nat.mod_eq_of_lt h]
  rw [this]; rfl
def KL : List Nat := [0, 8, 0, 8, 5, 7, 7, 4, 5, 8, 6, 3, 0, 2, 7, 3, 3, 2, 2, 9]
end Go.Proofs.YtajcapliokblfaaDoor
namespace Go.Proofs.YtajcapliokblfaaDoor
open Go Go.RowKit Nt
theorem wcells_splice (U L l : Nat) (hU : U < W ^ l) (hl : l ≤ L) :
    (splice ((dl W 0 L).map (fun (x : Nat) => Value.int .u64 (x : Int))) 0 ((dl W U l).map (fun (x : Nat) => Value.int .u64 (x : Int)))).toArray = wcells U L := by
  unfold wcells splice
  congr 1
  apply List.ext_getElem?
  intro j
  rw [List.take_zero, List.nil_append, List.length_map, dl_length, Nat.zero_add]
  by_cases h : j < l
  · rw [List.getElem?_append_left (by rw [List.length_map, dl_length]; exact h), List.getElem?_map, List.getElem?_map, dl_get? _ _ _ _ h, dl_get? _ _ _ _ (by omega)]
  · rw [List.getElem?_append_right (by rw [List.length_map, dl_length]; omega), List.length_map, dl_length, List.getElem?_drop, List.getElem?_map, List.getElem?_map, show l + (j - l) = j by omega]
    by_cases h2 : j < L
    · rw [dl_get? _ _ _ _ h2, dl_get? _ _ _ _ h2, dgt_of_lt W2 hU (by omega)]
      rw [dgt_def, Nat.zero_div, Nat.zero_mod]
    · rw [List.getElem?_eq_none (by rw [dl_length]; omega), List.getElem?_eq_none (by rw [dl_length]; omega)]
theorem quo_put {k Q v M : Nat} (hv : v < W) (h : W ^ (k + 1) * Q < W ^ M) (hk : k < M) : put W (W ^ (k + 1) * Q) k v = W ^ k * (v + W * Q) ∧ W ^ k * (v + W * Q) < W ^ M := by
  have hd : dgt W (W ^ (k + 1) * Q) k = 0 := by
    rw [dgt_def, Nat.pow_succ, Nat.mul_assoc, Nat.mul_div_cancel_left _ (Nat.pow_pos W0), Nat.mul_mod_right]
  have h1 := put_eq (b := W) (W ^ (k + 1) * Q) k v W0
  rw [hd, Nat.mul_zero, Nat.add_zero] at h1
  have e : put W (W ^ (k + 1) * Q) k v = W ^ k * (v + W * Q) := by
    rw [h1, Nat.mul_add, Nat.pow_succ, Nat.mul_assoc]; omega
  exact ⟨e, by rw [← e]; exact put_lt W2 hv h hk⟩
theorem made_wc (L : Nat) : madeCells (Value.cells (.int .u64 0)) (L * 1) = wcells 0 L := by rw [Nat.mul_one]; exact wcells_made L
theorem div_start {a b s n la M : Nat} (hn : nd W b = n + 1) (hla : nd W a = la) (hs : nd 2 (dgt W b n) + s = 64) (hM : M + n = la) :
    divI (a * 2 ^ s) (b * 2 ^ s) 0 (a * 2 ^ s) M ∧ nd W (a * 2 ^ s) ≤ la + 1 ∧ nd W (b * 2 ^ s) = n + 1 := by
  obtain ⟨h1, h2⟩ := normed hn hs
  have ht0 : dgt W b n ≠ 0 := by
    have := dgt_top (b := W) (n := b) W2 (fun c => by rw [c, nd_zero] at hn; omega)
    rwa [hn, Nat.add_sub_cancel] at this
  have hnz : nd 2 (dgt W b n) ≠ 0 := fun c => ht0 ((nd_eq_zero (by omega)).1 c)
  have hp : 2 * 2 ^ s ≤ W := by
    rw [← Nat.pow_succ', W_eq, show (18446744073709551616 : Nat) = 2 ^ 64 by rfl]
    exact Nat.pow_le_pow_right (by omega) (by omega)
  have ha : a < W ^ la := by rw [← hla]; exact lt_nd W2
  have h3 : 2 * (a * 2 ^ s) < W ^ (la + 1) := by
    have e : 2 * (a * 2 ^ s) = a * (2 * 2 ^ s) := by rw [Nat.mul_left_comm]
    rw [e, Nat.pow_succ]
    exact Nat.lt_of_lt_of_le ((Nat.mul_lt_mul_right (by have := Nat.two_pow_pos s; omega)).2 ha) (Nat.mul_le_mul_left _ hp)
  refine ⟨⟨by rw [Nat.mul_zero, Nat.mul_zero, Nat.add_zero], ?_⟩, nd_le W2 (by omega), ?_⟩
  · have h4 : W ^ M * W ^ (n + 1) ≤ W ^ M * (2 * (b * 2 ^ s)) := Nat.mul_le_mul_left _ h2
    rw [← Nat.pow_add, show M + (n + 1) = la + 1 by omega, Nat.mul_left_comm] at h4
    omega
  · refine nd_unique W2 ?_ h1
    have h5 : W ^ n * 2 ≤ W ^ n * W := Nat.mul_le_mul_left _ W2
    rw [Nat.pow_succ] at h2
    omega
set_option maxRecDepth 100000 in
set_option maxHeartbeats 4000000 in
theorem Div_big (A A' : Option Addr) (c c' a b m la M : Nat) (w : World) (hn : nd W b = m + 2) (hab : b ≤ a) (hla : nd W a = la) (hM : M + (m + 1) = la) (hL : la ≤ 100000000) (hr : Row w w.heap.size A a la) (hr' : Row w w.heap.size A' b (m + 2)) :
    Calls Tryd.prog 65 #[.slice A la c, .slice A' (m + 2) c'] w (DivPost (a / b) (a % b) w) := by
  obtain ⟨i0, hi0, hz0, hz1, hz2⟩ := info_parts (P := Tryd.prog) (e := 67) (z := .int .u64 0) (size := 1) (bytes := 8) (by kernel_rfl)
  have hcmp := cmp_pos hab
  have hcm := Cmp_c A A' c c' a b w.heap.size w (by omega) (by omega) (by rw [hla]; exact hr) (by rw [hn]; exact hr')
  rw [hla, hn] at hcm
  have HCM := Lib.hid hcm
  obtain ⟨t, ht⟩ : ∃ t, t = dgt W b (m + 1) := ⟨_, rfl⟩
  have htw : t < 18446744073709551616 := by rw [ht]; exact wd_lt _ _
  have ht64 : nd 2 t ≤ 64 := nd_le (by omega) (by rw [show (2 : Nat) ^ 64 = 18446744073709551616 by rfl]; exact htw)
  obtain ⟨s, hs⟩ : ∃ s, nd 2 t + s = 64 := ⟨64 - nd 2 t, by omega⟩
  have KLZ : Hid (∀ w, Calls Tryd.prog 86 #[.int .u64 (t : Nat)] w fun e w' => e = .returned (.int .i64 (s : Nat)) ∧ w = w') := Lib.hid (fun w => by
    refine (Tryd.bits_LeadingZeros64 _ _ (by omega) (by omega)).mono ?_
    rintro e w' ⟨rfl, rfl⟩
    refine ⟨ret_int ?_, rfl⟩
    rw [Int.toNat_natCast, bitLen_nd htw]; omega)
  obtain ⟨hst, hla2, hnV⟩ := div_start (a := a) (b := b) (s := s) (n := m + 1) (la := la) (M := M) (by omega) hla (by rw [← ht]; exact hs) hM
  obtain ⟨hV1, hV2⟩ := normed (b := b) (n := m + 1) (s := s) (by omega) (by rw [← ht]; exact hs)
  have hsl : s / 64 ≤ 1 := by omega
  have hmla : m + 2 ≤ la := by rw [← hla, ← hn]; exact nd_mono W2 hab
  have KS1 : Hid (∀ (w : World), Row w w.heap.size A' b (m + 2) → Calls Tryd.prog 83 #[.slice A' (m + 2) c', .int .i64 (s : Nat)] w (NumPost (b * 2 ^ s) w)) := Lib.hid (fun w h => by
    have := Shl_c A' c' b s w.heap.size w (by omega) (by rw [hn]; exact h) (Nat.le_refl _)
    rwa [hn] at this)
  have KS2 : Hid (∀ (w : World), Row w w.heap.size A a la → Calls Tryd.prog 83 #[.slice A la c, .int .i64 (s : Nat)] w (NumPost (a * 2 ^ s) w)) := Lib.hid (fun w h => by
    have := Shl_c A c a s w.heap.size w (by omega) (by rw [hla]; exact h) (Nat.le_refl _)
    rwa [hla] at this)
  have hb0 : 0 < b := by
    rcases Nat.eq_zero_or_pos b with e | e
    · rw [e, nd_zero] at hn; omega
    · exact e
  have HEND : Hid (∀ Q U, divI (a * 2 ^ s) (b * 2 ^ s) Q U 0 → Q = a / b ∧ U / 2 ^ s = a % b) := Lib.hid (fun Q U h => divI_end h rfl rfl hb0)
  have hV0 : 0 < b * 2 ^ s := Nat.mul_pos hb0 (Nat.two_pow_pos s)
  have hU0 : a * 2 ^ s < W ^ nd W (a * 2 ^ s) := lt_nd W2
  obtain ⟨V, hV⟩ : ∃ V, V = b * 2 ^ s := ⟨_, rfl⟩
  obtain ⟨Ua, hUa⟩ : ∃ Ua, Ua = a * 2 ^ s := ⟨_, rfl⟩
  rw [← hV] at hst hnV hV1 hV2 KS1 HEND hV0
  rw [← hUa] at hst hla2 KS2 HEND hU0
  obtain ⟨l2, hl2⟩ : ∃ l2, l2 = nd W Ua := ⟨_, rfl⟩
  rw [← hl2] at hla2 hU0
  have hcb : Hid (∀ w' : World, (∀ p : Addr, p.block < w.heap.size → w'.cell? p = w.cell? p) → ∃ gb, A' = some ⟨gb, 0, none⟩ ∧ w'.cell? ⟨gb, m + 1, none⟩ = some (.int .u64 (t : Nat))) := Lib.hid (fun w' h => by
    obtain ⟨gb, e, hg, hc⟩ := hr'.at_ (k := m + 1) (by omega)
    exact ⟨gb, e, by rw [h _ hg, hc, ht]⟩)
  obtain ⟨n, hnn⟩ : ∃ n, n = m + 2 := ⟨_, rfl⟩
  obtain ⟨n1, hn1⟩ : ∃ n1, n1 = m + 1 := ⟨_, rfl⟩
  obtain ⟨L, hLL⟩ : ∃ L, L = la + 1 := ⟨_, rfl⟩
  rw [← hnn] at HCM KS1 ⊢
  rw [← hn1] at hcb
  have hn1I : (n : Int) - 1 = (n1 : Int) := by omega
  have hLI : (la : Int) + 1 = (L : Int) := by omega
  have hMI : (la : Int) - (n : Int) + 1 = (M : Int) := by omega
  have hne1 : ¬ n = 1 := by omega
  have hne : ((n : Int) == 1) = false := by rw [beq_eq_false_iff_ne]; omega
  have hn8 : n ≤ 100000000 := by omega
  have hM8 : M ≤ 100000000 := by omega
  have hL8 : L ≤ 100000001 := by omega
  have hn1lt : n1 < n := by omega
  have HR := Lib.hid hr
  have HR' := Lib.hid (show Row w w.heap.size A' b n by rw [hnn]; exact hr')
  have HNN := Lib.hid hnn
  have HN1 := Lib.hid hn1
  have HLL := Lib.hid hLL
  have HST := Lib.hid hst
  have HL2 := Lib.hid (show l2 ≤ L by omega)
  have HNV := Lib.hid hnV
  have HV1 := Lib.hid hV1
  have HV2 := Lib.hid hV2
  have HV0 := Lib.hid hV0
  have HU0 := Lib.hid hU0
  have HL2E := Lib.hid hl2
  have HMM := Lib.hid hM
  have hs64 : s ≤ 64 := by omega
  clear hcm hr hr' hla hn hM ht ht64 hs hst hla2 hnV hV1 hV2 hV0 hU0 hb0 hV hUa hl2 hnn hn1 hLL hsl htw hab hmla
  go_enter Tryd.func65, Tryd.ntmps65
  go_wp2
  go_step3
  go_wp2_with fail
  refine HCM.out.mono ?_
  rintro e w1 ⟨rfl, nn, rfl⟩
  have hd1 : ∀ p : Addr, p.block < w.heap.size → (w.drewN nn).cell? p = w.cell? p := fun _ _ => rfl
  obtain ⟨gb, rfl, hcell⟩ := hcb.out (w.drewN nn) hd1
  have hR1 := HR.out.drewN nn
  have hR2 := HR'.out.drewN nn
  have hbw1 : Below w.heap.size w (w.drewN nn) := below_drewN (Below.refl _ _) nn
  have hsz1 : (w.drewN nn).heap.size = w.heap.size := rfl
  rw [← hsz1] at hR1 hR2
  generalize w.drewN nn = w1 at *
  have HR1 := Lib.hid hR1
  have HR2 := Lib.hid hR2
  have HSZ1 := Lib.hid hsz1
  clear hR1 hR2 hsz1 hd1
  go_wp2_with fail
  refine (KLZ.out _).mono ?_
  rintro e w2 ⟨rfl, rfl⟩
  go_wp2_with fail
  refine (KS1.out _ HR2.out).mono ?_
  intro e w2 hp
  obtain ⟨A1, c1, rfl, hc1, hr1, hb1⟩ := hp.get
  rw [HNV.out, show m + 1 + 1 = n from HNN.out.symm] at hc1 hr1 ⊢
  have HRV := Lib.hid hr1
  have HRA := Lib.hid ((HR1.out.below hb1).more hb1.size)
  have hbw2 : Below w.heap.size w w2 := below_chain hbw1 hb1
  clear hr1 hp hcell
  obtain ⟨g, hg⟩ : ∃ g, g = w2.heap.size := ⟨_, rfl⟩
  have HG := Lib.hid hg
  go_wp2_with (at_make; (refine wpList_make_zero _ rfl _ _ _ rfl 67 i0 _ Tryd.underlying45 hi0 hz0 hz1 .i64 .i64 _ _ L rfl rfl (by omega) (by omega) (by rw [hz2]; omega) (by unfold maxLen; omega) ?_); rw [made_wc]; have HB0 := Lib.hid (Blk.new w2 67 (wcells 0 L)); have hbl : Below w2.heap.size w2 (w2.alloc (.cells (wcells 0 L) 67)) := (Below.refl _ _).alloc (Nat.le_refl _) _; generalize w2.alloc (.cells (wcells 0 L) 67) = w3 at *; rw [← hg] at HB0 hbl ⊢; clear hg)
  have HRA3 := Lib.hid ((HRA.out.below (by rw [← HG.out]; exact hbl)).more (by have := hbl.size; rw [← HG.out] at *; exact this))
  refine (KS2.out _ HRA3.out).mono ?_
  intro e w4 hp
  obtain ⟨A2, c2, rfl, hc2, hr2, hb2⟩ := hp.get
  rw [← HL2E.out] at hc2 hr2 ⊢
  have HRU := Lib.hid hr2
  have HB4 := Lib.hid (HB0.out.below hb2 HB0.out.lt)
  have hbg4 : Below g w2 w4 := hbl.trans (hb2.mono (by have := HB0.out.lt; omega))
  clear hr2 hp hbl hb2
  have hcur : ∃ cur : List Value, cur = (dl W 0 L).map (fun (x : Nat) => Value.int .u64 (x : Int)) ∧ cur.length = L := ⟨_, rfl, by rw [List.length_map, dl_length]⟩
  obtain ⟨cur, hcur, hcurl⟩ := hcur
  have hcs : ∃ cs : List Value, cs = (dl W Ua l2).map (fun (x : Nat) => Value.int .u64 (x : Int)) ∧ cs.length = l2 := ⟨_, rfl, by rw [List.length_map, dl_length]⟩
  obtain ⟨cs, hcs, hcsl⟩ := hcs
  have hblk : w4.heap[g]? = some (.cells cur.toArray 67 (0, 0)) := by rw [hcur]; exact HB4.out
  have hsplice : (splice cur 0 cs).toArray = wcells Ua L := by rw [hcur, hcs]; exact wcells_splice Ua L l2 HU0.out HL2.out
  have hone : ∀ v ∈ cs, v.oneCell' = true := fun v hv => by
    rw [hcs] at hv
    obtain ⟨y, _, rfl⟩ := List.mem_map.1 hv
    rfl
  have hpos : 0 < cs.length → ∃ ad, A2 = some ad ∧ ∀ j v, cs[j]? = some v → w4.cell? (ad.add j) = some v := fun hp => by
    obtain ⟨ga, e, hga, hc⟩ := HRU.out (by omega)
    refine ⟨⟨ga, 0, none⟩, e, fun j v hj => ?_⟩
    have hjl : j < l2 := by
      rcases Nat.lt_or_ge j l2 with h | h
      · exact h
      · rw [List.getElem?_eq_none (by omega)] at hj; cases hj
    rw [hcs, List.getElem?_map, dl_get? _ _ _ _ hjl] at hj
    rw [add_plain0, hc j hjl]; exact hj
  have HCUR := Lib.hid hcurl
  have HCS := Lib.hid hcsl
  have HBL := Lib.hid hblk
  have HSP := Lib.hid hsplice
  have HON := Lib.hid hone
  have HPO := Lib.hid hpos
  have hmin : Hid (cs.length = Nat.min l2 L) := Lib.hid (by rw [hcsl]; exact (Nat.min_eq_left HL2.out).symm)
  have hfit : Hid (0 + cs.length ≤ cur.length) := Lib.hid (by rw [hcsl, hcurl]; have := HL2.out; omega)
  clear hcur hcs hblk hsplice hone hpos hcurl hcsl
  have hsz4 : g ≤ w4.heap.size := by rw [HG.out]; exact hbg4.size
  go_upto_region 10 with (refine wpList_copy_splice (o := ⟨some 54, _, _, _, _, _⟩) rfl (.tmp 50) (.tmp 53) _ _ rfl 67 Tryd.underlying45 (by kernel_rfl) (some ⟨g, 0, none⟩) A2 L L l2 c2 rfl rfl g 0 cur 67 HBL.out cs hmin.out (fun hp => ⟨rfl, HPO.out hp⟩) hfit.out HON.out g w2 hbg4 (Nat.le_refl _) ?_; intro w5 hblk5 hbg5; have HB5 : Hid (Blk w5 g 67 (wcells Ua L)) := Lib.hid (by have h := hblk5.out; rw [HSP.out] at h; exact h); clear hblk5)
  go_wp2_with (at_make; (refine wpList_make_zero _ rfl _ _ _ rfl 67 i0 _ Tryd.underlying45 hi0 hz0 hz1 .i64 .i64 _ _ M rfl rfl (by omega) (by omega) (by rw [hz2]; omega) (by unfold maxLen; omega) ?_); rw [made_wc]; have HQ0 := Lib.hid (Blk.new w5 67 (wcells 0 M)); have HB6 := Lib.hid (HB5.out.alloc (.cells (wcells 0 M) 67)); have hbg6 : Below g w2 (w5.alloc (.cells (wcells 0 M) 67)) := hbg5.alloc (Nat.le_of_lt HB5.out.lt) _; obtain ⟨g2, hg2⟩ : ∃ g2, g2 = w5.heap.size := ⟨_, rfl⟩; have HGG : Hid (g < g2) := Lib.hid (by rw [hg2]; exact HB5.out.lt); rw [← hg2] at HQ0 ⊢; generalize w5.alloc (.cells (wcells 0 M) 67) = w6 at *; clear hg2)
  go_step3
  go_wp2_with fail
  go_loopw [12] (fun kk wr => ∃ (K U Q : Nat) (z : Int), K ≤ M ∧ kk = .int .i64 z ∧ Hid (z = (K : Int) - 1) ∧ Hid (divI Ua V Q U K) ∧ Hid (W ^ K * Q < W ^ M) ∧ Hid (Blk wr g 67 (wcells U L)) ∧ Hid (Blk wr g2 67 (wcells (W ^ K * Q) M)) ∧ Below g w2 wr) (fun kk _ => (intOf kk + 1).toNat)
  case atStart => exact ⟨M, Ua, 0, _, Nat.le_refl _, rfl, Lib.hid (by first | rfl | omega | go_num), HST, Lib.hid (by rw [Nat.mul_zero]; exact Nat.pow_pos W0), HB6, by rw [Nat.mul_zero]; exact HQ0, hbg6⟩
  case round =>
    obtain ⟨K, U, Q, z, hK, rfl, hz, hdi, hQM, hbu, hbq, hbw⟩ := hrel
    by_cases h0 : K = 0
    · subst h0
      obtain rfl : z = -1 := by have := hz.out; omega
      have hq1 := hbq.out
      have hq2 := hQM.out
      rw [Nat.pow_zero, Nat.one_mul] at hq1 hq2
      obtain ⟨e1, e2⟩ := HEND.out Q U hdi.out
      have hUV := hdi.out.2
      rw [Nat.pow_zero, Nat.one_mul] at hUV
      have hUL : U < W ^ L := Nat.lt_of_lt_of_le (Nat.lt_trans hUV HV1.out) (Nat.pow_le_pow_right W0 (by have := HLL.out; have := HMM.out; omega))
      have hndU := nd_le W2 hUL
      have hndQ := nd_le W2 hq2
      have KC1 := Lib.hid (Cut_c (some ⟨g2, 0, none⟩) M M Q (g2 + 1) wr hq2 (Nat.le_refl _) (by omega) (Row.of_blk hq1 (by omega)))
      have KC2 := Lib.hid (Cut_c (some ⟨g, 0, none⟩) L L U (g + 1) wr hUL (Nat.le_refl _) (by omega) (Row.of_blk hbu.out (by omega)))
      have hrU : Row wr wr.heap.size (some ⟨g, 0, none⟩) U (nd W U) := (Row.of_blk hbu.out hbu.out.lt).less hndU
      have KS3 := Lib.hid (Shr_c (some ⟨g, 0, none⟩) L U s wr.heap.size wr (by omega) (by omega) hrU (Nat.le_refl _))
      rw [e2] at KS3
      subst e1
      have HQ1 := Lib.hid hq1
      have HNQ := Lib.hid hndQ
      have HBW := Lib.hid (below_chain hbw2 (by have h := hbw; rw [HG.out] at h; exact h))
      clear hq1 hq2 hUV hUL hndU hrU hndQ
      go_wp2_with fail
      refine KC1.out.mono ?_
      rintro e w7 ⟨rfl, rfl⟩
      go_wp2_with fail
      refine KC2.out.mono ?_
      rintro e w7 ⟨rfl, rfl⟩
      go_wp2_with fail
      refine KS3.out.mono ?_
      intro e w8 hp
      obtain ⟨A8, c8, rfl, hc8, hr8, hb8⟩ := hp.get
      have HR8 := Lib.hid hr8
      clear hp hr8
      go_wp2_with fail
      rw [Exit.noGoto_ret]
      go_ret2
      exact ⟨_, _, _, _, rfl, HNQ.out, hc8, ((Row.of_blk HQ1.out HQ1.out.lt).less HNQ.out).below hb8 |>.more hb8.size, HR8.out, below_chain HBW.out hb8⟩
    · obtain ⟨k, rfl⟩ : ∃ k, K = k + 1 := ⟨K - 1, by omega⟩
      obtain rfl : z = (k : Int) := by have := hz.out; omega
      have hlt := divI_lt hdi.out
      have hV1 := HV1.out
      have hV2 := HV2.out
      have hgok := guess_ok (U := U) (v := V) (k := k) (m := m) hV1 hV2 hlt
      obtain ⟨p2, hp2⟩ : ∃ p2, p2 = k + m + 2 := ⟨_, rfl⟩
      obtain ⟨p1, hp1⟩ : ∃ p1, p1 = k + m + 1 := ⟨_, rfl⟩
      obtain ⟨p0, hp0⟩ : ∃ p0, p0 = k + m := ⟨_, rfl⟩
      rw [← hp2, ← hp1, ← hp0, ← HN1.out] at hgok
      have hnm := HNN.out
      have hn1m := HN1.out
      have hlL := HLL.out
      have hmM := HMM.out
      have hUW : U < W ^ (k + n + 1) := by
        refine Nat.lt_trans hlt ?_
        have e : W ^ (k + n + 1) = W * (W ^ k * W ^ n) := by rw [← Nat.pow_add, ← Nat.pow_succ']
        rw [e, hnm]
        exact (Nat.mul_lt_mul_left W0).2 ((Nat.mul_lt_mul_left (Nat.pow_pos W0)).2 hV1)
      have hu2 := hbu.out.cell p2
      have hu1 := hbu.out.cell p1
      have hu0 := hbu.out.cell p0
      rw [wcells_get _ _ _ (by omega)] at hu2 hu1 hu0
      obtain ⟨gv, e1, hgv, hv1⟩ := HRV.out.at_ (k := n1) (by omega)
      obtain ⟨gv', e1', hgv', hv0⟩ := HRV.out.at_ (k := m) (by omega)
      have hee : gv' = gv := by rw [e1] at e1'; injection e1' with h; injection h with h; exact h.symm
      subst hee
      subst e1
      have hv1' := (hbw.cell (p := ⟨gv', n1, none⟩) (by rw [HG.out]; exact hgv)).trans hv1
      have hv0' := (hbw.cell (p := ⟨gv', m, none⟩) (by rw [HG.out]; exact hgv)).trans hv0
      have KDG := fun w => Digit_all (dgt W U p2) (dgt W U p1) (dgt W U p0) (dgt W V n1) (dgt W V m) w (wd_lt _ _) (wd_lt _ _) (wd_lt _ _) (wd_lt _ _)
      obtain ⟨G, hG⟩ : ∃ G, G = guessN (dgt W U p2) (dgt W U p1) (dgt W U p0) (dgt W V n1) (dgt W V m) := ⟨_, rfl⟩
      rw [← hG] at hgok KDG
      obtain ⟨hGW, hGq⟩ := hgok
      have HGQ := Lib.hid hGq
      have HGW := Lib.hid hGW
      have hG64 : G < 18446744073709551616 := by rw [← W_eq]; exact hGW
      have KD := Lib.hid KDG
      have i2 : (k : Int) + (n : Int) = (p2 : Int) := by omega
      have i1 : (p2 : Int) - 1 = (p1 : Int) := by omega
      have i0 : (p2 : Int) - 2 = (p0 : Int) := by omega
      have in2 : (n : Int) - 2 = (m : Int) := by omega
      have hw2 : IntKind.i64.wrap ((k : Int) + (n : Int)) = (p2 : Int) := by rw [IntWalk.i64_in _ (by omega)]; exact i2
      have hw1 : IntKind.i64.wrap ((p2 : Int) - 1) = (p1 : Int) := by rw [IntWalk.i64_in _ (by omega)]; exact i1
      have hw0 : IntKind.i64.wrap ((p2 : Int) - 2) = (p0 : Int) := by rw [IntWalk.i64_in _ (by omega)]; exact i0
      have hwn1 : IntKind.i64.wrap ((n : Int) - 1) = (n1 : Int) := by rw [IntWalk.i64_in _ (by omega)]; exact hn1I
      have hwn2 : IntKind.i64.wrap ((n : Int) - 2) = (m : Int) := by rw [IntWalk.i64_in _ (by omega)]; exact in2
      have b2 : p2 < L := by omega
      have b1 : p1 < L := by omega
      have b0 : p0 < L := by omega
      have bn1 : n1 < n := by omega
      have bn0 : m < n := by omega
      have HUW := Lib.hid hUW
      have HKM := Lib.hid (show k < M by omega)
      have HP2 := Lib.hid (show p2 = k + n by omega)
      generalize dgt W U p2 = d2 at *
      generalize dgt W U p1 = d1 at *
      generalize dgt W U p0 = d0 at *
      generalize dgt W V n1 = x1 at *
      generalize dgt W V m = x0 at *
      have hk8 : k ≤ 100000000 := by omega
      clear hlt hV1 hV2 hp2 hp1 hp0 hnm hn1m hlL hmM hUW hgv hv1 hv0 e1' hgv' KDG hG hGW hGq hK h0
      go_wp2_with fail
      go_quiet ((go_at_call 87; exact Calls.quiet_of ((KD.out _).mono fun _ _ h => ⟨h.1, h.2⟩)))
      have hbwq := below_drewN hbw nq
      have hbuq := Lib.hid (hbu.out.drewN nq)
      have hbqq := Lib.hid (hbq.out.drewN nq)
      clear hu2 hu1 hu0 hv1' hv0' hbu hbq hbw
      generalize wr.drewN nq = wq at *
      by_cases hG0 : G = 0
      · subst hG0
        have hq0 : U / (W ^ k * V) = 0 := by
          rcases HGQ.out with h | h
          · exact h
          · exact absurd h (Nat.succ_ne_zero _)
        have hst := divI_step hdi.out hq0.symm HV0.out
        have hUm : U % (W ^ k * V) = U := by
          refine Nat.mod_eq_of_lt ?_
          have h1 := Nat.lt_div_mul_add (a := U) (Nat.mul_pos (Nat.pow_pos (n := k) W0) HV0.out)
          rw [hq0, Nat.zero_mul, Nat.zero_add] at h1
          exact h1
        rw [hUm] at hst
        have he : W ^ (k + 1) * Q = W ^ k * (0 + W * Q) := by rw [Nat.zero_add, Nat.pow_succ, Nat.mul_assoc]
        rw [he] at hQM hbqq
        have HSTN := Lib.hid hst
        have HKM2 := HKM
        clear hq0 hst hUm he
        go_wp2_with fail
        go_roundw
        case rel => exact ⟨k, U, _, (k : Int) - 1, by have := HKM.out; omega, by first | rfl | go_num, Lib.hid rfl, HSTN, hQM, hbuq, hbqq, hbwq⟩
        case measure => simp [intOf]; try omega
      · have hGz : ((G : Int) == 0) = false := by rw [beq_eq_false_iff_ne]; omega
        have hkn : ((p2 : Int) + 1) ≤ (L : Int) := by omega
        have hkL : ¬ L = k := by have := HP2.out; omega
        have hsub : p2 + 1 - k = n + 1 := by have := HP2.out; omega
        have hsub2 : k + n + 1 - k = n + 1 := by omega
        have hVn : V < W ^ n := by rw [HNN.out]; exact HV1.out
        have hkL2 : k + n + 1 ≤ L := by have := HP2.out; omega
        have hRVq : Row wq g (some ⟨gv', 0, none⟩) V n := by
          have h := HRV.out
          rw [← HG.out] at h
          exact h.below hbwq
        have KL := Lib.hid (Less_c g k n L U V G (L - k) c1 (some ⟨gv', 0, none⟩) wq hbuq.out hkL2 (by omega) hRVq hVn hG64 HUW.out (by omega))
        have KB := Lib.hid (fun Z w7 h1 h2 h3 => Back_c g k n L Z V (L - k) c1 (some ⟨gv', 0, none⟩) w7 h1 hkL2 (by omega) h2 hVn h3 (by omega))
        have HRVQ := Lib.hid hRVq
        have HVN := Lib.hid hVn
        have hkM := HKM.out
        clear hRVq hVn hkL2 i2 i1 i0 hw2 hw1 hw0 hwn1 hwn2
        go_wp2_with fail
        (with_reducible refine KL.out.mono ?_)
        rintro e w7 ⟨Z, bo, bb, rfl, hbb, hbo, hblk7, hon7, hb7, hZ7, heq7⟩
        have HQ7 := Lib.hid (hon7.blk (Nat.ne_of_gt HGG.out) hbqq.out)
        have HB7 := Lib.hid hblk7
        have HEQ7 := Lib.hid heq7
        have HZ7 := Lib.hid hZ7
        have hbw7 : Below g w2 w7 := hbwq.trans hb7
        have hRV7 := Lib.hid (HRVQ.out.below hb7)
        clear hblk7 hon7 hZ7 heq7 hb7 hbwq
        by_cases hb0 : bo = 0
        · subst hb0
          obtain rfl : bb = false := by rw [hbb]; rfl
          obtain ⟨hqG, hZe⟩ := step_fine (n := n) (Z := Z) HGQ.out rfl HV0.out (by have := HEQ7.out; rwa [Nat.mul_zero, Nat.add_zero] at this)
          have hst := divI_step hdi.out hqG.symm HV0.out
          rw [← hZe] at hst
          obtain ⟨hq1, hq2⟩ := quo_put (k := k) (Q := Q) (v := G) (M := M) HGW.out hQM.out hkM
          have hcq := HQ7.out.cell k
          rw [wcells_get _ _ _ hkM] at hcq
          have hfq := HQ7.out.frozen k
          have HQ8 := HQ7.out.set_ k (.int .u64 (G : Nat))
          rw [wcells_set _ _ _ _ hG64, hq1] at HQ8
          have HQ9 := Lib.hid HQ8
          have HB8 := Lib.hid (HB7.out.far (p := ⟨g2, k, none⟩) (Nat.ne_of_lt HGG.out) (.int .u64 (G : Nat)))
          have hb8 := hbw7.setCell (p := ⟨g2, k, none⟩) (Nat.le_of_lt HGG.out) (.int .u64 (G : Nat))
          have HSTN := Lib.hid hst
          have HQB := Lib.hid hq2
          clear hbb hbo hqG hZe hst hq1 hq2 HQ8
          go_wp2_with fail
          go_roundw
          case rel => exact ⟨k, Z, _, (k : Int) - 1, by have := HKM.out; omega, by first | rfl | go_num, Lib.hid rfl, HSTN, HQB, HB8, HQ9, hb8⟩
          case measure => simp [intOf]; try omega
        · obtain rfl : bo = 1 := by omega
          obtain rfl : bb = true := by rw [hbb]; rfl
          obtain ⟨x, rfl⟩ : ∃ x, G = x + 1 := ⟨G - 1, by omega⟩
          have hwx : IntKind.u64.wrap ((x : Int) + 1 - 1) = (x : Int) := by rw [IntKind.wrap_u64]; omega
          have hwx2 : IntKind.u64.wrap (x : Int) = (x : Int) := by rw [IntKind.wrap_u64]; omega
          have hx64 : x < 18446744073709551616 := by omega
          have hxI : ((x + 1 : Nat) : Int) - 1 = (x : Int) := by omega
          clear hbb hbo hb0
          go_wp2_with fail
          refine (KB.out Z w7 HB7.out hRV7.out HZ7.out).mono ?_
          rintro e w8 ⟨Z2, cc, rfl, hcc, hblk8, hon8, hb8, hZ8, heq8⟩
          obtain ⟨hqG, hZe⟩ := step_back (n := n) (Z := Z) (Z' := Z2) (c := cc) HGQ.out rfl HV0.out HVN.out HUW.out HZ7.out hZ8 hcc (by have := HEQ7.out; rwa [Nat.mul_one] at this) heq8
          have hst := divI_step (q := x) hdi.out (Nat.succ.inj hqG).symm HV0.out
          rw [← hZe] at hst
          obtain ⟨hq1, hq2⟩ := quo_put (k := k) (Q := Q) (v := x) (M := M) (Nat.lt_of_succ_lt HGW.out) hQM.out hkM
          have HQ8 := hon8.blk (Nat.ne_of_gt HGG.out) HQ7.out
          have hcq := HQ8.cell k
          rw [wcells_get _ _ _ hkM] at hcq
          have hfq := HQ8.frozen k
          have HQ9 := HQ8.set_ k (.int .u64 (x : Nat))
          rw [wcells_set _ _ _ _ hx64, hq1] at HQ9
          have HQ10 := Lib.hid HQ9
          have HB9 := Lib.hid (hblk8.far (p := ⟨g2, k, none⟩) (Nat.ne_of_lt HGG.out) (.int .u64 (x : Nat)))
          have hb9 := (hbw7.trans hb8).setCell (p := ⟨g2, k, none⟩) (Nat.le_of_lt HGG.out) (.int .u64 (x : Nat))
          have HSTN := Lib.hid hst
          have HQB := Lib.hid hq2
          clear hqG hZe hst hq1 hq2 HQ8 HQ9 hblk8 hon8 hZ8 heq8 hcc hb8
          go_wp2_with fail
          go_roundw
          case rel => exact ⟨k, Z2, _, (k : Int) - 1, by have := HKM.out; omega, by first | rfl | go_num, Lib.hid rfl, HSTN, HQB, HB9, HQ10, hb9⟩
          case measure => simp [intOf]; try omega
end Go.Proofs.YtajcapliokblfaaDoor
namespace Go.Proofs.YtajcapliokblfaaDoor
open Go Go.RowKit Nt
theorem run_append_none {P : Program} (w : World) (t ty e : TypeId) (i : TypeInfo) (ht : P.underlying t = some (.slice e)) (hi : P.info? e = some i) (A : Option Addr) (c : Nat) :
    (Builtin.append_ #[t, t] ty #[.slice none 0 0, .slice A 0 c]).run P w = .ok (.slice none 0 0) w := by
  cases A <;> simp [Builtin.append_, run_underlying ht, sizeOf, typeInfo, hi, Builtin.lenOf, Builtin.firstCells, loadCells, loadCellsFrom]
theorem wpList_appWl {P : Program} (w0 : World) {ops : Array Oper} {rest : List Oper} {o : Oper} {a : Act} {Q : Exit → Act → World → Prop} (hgd : o.guard = none) (s x : Operand) (t : TypeId)
    (ho : o.op = .call { callee := .builtin .append, args := #[s, x], argTypes := #[t, t] })
    (e : TypeId) (i : TypeInfo) (ht : P.underlying t = some (.slice e)) (hi : P.info? e = some i) (hz : i.zero = some (.int .u64 0))
    (hsize : i.size = 1) (hby : i.bytes = 8)
    (n : Nat) (A : Option Addr) (L c B : Nat) (hs : a.eval s = .slice none 0 0) (hx : a.eval x = .slice A L c) (hr : Row w0 B A n L)
    (hn : L ≤ 1000000000)
    (h : ∀ A' c' w', L ≤ c' → c' ≤ 9223372036854775807 → Row w' w'.heap.size A' n L → Below w0.heap.size w0 w' → wpList P ops Q rest (a.put o.dst (.slice A' L c')) w') :
    wpList P ops Q (o :: rest) a w0 := by
  by_cases h0 : L = 0
  · subst h0
    refine wpList_plain hgd fun K hK => ?_
    have hrun := run_append_none (P := P) w0 t o.type e i ht hi A c
    unfold Oper.wp execOp
    simp only [ho, resolve, invoke, builtin, Sem.run_bind, Sem.run_pure, Result.andThen_ok, List.map_toArray, List.map_cons, List.map_nil, hs, hx, hrun]
    exact hK _ _ (h none 0 w0 (Nat.le_refl _) (by omega) Row.none_ (Below.refl _ _))
  · obtain ⟨g, rfl, hg, hc⟩ := hr (by omega)
    refine wpList_append_own_at w0 hgd s x t ho w0.heap.size e i (.int .u64 0) 1 8 ht hi hz hsize hby rfl (by omega) (.slice none 0 0) 0 [] hs (World.ownsRow_nil _ _ _ _) ⟨g, 0, none⟩ L c ((dl W n L).map (fun (x : Nat) => Value.int .u64 (x : Int))) hx (by rw [List.length_map, dl_length, Nat.mul_one]) ?_ ?_ (by simp [maxLen]; omega) (by omega) (Nat.le_refl _) ?_
    · intro j u hu
      have hj : j < L := by
        rcases Nat.lt_or_ge j L with h | h
        · exact h
        · rw [List.getElem?_eq_none (by rw [List.length_map, dl_length]; exact h)] at hu; cases hu
      rw [List.getElem?_map, dl_get? _ _ _ _ hj] at hu
      rw [add_plain0, hc j hj]; exact hu
    · intro u hu
      obtain ⟨y, _, rfl⟩ := List.mem_map.1 hu
      rfl
    · intro v' w' hown hgw _ _
      rw [Nat.zero_add, List.nil_append] at hown
      obtain ⟨_, hform⟩ := hown
      rcases hform with ⟨_, h2⟩ | ⟨g', cap, cur, rfl, hB, hh, h3, h4, h5, h6⟩
      · exact absurd h2 h0
      · refine h _ _ _ h3 (by simpa [maxLen] using h4) (fun _ => ⟨g', rfl, Blk.lt (cs := cur) (t := e) hh, fun j hj => ?_⟩) (Below.grown (Below.refl _ _) hgw (Nat.le_refl _) (fun g e => by simp [Value.ownBlock] at e))
        rw [Blk.cell (cs := cur) (t := e) hh j]
        have ee := congrArg (fun x => x[j]?) h6
        simp only [Nat.mul_one] at ee
        rw [List.getElem?_take, if_pos hj, List.getElem?_map, dl_get? _ _ _ _ hj] at ee
        rw [← Array.getElem?_toList]; exact ee
set_option maxRecDepth 100000 in
set_option maxHeartbeats 1000000 in
theorem Div_less (A A' : Option Addr) (c c' a b : Nat) (w : World) (hab : a < b) (hL : nd W a ≤ 100000000) (hL' : nd W b ≤ 100000000) (hr : Row w w.heap.size A a (nd W a)) (hr' : Row w w.heap.size A' b (nd W b)) :
    Calls Tryd.prog 65 #[.slice A (nd W a) c, .slice A' (nd W b) c'] w (DivPost (a / b) (a % b) w) := by
  obtain ⟨i0, hi0, hz0, hz1, hz2⟩ := info_parts (P := Tryd.prog) (e := 67) (z := .int .u64 0) (size := 1) (bytes := 8) (by kernel_rfl)
  rw [Nat.div_eq_of_lt hab, Nat.mod_eq_of_lt hab]
  have hcm := Cmp_c A A' c c' a b w.heap.size w (by omega) (by omega) hr hr'
  rw [cmpN_lt hab] at hcm
  have HCM := Lib.hid hcm
  have HR := Lib.hid hr
  have hlt : a < W ^ nd W a := lt_nd W2
  obtain ⟨la, hla⟩ : ∃ la, la = nd W a := ⟨_, rfl⟩
  rw [← hla] at HCM HR hL hlt ⊢
  have HLA := Lib.hid hla
  have HLT := Lib.hid hlt
  clear hcm hr hr' hab hla hlt
  go_enter Tryd.func65, Tryd.ntmps65
  go_wp2
  go_step3
  go_wp2_with fail
  refine HCM.out.mono ?_
  rintro e w1 ⟨rfl, nn, rfl⟩
  have hR1 := Lib.hid (HR.out.drewN nn)
  have hbw1 : Below w.heap.size w (w.drewN nn) := below_drewN (Below.refl _ _) nn
  generalize w.drewN nn = w1 at *
  go_wp2_with (at_builtin; go_loud (refine wpList_appWl w1 rfl (.const (.slice none 0 0)) (.tmp 19) _ rfl 67 i0 Tryd.underlying45 hi0 hz0 hz1 hz2 a A la c w.heap.size rfl rfl hR1.out (by omega) ?_); intro A2 c2 w2 hc2 hc22 hr2 hb2; have HR2 := Lib.hid hr2; clear hr2)
  refine (Cut_c A2 la c2 a w2.heap.size w2 HLT.out hc2 hc22 HR2.out).mono ?_
  rintro e w3 ⟨rfl, rfl⟩
  go_wp2_with fail
  rw [Exit.noGoto_ret]
  go_ret2
  have e0 : nd W 0 = 0 := nd_zero _
  refine ⟨none, 0, A2, c2, ?_, by rw [e0]; exact Nat.le_refl _, by rw [← HLA.out]; exact hc2, by rw [e0]; exact Row.none_, by rw [← HLA.out]; exact HR2.out, below_chain hbw1 hb2⟩
  rw [e0]; rfl
theorem Div_all (A A' : Option Addr) (c c' a b : Nat) (w : World) (hb : b ≠ 0) (hL : nd W a ≤ 100000000) (hL' : nd W b ≤ 100000000) (hr : Row w w.heap.size A a (nd W a)) (hr' : Row w w.heap.size A' b (nd W b)) :
    Calls Tryd.prog 65 #[.slice A (nd W a) c, .slice A' (nd W b) c'] w (DivPost (a / b) (a % b) w) := by
  by_cases hab : a < b
  · exact Div_less A A' c c' a b w hab hL hL' hr hr'
  · have hle : b ≤ a := by omega
    have hn0 : nd W b ≠ 0 := fun e => hb ((nd_eq_zero W2).1 e)
    by_cases h1 : nd W b = 1
    · exact Div_one A A' c c' a b w h1 hle (by omega) hr hr'
    · obtain ⟨m, hm⟩ : ∃ m, nd W b = m + 2 := ⟨nd W b - 2, by omega⟩
      have hmn := nd_mono (b := W) W2 hle
      obtain ⟨M, hM⟩ : ∃ M, M + (m + 1) = nd W a := ⟨nd W a - (m + 1), by omega⟩
      have h := Div_big A A' c c' a b m (nd W a) M w hm hle rfl hM hL hr (by rw [← hm]; exact hr')
      rw [← hm] at h
      exact h
end Go.Proofs.YtajcapliokblfaaDoor
namespace Go.Proofs.YtajcapliokblfaaDoor
open Go Nt
theorem uni {a b X Y p q r s : Nat} (h1 : p * a = q * b + X) (h2 : s * b = r * a + Y) (hd : p * s = r * q + 1) : s * X + q * Y = a ∧ r * X + p * Y = b := by
  have e1 : s * (p * a) = s * (q * b + X) := congrArg (s * ·) h1
  have e2 : q * (s * b) = q * (r * a + Y) := congrArg (q * ·) h2
  have e3 : r * (p * a) = r * (q * b + X) := congrArg (r * ·) h1
  have e4 : p * (s * b) = p * (r * a + Y) := congrArg (p * ·) h2
  have e5 : (p * s) * a = (r * q + 1) * a := congrArg (· * a) hd
  have e6 : (p * s) * b = (r * q + 1) * b := congrArg (· * b) hd
  constructor <;> grind
theorem gcd_same {a b X Y p q r s : Nat} (h1 : p * a = q * b + X) (h2 : s * b = r * a + Y) (hd : p * s = r * q + 1) : Nat.gcd X Y = Nat.gcd a b := by
  obtain ⟨ha, hb⟩ := uni h1 h2 hd
  refine Nat.dvd_antisymm (Nat.dvd_gcd ?_ ?_) (Nat.dvd_gcd ?_ ?_)
  · rw [← ha]
    exact Nat.dvd_add (Nat.dvd_trans (Nat.gcd_dvd_left X Y) (Nat.dvd_mul_left _ _)) (Nat.dvd_trans (Nat.gcd_dvd_right X Y) (Nat.dvd_mul_left _ _))
  · rw [← hb]
    exact Nat.dvd_add (Nat.dvd_trans (Nat.gcd_dvd_left X Y) (Nat.dvd_mul_left _ _)) (Nat.dvd_trans (Nat.gcd_dvd_right X Y) (Nat.dvd_mul_left _ _))
  · refine (Nat.dvd_add_right (Nat.dvd_trans (Nat.gcd_dvd_right a b) (Nat.dvd_mul_left _ q))).1 ?_
    rw [← h1]
    exact Nat.dvd_trans (Nat.gcd_dvd_left a b) (Nat.dvd_mul_left _ _)
  · refine (Nat.dvd_add_right (Nat.dvd_trans (Nat.gcd_dvd_left a b) (Nat.dvd_mul_left _ r))).1 ?_
    rw [← h2]
    exact Nat.dvd_trans (Nat.gcd_dvd_right a b) (Nat.dvd_mul_left _ _)
def Way (A B : Nat) (even : Bool) (top low u1 v1 u2 v2 : Nat) : Prop :=
  (even = false → u1 * A = v1 * B + top ∧ v2 * B = u2 * A + low ∧ u1 * v2 = u2 * v1 + 1) ∧
  (even = true → v1 * B = u1 * A + top ∧ u2 * A = v2 * B + low ∧ v1 * u2 = v2 * u1 + 1) ∧
  u2 ≤ v2 ∧ u1 + u2 ≤ v1 + v2 ∧ low ≤ top
theorem Way.first {A B : Nat} (h : B ≤ A) : Way A B false A B 1 0 0 1 := by
  exact ⟨fun _ => ⟨by omega, by omega, by omega⟩, fun c => Bool.noConfusion c, by omega, by omega, h⟩
theorem Way.step {A B top low u1 v1 u2 v2 q : Nat} {even : Bool} (h : Way A B even top low u1 v1 u2 v2) (hl : low ≠ 0) (hq : q = top / low) :
    Way A B (!even) low (top % low) u2 v2 (u1 + q * u2) (v1 + q * v2) := by
  obtain ⟨h1, h2, h3, h4, h5⟩ := h
  have hd : q * low + top % low = top := by rw [hq, Nat.mul_comm]; exact Nat.div_add_mod _ _
  have hq1 : 1 ≤ q := by rw [hq]; exact Nat.div_pos h5 (Nat.pos_of_ne_zero hl)
  have hlt := Nat.mod_lt top (Nat.pos_of_ne_zero hl)
  generalize top % low = r at *
  have hu : u1 + q * u2 ≤ v1 + q * v2 := by
    obtain ⟨p, rfl⟩ : ∃ p, q = p + 1 := ⟨q - 1, by omega⟩
    have := Nat.mul_le_mul_left p h3
    rw [Nat.add_mul, Nat.add_mul, Nat.one_mul, Nat.one_mul]
    omega
  refine ⟨fun he => ?_, fun he => ?_, hu, by omega, by omega⟩
  · have he' : even = true := by cases even <;> simp_all
    obtain ⟨e1, e2, e3⟩ := h2 he'
    refine ⟨e2, ?_, ?_⟩
    · have e4 : q * (u2 * A) = q * (v2 * B + low) := congrArg (q * ·) e2
      grind
    · grind
  · have he' : even = false := by cases even <;> simp_all
    obtain ⟨e1, e2, e3⟩ := h1 he'
    refine ⟨e2, ?_, ?_⟩
    · have e4 : q * (v2 * B) = q * (u2 * A + low) := congrArg (q * ·) e2
      grind
    · grind
theorem Way.sum {A B top low u1 v1 u2 v2 : Nat} {even : Bool} (h : Way A B even top low u1 v1 u2 v2) : v2 * top + v1 * low = A ∧ u2 * top + u1 * low = B := by
  obtain ⟨h1, h2, -⟩ := h
  cases even with
  | false => obtain ⟨e1, e2, e3⟩ := h1 rfl; exact uni e1 e2 e3
  | true => obtain ⟨e1, e2, e3⟩ := h2 rfl; exact (uni e1 e2 e3).symm
def FarG (a b : Nat) (even : Bool) (X Y u1 v1 u2 v2 : Nat) : Prop :=
  (even = false → u1 * a = v1 * b + X ∧ v2 * b = u2 * a + Y) ∧ (even = true → v1 * b = u1 * a + X ∧ u2 * a = v2 * b + Y)
theorem far_false {A B H a0 b0 top low u1 v1 u2 v2 : Nat} (e1 : u1 * A = v1 * B + top) (e2 : v2 * B = u2 * A + low) (ha : a0 < H) (hb : b0 < H) (h3 : u2 ≤ v2) (c1 : v2 ≤ low) (c2 : low + (v1 + v2) ≤ top) (hv : v1 + v2 ≠ 0) :
    ∃ X Y, u1 * (A * H + a0) = v1 * (B * H + b0) + X ∧ v2 * (B * H + b0) = u2 * (A * H + a0) + Y ∧ Y < X := by
  have f1 : u1 * (A * H + a0) = (u1 * A) * H + u1 * a0 := by grind
  have f2 : v1 * (B * H + b0) = (v1 * B) * H + v1 * b0 := by grind
  have f3 : v2 * (B * H + b0) = (v2 * B) * H + v2 * b0 := by grind
  have f4 : u2 * (A * H + a0) = (u2 * A) * H + u2 * a0 := by grind
  rw [f1, f2, f3, f4, e1, e2, Nat.add_mul, Nat.add_mul]
  have g1 : u2 * a0 ≤ v2 * H := Nat.mul_le_mul h3 (by omega)
  have g2 : v2 * H ≤ low * H := Nat.mul_le_mul_right _ c1
  have g3 : (low + (v1 + v2)) * H ≤ top * H := Nat.mul_le_mul_right _ c2
  rw [Nat.add_mul, Nat.add_mul] at g3
  have g4 : v1 * b0 ≤ v1 * H := Nat.mul_le_mul_left _ (by omega)
  have g5 : v2 * b0 ≤ v2 * H := Nat.mul_le_mul_left _ (by omega)
  have g6 : v1 * b0 + v2 * b0 < v1 * H + v2 * H := by
    rw [← Nat.add_mul, ← Nat.add_mul]
    exact Nat.mul_lt_mul_of_pos_left hb (Nat.pos_of_ne_zero hv)
  exact ⟨top * H + u1 * a0 - v1 * b0, low * H + v2 * b0 - u2 * a0, by omega, by omega, by omega⟩
theorem far_true {A B H a0 b0 top low u1 v1 u2 v2 : Nat} (e1 : v1 * B = u1 * A + top) (e2 : u2 * A = v2 * B + low) (ha : a0 < H) (hb : b0 < H) (h4 : u1 + u2 ≤ v1 + v2) (c1 : v2 ≤ low) (c2 : low + (v1 + v2) ≤ top) (hv : v1 + v2 ≠ 0) :
    ∃ X Y, v1 * (B * H + b0) = u1 * (A * H + a0) + X ∧ u2 * (A * H + a0) = v2 * (B * H + b0) + Y ∧ Y < X := by
  have f1 : u1 * (A * H + a0) = (u1 * A) * H + u1 * a0 := by grind
  have f2 : v1 * (B * H + b0) = (v1 * B) * H + v1 * b0 := by grind
  have f3 : v2 * (B * H + b0) = (v2 * B) * H + v2 * b0 := by grind
  have f4 : u2 * (A * H + a0) = (u2 * A) * H + u2 * a0 := by grind
  rw [f1, f2, f3, f4, e1, e2, Nat.add_mul, Nat.add_mul]
  have g2 : v2 * H ≤ low * H := Nat.mul_le_mul_right _ c1
  have g3 : (low + (v1 + v2)) * H ≤ top * H := Nat.mul_le_mul_right _ c2
  rw [Nat.add_mul] at g3
  have g5 : v2 * b0 ≤ v2 * H := Nat.mul_le_mul_left _ (by omega)
  have g7 : (u1 + u2) * a0 ≤ (v1 + v2) * a0 := Nat.mul_le_mul_right _ h4
  have g6 : (v1 + v2) * a0 < (v1 + v2) * H := Nat.mul_lt_mul_of_pos_left ha (Nat.pos_of_ne_zero hv)
  rw [Nat.add_mul u1 u2] at g7
  exact ⟨top * H + v1 * b0 - u1 * a0, low * H + u2 * a0 - v2 * b0, by omega, by omega, by omega⟩
theorem Way.far {A B H a0 b0 a b top low u1 v1 u2 v2 : Nat} {even : Bool} (h : Way A B even top low u1 v1 u2 v2) (ha : a = A * H + a0) (hb : b = B * H + b0) (ha0 : a0 < H) (hb0 : b0 < H) (c1 : v2 ≤ low) (c2 : low + (v1 + v2) ≤ top) (hv : v1 + v2 ≠ 0) :
    ∃ X Y, FarG a b even X Y u1 v1 u2 v2 ∧ Y < X ∧ Nat.gcd X Y = Nat.gcd a b := by
  obtain ⟨h1, h2, h3, h4, -⟩ := h
  subst ha hb
  cases even with
  | false =>
    obtain ⟨e1, e2, e3⟩ := h1 rfl
    obtain ⟨X, Y, x1, x2, x3⟩ := far_false e1 e2 ha0 hb0 h3 c1 c2 hv
    exact ⟨X, Y, ⟨fun _ => ⟨x1, x2⟩, fun c => by cases c⟩, x3, gcd_same x1 x2 e3⟩
  | true =>
    obtain ⟨e1, e2, e3⟩ := h2 rfl
    obtain ⟨X, Y, x1, x2, x3⟩ := far_true e1 e2 ha0 hb0 h4 c1 c2 hv
    exact ⟨X, Y, ⟨fun c => (by cases c), fun _ => ⟨x1, x2⟩⟩, x3, (gcd_same x1 x2 e3).trans (Nat.gcd_comm _ _)⟩
end Go.Proofs.YtajcapliokblfaaDoor
namespace Go.Proofs.YtajcapliokblfaaDoor
open Go Go.RowKit Nt
theorem nd_times {a k : Nat} (hk : k < 18446744073709551616) : nd W (a * k) ≤ nd W a + 1 := by
  refine nd_le W2 ?_
  have h1 := lt_nd (n := a) W2
  rw [Nat.pow_succ]
  have h2 : a * k ≤ a * W := Nat.mul_le_mul_left _ (by rw [W_eq]; omega)
  have h3 : a * W < W ^ nd W a * W := Nat.mul_lt_mul_of_pos_right h1 W0
  omega
set_option maxRecDepth 100000 in
set_option maxHeartbeats 1000000 in
theorem Apart_c (A A' : Option Addr) (c c' a b u v B : Nat) (w : World) (hL : nd W a ≤ 100000000) (hL' : nd W b ≤ 100000000) (hu : u < 18446744073709551616) (hv : v < 18446744073709551616) (h : b * v ≤ a * u)
    (hr : Row w B A a (nd W a)) (hr' : Row w B A' b (nd W b)) (hBs : B ≤ w.heap.size) :
    Calls Tryd.prog 92 #[.slice A (nd W a) c, .int .u64 (u : Nat), .slice A' (nd W b) c', .int .u64 (v : Nat)] w (NumPost (a * u - b * v) w) := by
  have HU := Lib.hid (Nat.le_trans (nd_times (a := a) hu) (show nd W a + 1 ≤ 100000001 by omega))
  have HV := Lib.hid (Nat.le_trans (nd_times (a := b) hv) (show nd W b + 1 ≤ 100000001 by omega))
  have HLE := Lib.hid h
  have HR := Lib.hid hr
  have HR' := Lib.hid hr'
  have HBS := Lib.hid hBs
  have HL := Lib.hid hL
  have HL' := Lib.hid hL'
  have HUU := Lib.hid hu
  have HVV := Lib.hid hv
  clear h hr hr' hBs hL hL' 
  go_enter Tryd.func92, Tryd.ntmps92
  go_wp2_with fail
  have k1 := Put_c A c a u 0 B w HUU.out (by omega) (by have := HL.out; omega) HR.out HBS.out
  rw [Nat.add_zero] at k1
  have K1 := Lib.hid k1
  clear k1
  refine K1.out.mono ?_
  intro e w1 hp
  obtain ⟨A1, c1, rfl, hc1, hr1, hb1⟩ := hp.get
  have HR1 := Lib.hid hr1
  clear hr1 hp K1
  go_wp2_with fail
  have k2 := Put_c A' c' b v 0 B w1 HVV.out (by omega) (by have := HL'.out; omega) (HR'.out.below (hb1.mono HBS.out)) (Nat.le_trans HBS.out hb1.size)
  rw [Nat.add_zero] at k2
  have K2 := Lib.hid k2
  clear k2
  refine K2.out.mono ?_
  intro e w2 hp
  obtain ⟨A2, c2, rfl, hc2, hr2, hb2⟩ := hp.get
  have HR2 := Lib.hid hr2
  have HR12 := Lib.hid ((HR1.out.below hb2).more hb2.size)
  have hbw := below_chain hb1 hb2
  clear hr2 hp K2 hb1 hb2
  go_wp2_with fail
  refine (Sub_c A1 A2 c1 c2 (a * u) (b * v) w2.heap.size w2 HLE.out (by have := HU.out; omega) HR12.out HR2.out (Nat.le_refl _)).mono ?_
  intro e w3 hp
  obtain ⟨A3, c3, rfl, hc3, hr3, hb3⟩ := hp.get
  go_wp2
  go_ret
  exact NumPost.mk hc3 hr3 (below_chain hbw hb3)
end Go.Proofs.YtajcapliokblfaaDoor
namespace Go.Proofs.YtajcapliokblfaaDoor
open Go Go.RowKit Nt
def TwoPost (x y : Nat) (w : World) (e : Ending) (w' : World) : Prop :=
  ∃ A c A' c', e = .returned (.tuple #[.slice A (nd W x) c, .slice A' (nd W y) c']) ∧ nd W x ≤ c ∧ nd W y ≤ c' ∧ Row w' w'.heap.size A x (nd W x) ∧ Row w' w'.heap.size A' y (nd W y) ∧ Below w.heap.size w w'
def SDo (w w' : World) : Prop := Below w.heap.size w w'
theorem SDo.step {w w' w'' : World} (h : SDo w w') (hb : Below w'.heap.size w' w'') : SDo w w'' := below_chain h hb
theorem SDo.draw {w w' : World} (h : SDo w w') (n : Nat) : SDo w (w'.drewN n) := below_drewN h n
theorem SDo.drew1 {w w' : World} (h : SDo w w') : SDo w w'.drew := Below.drew h
set_option maxRecDepth 100000 in
set_option maxHeartbeats 1000000 in
theorem Do_c (A A' : Option Addr) (c c' a b u0 v0 u1 v1 B : Nat) (even : Bool) (w : World) (hL : nd W a ≤ 100000000) (hL' : nd W b ≤ 100000000) (hu0 : u0 < 18446744073709551616) (hv0 : v0 < 18446744073709551616) (hu1 : u1 < 18446744073709551616) (hv1 : v1 < 18446744073709551616)
    (X Y : Nat) (hE : even = true → u0 * a = v0 * b + X ∧ v1 * b = u1 * a + Y) (hO : even = false → v0 * b = u0 * a + X ∧ u1 * a = v1 * b + Y)
    (hr : Row w B A a (nd W a)) (hr' : Row w B A' b (nd W b)) (hBs : B ≤ w.heap.size) :
    Calls Tryd.prog 73 #[.agg #[.int .u64 (u0 : Nat), .int .u64 (v0 : Nat), .int .u64 (u1 : Nat), .int .u64 (v1 : Nat), .bool even], .slice A (nd W a) c, .slice A' (nd W b) c'] w (TwoPost X Y w) := by
  have hAp := fun (x y : Nat) (w' : World) (Ax Ay : Option Addr) (cx cy p q Z : Nat) (hx : nd W x ≤ 100000000) (hy : nd W y ≤ 100000000) (hp : p < 18446744073709551616) (hq : q < 18446744073709551616) (hz : p * x = q * y + Z) (hrx : Row w' B Ax x (nd W x)) (hry : Row w' B Ay y (nd W y)) (hBs : B ≤ w'.heap.size) => by
    have h := Apart_c Ax Ay cx cy x y p q B w' hx hy hp hq (by rw [Nat.mul_comm y, Nat.mul_comm x]; omega) hrx hry hBs
    rw [show x * p - y * q = Z by rw [Nat.mul_comm y, Nat.mul_comm x]; omega] at h
    exact h
  have hw1 : Below w.heap.size w (w.alloc (.cells #[.int .u64 (u0 : Nat), .int .u64 (v0 : Nat), .int .u64 (u1 : Nat), .int .u64 (v1 : Nat), .bool even] 98)) := (Below.refl _ _).alloc (Nat.le_refl _) _
  have hcell : ∀ k, (w.alloc (.cells #[.int .u64 (u0 : Nat), .int .u64 (v0 : Nat), .int .u64 (u1 : Nat), .int .u64 (v1 : Nat), .bool even] 98)).cell? ⟨w.heap.size, k, none⟩ = (#[Value.int .u64 (u0 : Nat), .int .u64 (v0 : Nat), .int .u64 (u1 : Nat), .int .u64 (v1 : Nat), .bool even])[k]? := fun k => World.cell?_alloc_at _ _ _ _ rfl
  have hsz : (w.alloc (.cells #[.int .u64 (u0 : Nat), .int .u64 (v0 : Nat), .int .u64 (u1 : Nat), .int .u64 (v1 : Nat), .bool even] 98)).heap.size = w.heap.size + 1 := by simp
  have HR := Lib.hid hr
  have HR' := Lib.hid hr'
  have HA : Hid _ := Lib.hid hAp
  clear hAp hr hr'
  have HE := Lib.hid hE
  have HO := Lib.hid hO
  clear hE hO
  cases even with
  | true =>
    obtain ⟨e1, e2⟩ := HE.out rfl
    go_enter Tryd.func73, Tryd.ntmps73
    go_wp2_with fail
    generalize w.alloc (.cells #[.int .u64 (u0 : Nat), .int .u64 (v0 : Nat), .int .u64 (u1 : Nat), .int .u64 (v1 : Nat), .bool true] 98) = w1 at *
    have hlt : w.heap.size < w1.heap.size := by omega
    have L0 : ∀ w', SDo w1 w' → w'.cell? ⟨w.heap.size, 0, none⟩ = some (.int .u64 (u0 : Nat)) := fun w' h => (Below.cell h (p := ⟨w.heap.size, 0, none⟩) hlt).trans (hcell 0)
    have L1 : ∀ w', SDo w1 w' → w'.cell? ⟨w.heap.size, 1, none⟩ = some (.int .u64 (v0 : Nat)) := fun w' h => (Below.cell h (p := ⟨w.heap.size, 1, none⟩) hlt).trans (hcell 1)
    have L2 : ∀ w', SDo w1 w' → w'.cell? ⟨w.heap.size, 2, none⟩ = some (.int .u64 (u1 : Nat)) := fun w' h => (Below.cell h (p := ⟨w.heap.size, 2, none⟩) hlt).trans (hcell 2)
    have L3 : ∀ w', SDo w1 w' → w'.cell? ⟨w.heap.size, 3, none⟩ = some (.int .u64 (v1 : Nat)) := fun w' h => (Below.cell h (p := ⟨w.heap.size, 3, none⟩) hlt).trans (hcell 3)
    have L4 : SDo w1 w1.drew := (Below.refl _ _).drew
    have hB1 : Below B w w1 := hw1.mono hBs
    have KA := Lib.hid (fun (w' : World) (h : SDo w1 w') => HA.out a b w' A A' c c' u0 v0 X hL hL' hu0 hv0 e1 ((HR.out.below hB1).below (Below.mono h (by omega))) ((HR'.out.below hB1).below (Below.mono h (by omega))) (Nat.le_trans hBs (Nat.le_trans hw1.size h.size)))
    have KB := Lib.hid (fun (w' : World) (h : SDo w1 w') => HA.out b a w' A' A c' c v1 u1 Y hL' hL hv1 hu1 e2 ((HR'.out.below hB1).below (Below.mono h (by omega))) ((HR.out.below hB1).below (Below.mono h (by omega))) (Nat.le_trans hBs (Nat.le_trans hw1.size h.size)))
    clear e1 e2 HA HR HR' HE HO hcell hsz hL hL' hu0 hv0 hu1 hv1 hB1
    go_region_held3 (SDo w1) (first | assumption | exact SDo.step (by assumption) (by assumption) | exact SDo.drew1 (by assumption) | exact SDo.draw (by assumption) _)
      (first
        | (go_at_call 92; with_reducible refine (KA.out _ (by assumption)).mono ?_; intro e w' hp; obtain ⟨Ax, cx, rfl, hcx, hrx, hbx⟩ := hp.get)
        | (go_at_call 92; with_reducible refine (KB.out _ (by assumption)).mono ?_; intro e w' hp; obtain ⟨Ay, cy, rfl, hcy, hry, hby⟩ := hp.get))
    rename_i hHeld
    have hfin : Below w.heap.size w _ := hw1.trans (Below.mono hHeld hw1.size)
    have HF := Lib.hid hfin
    have HX : Row w' w'.heap.size Ax X (nd W X) := (hrx.below hby).more hby.size
    have HXX := Lib.hid HX
    have HYY := Lib.hid hry
    clear L0 L1 L2 L3 L4 hHeld hp hrx hry hbx hby hfin HX KA KB
    go_wp2
    go_ret2
    exact ⟨Ax, cx, Ay, cy, rfl, hcx, hcy, HXX.out, HYY.out, HF.out⟩
  | false =>
    obtain ⟨e1, e2⟩ := HO.out rfl
    go_enter Tryd.func73, Tryd.ntmps73
    go_wp2_with fail
    generalize w.alloc (.cells #[.int .u64 (u0 : Nat), .int .u64 (v0 : Nat), .int .u64 (u1 : Nat), .int .u64 (v1 : Nat), .bool false] 98) = w1 at *
    have hlt : w.heap.size < w1.heap.size := by omega
    have L0 : ∀ w', SDo w1 w' → w'.cell? ⟨w.heap.size, 0, none⟩ = some (.int .u64 (u0 : Nat)) := fun w' h => (Below.cell h (p := ⟨w.heap.size, 0, none⟩) hlt).trans (hcell 0)
    have L1 : ∀ w', SDo w1 w' → w'.cell? ⟨w.heap.size, 1, none⟩ = some (.int .u64 (v0 : Nat)) := fun w' h => (Below.cell h (p := ⟨w.heap.size, 1, none⟩) hlt).trans (hcell 1)
    have L2 : ∀ w', SDo w1 w' → w'.cell? ⟨w.heap.size, 2, none⟩ = some (.int .u64 (u1 : Nat)) := fun w' h => (Below.cell h (p := ⟨w.heap.size, 2, none⟩) hlt).trans (hcell 2)
    have L3 : ∀ w', SDo w1 w' → w'.cell? ⟨w.heap.size, 3, none⟩ = some (.int .u64 (v1 : Nat)) := fun w' h => (Below.cell h (p := ⟨w.heap.size, 3, none⟩) hlt).trans (hcell 3)
    have L4 : SDo w1 w1.drew := (Below.refl _ _).drew
    have hB1 : Below B w w1 := hw1.mono hBs
    have KA := Lib.hid (fun (w' : World) (h : SDo w1 w') => HA.out b a w' A' A c' c v0 u0 X hL' hL hv0 hu0 e1 ((HR'.out.below hB1).below (Below.mono h (by omega))) ((HR.out.below hB1).below (Below.mono h (by omega))) (Nat.le_trans hBs (Nat.le_trans hw1.size h.size)))
    have KB := Lib.hid (fun (w' : World) (h : SDo w1 w') => HA.out a b w' A A' c c' u1 v1 Y hL hL' hu1 hv1 e2 ((HR.out.below hB1).below (Below.mono h (by omega))) ((HR'.out.below hB1).below (Below.mono h (by omega))) (Nat.le_trans hBs (Nat.le_trans hw1.size h.size)))
    clear e1 e2 HA HR HR' HE HO hcell hsz hL hL' hu0 hv0 hu1 hv1 hB1
    go_region_held3 (SDo w1) (first | assumption | exact SDo.step (by assumption) (by assumption) | exact SDo.drew1 (by assumption) | exact SDo.draw (by assumption) _)
      (first
        | (go_at_call 92; with_reducible refine (KA.out _ (by assumption)).mono ?_; intro e w' hp; obtain ⟨Ax, cx, rfl, hcx, hrx, hbx⟩ := hp.get)
        | (go_at_call 92; with_reducible refine (KB.out _ (by assumption)).mono ?_; intro e w' hp; obtain ⟨Ay, cy, rfl, hcy, hry, hby⟩ := hp.get))
    rename_i hHeld
    have hfin : Below w.heap.size w _ := hw1.trans (Below.mono hHeld hw1.size)
    have HF := Lib.hid hfin
    have HX : Row w' w'.heap.size Ax X (nd W X) := (hrx.below hby).more hby.size
    have HXX := Lib.hid HX
    have HYY := Lib.hid hry
    clear L0 L1 L2 L3 L4 hHeld hp hrx hry hbx hby hfin HX KA KB
    go_wp2
    go_ret2
    exact ⟨Ax, cx, Ay, cy, rfl, hcx, hcy, HXX.out, HYY.out, HF.out⟩
end Go.Proofs.YtajcapliokblfaaDoor
namespace Go.Proofs.YtajcapliokblfaaDoor
open Go Go.RowKit Nt
theorem dgt_up (y i : Nat) : dgt W (y * W) (i + 1) = dgt W y i := by
  rw [dgt_def, dgt_def, Nat.pow_succ, Nat.mul_div_mul_right _ _ W0]
theorem shl_word (y m s : Nat) (hs : s < 64) : dgt W (y * 2 ^ s) (m + 1) = dgt W y m / 2 ^ (64 - s) + dgt W y (m + 1) * 2 ^ s % W := by
  have h := dgt_shr (e := 64) (y * W) (64 - s) (m + 1) (by omega)
  rw [← W_two, dgt_up, dgt_up, show 64 - (64 - s) = s by omega] at h
  have e : y * W / 2 ^ (64 - s) = y * 2 ^ s := by
    have hW : W = 2 ^ s * 2 ^ (64 - s) := by rw [W_two, ← Nat.pow_add]; congr 1; omega
    rw [hW, ← Nat.mul_assoc, Nat.mul_div_cancel _ (Nat.two_pow_pos _)]
  rw [e] at h
  exact h
theorem guess_word (y m s : Nat) (hs : s < 64) :
    bits .or .u64 (IntKind.u64.wrap (((dgt W y (m + 1) : Nat) : Int) * 2 ^ s)) (((dgt W y m : Nat) : Int) / 2 ^ (64 - s)) = ((dgt W (y * 2 ^ s) (m + 1) : Nat) : Int) := by
  have hv : dgt W y m / 2 ^ (64 - s) < 2 ^ s := by
    rw [Nat.div_lt_iff_lt_mul (Nat.two_pow_pos _), ← Nat.pow_add, show s + (64 - s) = 64 by omega, ← W_two]; exact dgt_lt W0 _ _
  have hv64 : dgt W y m / 2 ^ (64 - s) < 18446744073709551616 := Nat.lt_of_le_of_lt (Nat.div_le_self _ _) (wd_lt _ _)
  have hlow : dgt W y (m + 1) * 2 ^ s % W = 2 ^ s * (dgt W y (m + 1) % 2 ^ (64 - s)) := by
    have hW : W = 2 ^ s * 2 ^ (64 - s) := by rw [W_two, ← Nat.pow_add]; congr 1; omega
    generalize dgt W y (m + 1) = D
    rw [hW, Nat.mul_comm D, Nat.mul_mod_mul_left]
  have e2 : IntKind.u64.wrap (((dgt W y (m + 1) : Nat) : Int) * 2 ^ s) = ((dgt W y (m + 1) * 2 ^ s % W : Nat) : Int) := by
    rw [IntKind.wrap_u64, int_pow2, ← Int.natCast_mul, W_eq, Int.natCast_emod]; rfl
  rw [e2, int_pow2, ← Int.natCast_ediv, bits_or_u64_nat _ _ (Nat.lt_of_lt_of_eq (Nat.mod_lt _ W0) W_eq) hv64, shl_word y m s hs, hlow, Nat.or_comm, or_add _ _ _ hv]
theorem guess_word0 (y m s : Nat) (hs : s < 64) (hz : dgt W y (m + 1) = 0) : ((dgt W y m : Nat) : Int) / 2 ^ (64 - s) = ((dgt W (y * 2 ^ s) (m + 1) : Nat) : Int) := by
  rw [shl_word y m s hs, hz, Nat.zero_mul, Nat.zero_mod, Nat.add_zero, int_pow2, ← Int.natCast_ediv]
theorem guess_high (a m s : Nat) (hs : s < 64) (h : a * 2 ^ s < W ^ (m + 2)) : ∃ H, 0 < H ∧ ∀ x, x ≤ a → dgt W (x * 2 ^ s) (m + 1) = x / H := by
  refine ⟨2 ^ (64 * (m + 1) - s), Nat.two_pow_pos _, fun x hx => ?_⟩
  have h1 : x * 2 ^ s < W ^ (m + 1) * W := by
    rw [← Nat.pow_succ]
    exact Nat.lt_of_le_of_lt (Nat.mul_le_mul_right _ hx) h
  have hW : W ^ (m + 1) = 2 ^ (64 * (m + 1) - s) * 2 ^ s := by
    rw [W_two, ← Nat.pow_mul, ← Nat.pow_add]; congr 1; omega
  rw [dgt_def, Nat.mod_eq_of_lt (Nat.div_lt_of_lt_mul h1), hW, Nat.mul_div_mul_right _ _ (Nat.two_pow_pos s)]
def Held (a b u0 v0 u1 v1 : Nat) (even : Bool) : Prop :=
  ∃ X Y, Y < X ∧ Y ≤ b ∧ X ≤ a ∧ (v0 ≠ 0 → Y < b) ∧ Nat.gcd X Y = Nat.gcd a b ∧
    (even = true → u0 * a = v0 * b + X ∧ v1 * b = u1 * a + Y) ∧ (even = false → v0 * b = u0 * a + X ∧ u1 * a = v1 * b + Y)
def Guess (a b A B u0 v0 u1 v1 u2 v2 top low : Nat) (even : Bool) : Prop :=
  Way A B even top low u1 v1 u2 v2 ∧ v2 ≠ 0 ∧
    ((u0 = 0 ∧ v0 = 0 ∧ u1 = 1 ∧ v1 = 0 ∧ u2 = 0 ∧ v2 = 1 ∧ even = false) ∨ (v1 ≠ 0 ∧ Held a b u0 v0 u1 v1 even))
theorem Guess.first {a b A B : Nat} (h : B ≤ A) : Guess a b A B 0 0 1 0 0 1 A B false :=
  ⟨Way.first h, by omega, Or.inl ⟨rfl, rfl, rfl, rfl, rfl, rfl, rfl⟩⟩
theorem Guess.step {a b A B H u0 v0 u1 v1 u2 v2 top low q : Nat} {even : Bool} (h : Guess a b A B u0 v0 u1 v1 u2 v2 top low even) (hab : b ≤ a) (hA : A = a / H) (hB : B = b / H) (hH : 0 < H)
    (c1 : v2 ≤ low) (c2 : low + (v1 + v2) ≤ top) (hq : q = top / low) :
    Guess a b A B u1 v1 u2 v2 (u1 + q * u2) (v1 + q * v2) low (top % low) (!even) := by
  obtain ⟨hw, hv2, hs⟩ := h
  have hl : low ≠ 0 := by omega
  have ha : a = A * H + a % H := by rw [hA, Nat.mul_comm]; exact (Nat.div_add_mod a H).symm
  have hb : b = B * H + b % H := by rw [hB, Nat.mul_comm]; exact (Nat.div_add_mod b H).symm
  obtain ⟨X, Y, hF, hYX, hg⟩ := hw.far ha hb (Nat.mod_lt _ hH) (Nat.mod_lt _ hH) c1 c2 (by omega)
  have hq1 : 1 ≤ q := by rw [hq]; exact Nat.div_pos (by omega) (Nat.pos_of_ne_zero hl)
  refine ⟨hw.step hl hq, ?_, Or.inr ⟨hv2, X, Y, hYX, ?_⟩⟩
  · have := Nat.le_mul_of_pos_left v2 hq1; omega
  · rcases hs with ⟨rfl, rfl, rfl, rfl, rfl, rfl, rfl⟩ | ⟨hv1, X0, Y0, g1, g2, g3, g4, g5, g6, g7⟩
    · obtain ⟨f1, f2⟩ := hF.1 rfl
      have eX : X = a := by omega
      have eY : Y = b := by omega
      subst eX eY
      exact ⟨Nat.le_refl _, Nat.le_refl _, fun c => absurd rfl c, hg, fun _ => ⟨by omega, by omega⟩, fun c => Bool.noConfusion c⟩
    · have eX : X = Y0 := by
        cases even with
        | false => have := hF.1 rfl; have := g7 rfl; omega
        | true => have := hF.2 rfl; have := g6 rfl; omega
      subst eX
      refine ⟨by omega, by omega, fun _ => by omega, hg, fun c => ?_, fun c => ?_⟩
      · cases even with
        | false => have := hF.1 rfl; exact ⟨this.1, this.2⟩
        | true => exact Bool.noConfusion c
      · cases even with
        | true => have := hF.2 rfl; exact ⟨this.1, this.2⟩
        | false => exact Bool.noConfusion c
theorem le_sum {x y p q A : Nat} (h : x * p + y * q = A) (hp : p ≠ 0) (hq : q ≠ 0) : x ≤ A ∧ y ≤ A ∧ x + y ≤ A := by
  have h1 := Nat.le_mul_of_pos_right x (Nat.pos_of_ne_zero hp)
  have h2 := Nat.le_mul_of_pos_right y (Nat.pos_of_ne_zero hq)
  omega
theorem le_sum1 {x y p q A : Nat} (h : x * p + y * q = A) (hp : p ≠ 0) : x ≤ A := by
  have h1 := Nat.le_mul_of_pos_right x (Nat.pos_of_ne_zero hp)
  omega
theorem Guess.bounds {a b A B u0 v0 u1 v1 u2 v2 top low : Nat} {even : Bool} (h : Guess a b A B u0 v0 u1 v1 u2 v2 top low even) (hl : v2 ≤ low) (hBA : B ≤ A) :
    u2 ≤ A ∧ v2 ≤ A ∧ v1 ≤ A ∧ u1 ≤ A ∧ v1 + v2 ≤ A ∧ low ≤ top ∧ top ≤ A ∧
      (∀ q, q = top / low → u1 + q * u2 ≤ A ∧ v1 + q * v2 ≤ A ∧ q ≤ A) := by
  obtain ⟨hw, hv2, -⟩ := h
  have hlt := hw.2.2.2.2
  have hl0 : low ≠ 0 := by omega
  have ht0 : top ≠ 0 := by omega
  obtain ⟨s1, s2⟩ := hw.sum
  obtain ⟨b1, b2, b3⟩ := le_sum s1 ht0 hl0
  obtain ⟨b4, b5, b6⟩ := le_sum s2 ht0 hl0
  have htA : top ≤ A := by
    have := Nat.le_mul_of_pos_left top (Nat.pos_of_ne_zero hv2)
    omega
  refine ⟨by omega, b1, b2, by omega, by omega, hlt, htA, fun q hq => ?_⟩
  obtain ⟨t1, t2⟩ := (hw.step hl0 hq).sum
  have c1 := le_sum1 t1 hl0
  have c2 := le_sum1 t2 hl0
  have c3 : q ≤ top := by rw [hq]; exact Nat.div_le_self _ _
  exact ⟨by omega, c1, by omega⟩
end Go.Proofs.YtajcapliokblfaaDoor
namespace Go.Proofs.YtajcapliokblfaaDoor
open Go Go.RowKit Nt
def GuessPost (a b : Nat) (w : World) (e : Ending) (w' : World) : Prop :=
  ∃ (u0 v0 u1 v1 : Nat) (even : Bool), e = .returned (.agg #[.int .u64 (u0 : Nat), .int .u64 (v0 : Nat), .int .u64 (u1 : Nat), .int .u64 (v1 : Nat), .bool even]) ∧ u0 < 18446744073709551616 ∧ v0 < 18446744073709551616 ∧ u1 < 18446744073709551616 ∧ v1 < 18446744073709551616 ∧
    (v0 ≠ 0 → Held a b u0 v0 u1 v1 even) ∧ Below w.heap.size w w'
theorem held_of {a b A B u0 v0 u1 v1 u2 v2 top low : Nat} {even : Bool} (h : Guess a b A B u0 v0 u1 v1 u2 v2 top low even) (hv : v0 ≠ 0) : Held a b u0 v0 u1 v1 even := by
  obtain ⟨-, -, ⟨-, c, -⟩ | ⟨-, h⟩⟩ := h
  · exact absurd c hv
  · exact h
set_option maxRecDepth 100000 in
set_option maxHeartbeats 4000000 in
theorem Guess_c (Aa Ab : Option Addr) (c c' a b m BB : Nat) (w : World) (hn : nd W a = m + 2) (hL : m ≤ 100000000) (hab : b ≤ a) (hr : Row w BB Aa a (m + 2)) (hr' : Row w BB Ab b (nd W b)) (hBs : BB ≤ w.heap.size) :
    Calls Tryd.prog 72 #[.slice Aa (m + 2) c, .slice Ab (nd W b) c'] w (GuessPost a b w) := by
  obtain ⟨t, ht⟩ : ∃ t, t = dgt W a (m + 1) := ⟨_, rfl⟩
  have htw : t < 18446744073709551616 := by rw [ht]; exact wd_lt _ _
  have ht0 : t ≠ 0 := by
    have := dgt_top (b := W) (n := a) W2 (fun c => by rw [c, nd_zero] at hn; omega)
    rw [hn, show m + 2 - 1 = m + 1 by omega, ← ht] at this
    exact this
  have ht64 : nd 2 t ≤ 64 := nd_le (by omega) (by rw [show (2 : Nat) ^ 64 = 18446744073709551616 by rfl]; exact htw)
  have ht1 : nd 2 t ≠ 0 := fun c => ht0 ((nd_eq_zero (by omega)).1 c)
  obtain ⟨s, hs⟩ : ∃ s, nd 2 t + s = 64 := ⟨64 - nd 2 t, by omega⟩
  have hs64 : s < 64 := by omega
  have KLZ : Hid (∀ w, Calls Tryd.prog 86 #[.int .u64 (t : Nat)] w fun e w' => e = .returned (.int .i64 (s : Nat)) ∧ w = w') := Lib.hid (fun w => by
    refine (Tryd.bits_LeadingZeros64 _ _ (by omega) (by omega)).mono ?_
    rintro e w' ⟨rfl, rfl⟩
    refine ⟨ret_int ?_, rfl⟩
    rw [Int.toNat_natCast, bitLen_nd htw]; omega)
  obtain ⟨hV1, -⟩ := normed (b := a) (n := m + 1) (s := s) (by omega) (by rw [← ht]; exact hs)
  obtain ⟨H, hH, hhigh⟩ := guess_high a m s hs64 hV1
  have hgA := guess_word a m s hs64
  have hgB := guess_word b m s hs64
  have hgB0 := guess_word0 b m s hs64
  obtain ⟨TA, hTA⟩ : ∃ x, x = dgt W (a * 2 ^ s) (m + 1) := ⟨_, rfl⟩
  obtain ⟨TB, hTB⟩ : ∃ x, x = dgt W (b * 2 ^ s) (m + 1) := ⟨_, rfl⟩
  have hTAw : TA < 18446744073709551616 := by rw [hTA]; exact wd_lt _ _
  have eA : TA = a / H := by rw [hTA]; exact hhigh a (Nat.le_refl _)
  have eB : TB = b / H := by rw [hTB]; exact hhigh b hab
  have hBA : TB ≤ TA := by rw [eA, eB]; exact Nat.div_le_div_right hab
  rw [← hTA] at hgA
  rw [← hTB] at hgB hgB0
  obtain ⟨ga, rfl, hga, hca1⟩ := hr.at_ (k := m + 1) (by omega)
  obtain ⟨ga', e, -, hca0⟩ := hr.at_ (k := m) (by omega)
  obtain rfl : ga = ga' := congrArg Addr.block (Option.some.inj e)
  rw [← ht] at hca1 hgA
  obtain ⟨n, hn2⟩ : ∃ n, n = m + 2 := ⟨_, rfl⟩
  obtain ⟨m1, hm1⟩ : ∃ m1, m1 = m + 1 := ⟨_, rfl⟩
  have hI1 : (n : Int) - 1 = (m1 : Int) := by omega
  have hI2 : (n : Int) - 2 = (m : Int) := by omega
  have hm1n : m1 < n := by omega
  have hmn : m < n := by omega
  have hnL : n ≤ 100000002 := by omega
  have HM1 := Lib.hid hm1
  have HN2 := Lib.hid hn2
  rw [← hm1] at hca1 hgB hgB0
  rw [← hn2]
  have hsI : (64 : Int) - (s : Int) = ((64 - s : Nat) : Int) := by omega
  have HGA := Lib.hid hgA
  have HEA := Lib.hid eA
  have HEB := Lib.hid eB
  have HBA := Lib.hid hBA
  have HT0 := Lib.hid ht0
  have HR' := Lib.hid hr'
  have HGB := Lib.hid hgB
  have HGB0 := Lib.hid hgB0
  have HBS := Lib.hid hBs
  have HH := Lib.hid hH
  have HN := Lib.hid hn
  have HAB := Lib.hid hab
  clear hgA hgB hgB0 eA eB hBA hTA hTB hhigh hV1 ht0 ht64 ht1 hs ht hr hr' e hH hn hab hm1 hn2 hL
  go_enter Tryd.func72, Tryd.ntmps72
  go_upto_region 1 with fail
  have hb1 : Below w.heap.size w (w.alloc (.cells #[.int .u64 0, .int .u64 0, .int .u64 0, .int .u64 0, .bool false] 98)) := (Below.refl _ _).alloc (Nat.le_refl _) _
  have hblk : Blk (w.alloc (.cells #[.int .u64 0, .int .u64 0, .int .u64 0, .int .u64 0, .bool false] 98)) w.heap.size 98 #[.int .u64 0, .int .u64 0, .int .u64 0, .int .u64 0, .bool false] := by
    exact Blk.new _ _ _
  have hsz : (w.alloc (.cells #[.int .u64 0, .int .u64 0, .int .u64 0, .int .u64 0, .bool false] 98)).heap.size = w.heap.size + 1 := by simp
  generalize w.alloc (.cells #[.int .u64 0, .int .u64 0, .int .u64 0, .int .u64 0, .bool false] 98) = w1 at *
  have hgw : ga < w.heap.size := Nat.lt_of_lt_of_le hga HBS.out
  have hc1 := (hb1.cell (p := ⟨ga, m1, none⟩) hgw).trans hca1
  have hc0 := (hb1.cell (p := ⟨ga, m, none⟩) hgw).trans hca0
  clear hca1 hca0
  have HBLK := Lib.hid hblk
  clear hblk
  go_upto_region 3 with (go_at_call 86; refine (KLZ.out _).mono ?_; rintro e w' ⟨rfl, rfl⟩)
  have hor := HGA.out
  go_quiet (fail)
  have hb2 := below_drewN hb1 nq
  have HB2 : Hid (Blk (w1.drewN nq) w.heap.size 98 #[.int .u64 0, .int .u64 0, .int .u64 0, .int .u64 0, .bool false]) := Lib.hid (HBLK.out.drewN nq)
  have hsz2 : (w1.drewN nq).heap.size = w.heap.size + 1 := hsz
  generalize w1.drewN nq = w2 at *
  clear hc1 hc0 hb1 hsz HBLK hor
  have hbB := hb2.mono HBS.out
  obtain ⟨L, hL⟩ : ∃ L, L = nd W b := ⟨_, rfl⟩
  have HL := Lib.hid hL
  have hLb : L ≤ n := by rw [hL, HN2.out, ← HN.out]; exact nd_mono W2 HAB.out
  rw [← hL] at HR' ⊢
  clear hL
  go_upto_block 0 with fail
  go_cut [8] (fun low wc => low = .int .u64 (TB : Nat) ∧ Below w2.heap.size w2 wc)
  case first =>
    have hcase : L = n ∨ L = m1 ∨ L < m1 := by have := HM1.out; have := HN2.out; omega
    rcases hcase with h1 | h1 | h1
    · subst h1
      obtain ⟨gb, rfl, hgb, hcb1⟩ := HR'.out.at_ hm1n
      obtain ⟨gb', e, -, hcb0⟩ := HR'.out.at_ hmn
      obtain rfl : gb = gb' := congrArg Addr.block (Option.some.inj e)
      have hd1 := (hbB.cell (p := ⟨gb, m1, none⟩) hgb).trans hcb1
      have hd0 := (hbB.cell (p := ⟨gb, m, none⟩) hgb).trans hcb0
      have hor := HGB.out
      clear hcb1 hcb0 e hgb
      go_wp2_with fail
      go_quiet (fail)
      go_wp2
      go_meet
      case rel => exact ⟨rfl, below_drewN (Below.refl _ _) _⟩
    · subst h1
      have hne : ((L : Int) == (n : Int)) = false := by rw [beq_eq_false_iff_ne]; omega
      obtain ⟨gb, rfl, hgb, hcb0⟩ := HR'.out.at_ (k := m) (by have := HM1.out; omega)
      have hd0 := (hbB.cell (p := ⟨gb, m, none⟩) hgb).trans hcb0
      have hor := HGB0.out (dgt_big W2 (by rw [← HL.out]; exact Nat.le_refl _))
      clear hcb0 hgb
      go_wp2
      go_meet
      case rel => exact ⟨rfl, Below.refl _ _⟩
    · have hne : ((L : Int) == (n : Int)) = false := by rw [beq_eq_false_iff_ne]; omega
      have hne1 : ((L : Int) == (m1 : Int)) = false := by rw [beq_eq_false_iff_ne]; omega
      have hor := HGB0.out (dgt_big W2 (by rw [← HL.out]; omega))
      have hz : dgt W b m = 0 := dgt_big W2 (by rw [← HL.out]; have := HM1.out; omega)
      have hTB0 : TB = 0 := by
        rw [hz] at hor
        have : ((0 : Nat) : Int) / 2 ^ (64 - s) = 0 := by simp
        omega
      have HTB := Lib.hid hTB0
      clear hor hz hTB0
      go_wp2
      go_meet
      case rel => exact ⟨by rw [HTB.out]; rfl, Below.refl _ _⟩
  case rest =>
    obtain ⟨rfl, hbc⟩ := hcut
    have HBC : Hid (Blk _ w.heap.size 98 #[.int .u64 0, .int .u64 0, .int .u64 0, .int .u64 0, .bool false]) := Lib.hid (HB2.out.below hbc (by omega))
    have hb3 : Below w.heap.size w _ := hb2.trans (hbc.mono hb2.size)
    clear HB2 hbB hbc hsz2 hb2
    go_wp2_with fail
    have hbn := hb3.alloc (o := .cells #[.int .u64 0, .int .u64 0, .int .u64 1, .int .u64 0, .bool false] 98) hb3.size
    have HBN : Hid (Blk _ wc.heap.size 98 #[.int .u64 0, .int .u64 0, .int .u64 1, .int .u64 0, .bool false]) := Lib.hid (Blk.new wc 98 #[.int .u64 0, .int .u64 0, .int .u64 1, .int .u64 0, .bool false])
    have HBC2 := Lib.hid (HBC.out.alloc (.cells #[.int .u64 0, .int .u64 0, .int .u64 1, .int .u64 0, .bool false] 98))
    have hG : w.heap.size < wc.heap.size := HBC.out.lt
    have HG := Lib.hid (Guess.first (a := a) (b := b) HBA.out)
    have hTBw : TB < 18446744073709551616 := Nat.lt_of_le_of_lt HBA.out hTAw
    clear HBC hb3
    obtain ⟨G, hGe⟩ : ∃ G, G = wc.heap.size := ⟨_, rfl⟩
    rw [← hGe] at HBN hG ⊢
    generalize wc.alloc (.cells #[.int .u64 0, .int .u64 0, .int .u64 1, .int .u64 0, .bool false] 98) = wn at *
    clear hGe
    go_loopw [7, 8, 10, 11] (fun tp lo uu vv wr => ∃ (top low u2 v2 u0 v0 u1 v1 : Nat) (even : Bool), tp = .int .u64 (top : Nat) ∧ lo = .int .u64 (low : Nat) ∧ uu = .int .u64 (u2 : Nat) ∧ vv = .int .u64 (v2 : Nat) ∧ Hid (Guess a b TA TB u0 v0 u1 v1 u2 v2 top low even) ∧
      top < 18446744073709551616 ∧ low < 18446744073709551616 ∧ u2 < 18446744073709551616 ∧ v2 < 18446744073709551616 ∧ Hid (u0 < 18446744073709551616 ∧ v0 < 18446744073709551616) ∧ u1 < 18446744073709551616 ∧ v1 < 18446744073709551616 ∧
      Hid (Blk wr G 98 #[.int .u64 (u0 : Nat), .int .u64 (v0 : Nat), .int .u64 (u1 : Nat), .int .u64 (v1 : Nat), .bool even]) ∧ Hid (Blk wr w.heap.size 98 #[.int .u64 0, .int .u64 0, .int .u64 0, .int .u64 0, .bool false]) ∧ Below w.heap.size w wr) (fun _ lo _ _ _ => (intOf lo).toNat)
    case atStart => exact ⟨TA, TB, 0, 1, 0, 0, 1, 0, false, rfl, rfl, rfl, rfl, HG, hTAw, hTBw, by omega, by omega, Lib.hid ⟨by omega, by omega⟩, by omega, by omega, HBN, HBC2, hbn⟩
    case round =>
      obtain ⟨top, low, u2, v2, u0, v0, u1, v1, even, rfl, rfl, rfl, rfl, hgs, htop, hlow, hu2, hv2, huv0, hu1, hv1, hbk, hbz, hbw⟩ := hrel
      have hc0 : wr.cell? ⟨G, 0, none⟩ = some (.int .u64 (u0 : Nat)) := hbk.out.cell 0
      have hc1 : wr.cell? ⟨G, 1, none⟩ = some (.int .u64 (v0 : Nat)) := hbk.out.cell 1
      have hc2 : wr.cell? ⟨G, 2, none⟩ = some (.int .u64 (u1 : Nat)) := hbk.out.cell 2
      have hc3 : wr.cell? ⟨G, 3, none⟩ = some (.int .u64 (v1 : Nat)) := hbk.out.cell 3
      have hc4 : wr.cell? ⟨G, 4, none⟩ = some (.bool even) := hbk.out.cell 4
      have hf0 := hbk.out.frozen 0
      have hf1 := hbk.out.frozen 1
      have hf2 := hbk.out.frozen 2
      have hf3 := hbk.out.frozen 3
      have hf4 := hbk.out.frozen 4
      by_cases c1 : v2 ≤ low
      · obtain ⟨b1, b2, b3, b4, b5, b6, b7, b8⟩ := hgs.out.bounds c1 HBA.out
        obtain ⟨sm, hsm⟩ : ∃ sm, sm = v1 + v2 := ⟨_, rfl⟩
        obtain ⟨df, hdf⟩ : ∃ df, df = top - low := ⟨_, rfl⟩
        have hsmI : IntKind.u64.wrap ((v1 : Int) + (v2 : Int)) = (sm : Int) := by rw [IntKind.wrap_u64]; omega
        have hdfI : IntKind.u64.wrap ((top : Int) - (low : Int)) = (df : Int) := by rw [IntKind.wrap_u64]; omega
        by_cases c2 : sm ≤ df
        · obtain ⟨q, hq⟩ : ∃ q, q = top / low := ⟨_, rfl⟩
          obtain ⟨r, hr⟩ : ∃ r, r = top % low := ⟨_, rfl⟩
          obtain ⟨d1, d2, d3⟩ := b8 q hq
          have HNX := hgs.out.step HAB.out HEA.out HEB.out HH.out c1 (by omega) hq
          rw [← hr] at HNX
          have hl0 : low ≠ 0 := by have := hgs.out.2.1; omega
          have hrl : r < low := by rw [hr]; exact Nat.mod_lt _ (Nat.pos_of_ne_zero hl0)
          have hnlt : ¬ ((top - low : Nat) : Int) < (v1 : Int) + (v2 : Int) := by omega
          have hqI : ((top : Int) / (low : Int)) = (q : Int) := by rw [hq, Int.natCast_ediv]
          have hqT : ((top : Int).tdiv (low : Int)) = (q : Int) := by rw [Int.tdiv_eq_ediv_of_nonneg (by omega)]; exact hqI
          have hrI : ((top : Int) % (low : Int)) = (r : Int) := by rw [hr, Int.natCast_emod]
          have hrT : ((top : Int).tmod (low : Int)) = (r : Int) := by rw [Int.tmod_eq_emod_of_nonneg (by omega)]; exact hrI
          have hl0I : ((low : Int) == 0) = false := by rw [beq_eq_false_iff_ne]; omega
          have HQ := Lib.hid hq
          have HRR := Lib.hid hr
          have HNX2 := Lib.hid HNX
          have HD := Lib.hid (And.intro d1 d2)
          have hq64 : q < 18446744073709551616 := by omega
          have hr64 : r < 18446744073709551616 := by omega
          have HRL := Lib.hid hrl
          clear hsmI hdfI hsm hdf c2 b1 b2 b3 b4 b7 b8 HNX hq hr d1 d2 hrl
          clear sm df
          go_upto_region 15 with (go_quiet (fail))
          have HK0 := Lib.hid (hbk.out.drewN nq)
          have HZ0 := Lib.hid (hbz.out.drewN nq)
          have hbw0 := below_drewN hbw nq
          clear hbk hbz hbw hc0 hc1 hc2 hc3 hc4 hf0 hf1 hf2 hf3 hf4 hqI hqT hrI hrT hl0I hnlt
          generalize wr.drewN nq = wd at *
          obtain ⟨pu, hpu⟩ : ∃ pu, pu = q * u2 := ⟨_, rfl⟩
          obtain ⟨pv, hpv⟩ : ∃ pv, pv = q * v2 := ⟨_, rfl⟩
          rw [← hpu, ← hpv] at HD HNX2
          obtain ⟨un, hun⟩ : ∃ un, un = u1 + pu := ⟨_, rfl⟩
          obtain ⟨vn, hvn⟩ : ∃ vn, vn = v1 + pv := ⟨_, rfl⟩
          rw [← hun, ← hvn] at HD HNX2
          have hunw : un < 18446744073709551616 := Nat.lt_of_le_of_lt HD.out.1 hTAw
          have hvnw : vn < 18446744073709551616 := Nat.lt_of_le_of_lt HD.out.2 hTAw
          have hpuI : IntKind.u64.wrap ((q : Int) * (u2 : Int)) = (pu : Int) := by rw [← Int.natCast_mul, ← hpu, IntKind.wrap_u64]; omega
          have hpvI : IntKind.u64.wrap ((q : Int) * (v2 : Int)) = (pv : Int) := by rw [← Int.natCast_mul, ← hpv, IntKind.wrap_u64]; omega
          have hpuM : (q : Int) * (u2 : Int) = (pu : Int) := by rw [← Int.natCast_mul, ← hpu]
          have hpvM : (q : Int) * (v2 : Int) = (pv : Int) := by rw [← Int.natCast_mul, ← hpv]
          have hunI : IntKind.u64.wrap ((u1 : Int) + (pu : Int)) = (un : Int) := by rw [IntKind.wrap_u64]; omega
          have hvnI : IntKind.u64.wrap ((v1 : Int) + (pv : Int)) = (vn : Int) := by rw [IntKind.wrap_u64]; omega
          have hunM : (u1 : Int) + (pu : Int) = (un : Int) := by omega
          have hvnM : (v1 : Int) + (pv : Int) = (vn : Int) := by omega
          have hpuw : pu < 18446744073709551616 := by omega
          have hpvw : pv < 18446744073709551616 := by omega
          clear hpu hpv hun hvn
          have e2 : wd.cell? ⟨G, 2, none⟩ = some (.int .u64 (u1 : Nat)) := HK0.out.cell 2
          have e0 : wd.cell? ⟨G, 0, none⟩ = some (.int .u64 (u0 : Nat)) := HK0.out.cell 0
          have g0 := HK0.out.frozen 0
          have g2 := HK0.out.frozen 2
          have HK1 : Hid (Blk _ G 98 #[.int .u64 (u1 : Nat), .int .u64 (v0 : Nat), .int .u64 (u2 : Nat), .int .u64 (v1 : Nat), .bool even]) := Lib.hid ((HK0.out.set_ 0 (.int .u64 (u1 : Nat))).set_ 2 (.int .u64 (u2 : Nat)))
          have HZ1 := Lib.hid ((HZ0.out.far (p := ⟨G, 0, none⟩) (show w.heap.size ≠ G by omega) (.int .u64 (u1 : Nat))).far (p := ⟨G, 2, none⟩) (show w.heap.size ≠ G by omega) (.int .u64 (u2 : Nat)))
          have hbw1 := (hbw0.setCell (p := ⟨G, 0, none⟩) (show w.heap.size ≤ G by omega) (.int .u64 (u1 : Nat))).setCell (p := ⟨G, 2, none⟩) (show w.heap.size ≤ G by omega) (.int .u64 (u2 : Nat))
          clear HK0 HZ0 hbw0
          go_upto_region 16 with fail
          generalize (wd.setCell ⟨G, 0, none⟩ (.int .u64 (u1 : Nat))).setCell ⟨G, 2, none⟩ (.int .u64 (u2 : Nat)) = wf at *
          clear e0 e2 g0 g2
          have e3 : wf.cell? ⟨G, 3, none⟩ = some (.int .u64 (v1 : Nat)) := HK1.out.cell 3
          have e1 : wf.cell? ⟨G, 1, none⟩ = some (.int .u64 (v0 : Nat)) := HK1.out.cell 1
          have g1 := HK1.out.frozen 1
          have g3 := HK1.out.frozen 3
          have HK2 : Hid (Blk _ G 98 #[.int .u64 (u1 : Nat), .int .u64 (v1 : Nat), .int .u64 (u2 : Nat), .int .u64 (v2 : Nat), .bool even]) := Lib.hid ((HK1.out.set_ 1 (.int .u64 (v1 : Nat))).set_ 3 (.int .u64 (v2 : Nat)))
          have HZ2 := Lib.hid ((HZ1.out.far (p := ⟨G, 1, none⟩) (show w.heap.size ≠ G by omega) (.int .u64 (v1 : Nat))).far (p := ⟨G, 3, none⟩) (show w.heap.size ≠ G by omega) (.int .u64 (v2 : Nat)))
          have hbw2 := (hbw1.setCell (p := ⟨G, 1, none⟩) (show w.heap.size ≤ G by omega) (.int .u64 (v1 : Nat))).setCell (p := ⟨G, 3, none⟩) (show w.heap.size ≤ G by omega) (.int .u64 (v2 : Nat))
          clear HK1 HZ1 hbw1
          go_upto_region 17 with fail
          generalize (wf.setCell ⟨G, 1, none⟩ (.int .u64 (v1 : Nat))).setCell ⟨G, 3, none⟩ (.int .u64 (v2 : Nat)) = wh at *
          clear e1 e3 g1 g3
          have e4 : wh.cell? ⟨G, 4, none⟩ = some (.bool even) := HK2.out.cell 4
          have g4 := HK2.out.frozen 4
          have HK3 : Hid (Blk _ G 98 #[.int .u64 (u1 : Nat), .int .u64 (v1 : Nat), .int .u64 (u2 : Nat), .int .u64 (v2 : Nat), .bool (!even)]) := Lib.hid (HK2.out.set_ 4 (.bool (!even)))
          have HZ3 := Lib.hid (HZ2.out.far (p := ⟨G, 4, none⟩) (show w.heap.size ≠ G by omega) (.bool (!even)))
          have hbw3 := hbw2.setCell (p := ⟨G, 4, none⟩) (show w.heap.size ≤ G by omega) (.bool (!even))
          clear HK2 HZ2 hbw2
          go_wp2_with fail
          go_roundw
          case rel => exact ⟨low, r, un, vn, u1, v1, u2, v2, !even, rfl, rfl, rfl, rfl, HNX2, hlow, hr64, hunw, hvnw, Lib.hid ⟨hu1, hv1⟩, hu2, hv2, HK3, HZ3, hbw3⟩
          case measure => simp [intOf]; have := HRL.out; omega
        · have hlt : ((top - low : Nat) : Int) < (v1 : Int) + (v2 : Int) := by omega
          clear hsmI hdfI hsm hdf c2 b1 b2 b3 b4 b7 b8
          clear sm df
          have z0 : wr.cell? ⟨w.heap.size, 0, none⟩ = some (.int .u64 0) := hbz.out.cell 0
          have z1 : wr.cell? ⟨w.heap.size, 1, none⟩ = some (.int .u64 0) := hbz.out.cell 1
          have z2 : wr.cell? ⟨w.heap.size, 2, none⟩ = some (.int .u64 0) := hbz.out.cell 2
          have z3 : wr.cell? ⟨w.heap.size, 3, none⟩ = some (.int .u64 0) := hbz.out.cell 3
          have z4 : wr.cell? ⟨w.heap.size, 4, none⟩ = some (.bool false) := hbz.out.cell 4
          have y0 := hbz.out.frozen 0
          have y1 := hbz.out.frozen 1
          have y2 := hbz.out.frozen 2
          have y3 := hbz.out.frozen 3
          have y4 := hbz.out.frozen 4
          have hend := ((((hbz.out.set_ 0 (.int .u64 (u0 : Nat))).set_ 1 (.int .u64 (v0 : Nat))).set_ 2 (.int .u64 (u1 : Nat))).set_ 3 (.int .u64 (v1 : Nat))).set_ 4 (.bool even)
          have HEND : Hid (Blk _ w.heap.size 98 #[.int .u64 (u0 : Nat), .int .u64 (v0 : Nat), .int .u64 (u1 : Nat), .int .u64 (v1 : Nat), .bool even]) := Lib.hid hend
          have hbe := ((((hbw.setCell (p := ⟨w.heap.size, 0, none⟩) (Nat.le_refl _) (.int .u64 (u0 : Nat))).setCell (p := ⟨w.heap.size, 1, none⟩) (Nat.le_refl _) (.int .u64 (v0 : Nat))).setCell (p := ⟨w.heap.size, 2, none⟩) (Nat.le_refl _) (.int .u64 (u1 : Nat))).setCell (p := ⟨w.heap.size, 3, none⟩) (Nat.le_refl _) (.int .u64 (v1 : Nat))).setCell (p := ⟨w.heap.size, 4, none⟩) (Nat.le_refl _) (.bool even)
          have HBE := Lib.hid hbe
          clear hend hbe
          go_wp2_with fail
          generalize ((((wr.setCell ⟨w.heap.size, 0, none⟩ (.int .u64 (u0 : Nat))).setCell ⟨w.heap.size, 1, none⟩ (.int .u64 (v0 : Nat))).setCell ⟨w.heap.size, 2, none⟩ (.int .u64 (u1 : Nat))).setCell ⟨w.heap.size, 3, none⟩ (.int .u64 (v1 : Nat))).setCell ⟨w.heap.size, 4, none⟩ (.bool even) = we at *
          have k0 : we.cell? ⟨w.heap.size, 0, none⟩ = some (.int .u64 (u0 : Nat)) := HEND.out.cell 0
          have k1 : we.cell? ⟨w.heap.size, 1, none⟩ = some (.int .u64 (v0 : Nat)) := HEND.out.cell 1
          have k2 : we.cell? ⟨w.heap.size, 2, none⟩ = some (.int .u64 (u1 : Nat)) := HEND.out.cell 2
          have k3 : we.cell? ⟨w.heap.size, 3, none⟩ = some (.int .u64 (v1 : Nat)) := HEND.out.cell 3
          have k4 : we.cell? ⟨w.heap.size, 4, none⟩ = some (.bool even) := HEND.out.cell 4
          refine bodyPost_ret (v := .agg #[.int .u64 (u0 : Nat), .int .u64 (v0 : Nat), .int .u64 (u1 : Nat), .int .u64 (v1 : Nat), .bool even]) (by simp [results, Tryd.results72, go_sem, k0, k1, k2, k3, k4]) rfl ?_
          exact ⟨u0, v0, u1, v1, even, rfl, huv0.out.1, huv0.out.2, hu1, hv1, fun hv => held_of hgs.out hv, HBE.out⟩
      · have hlt : (low : Int) < (v2 : Int) := by omega
        have z0 : wr.cell? ⟨w.heap.size, 0, none⟩ = some (.int .u64 0) := hbz.out.cell 0
        have z1 : wr.cell? ⟨w.heap.size, 1, none⟩ = some (.int .u64 0) := hbz.out.cell 1
        have z2 : wr.cell? ⟨w.heap.size, 2, none⟩ = some (.int .u64 0) := hbz.out.cell 2
        have z3 : wr.cell? ⟨w.heap.size, 3, none⟩ = some (.int .u64 0) := hbz.out.cell 3
        have z4 : wr.cell? ⟨w.heap.size, 4, none⟩ = some (.bool false) := hbz.out.cell 4
        have y0 := hbz.out.frozen 0
        have y1 := hbz.out.frozen 1
        have y2 := hbz.out.frozen 2
        have y3 := hbz.out.frozen 3
        have y4 := hbz.out.frozen 4
        have hend := ((((hbz.out.set_ 0 (.int .u64 (u0 : Nat))).set_ 1 (.int .u64 (v0 : Nat))).set_ 2 (.int .u64 (u1 : Nat))).set_ 3 (.int .u64 (v1 : Nat))).set_ 4 (.bool even)
        have HEND : Hid (Blk _ w.heap.size 98 #[.int .u64 (u0 : Nat), .int .u64 (v0 : Nat), .int .u64 (u1 : Nat), .int .u64 (v1 : Nat), .bool even]) := Lib.hid hend
        have hbe := ((((hbw.setCell (p := ⟨w.heap.size, 0, none⟩) (Nat.le_refl _) (.int .u64 (u0 : Nat))).setCell (p := ⟨w.heap.size, 1, none⟩) (Nat.le_refl _) (.int .u64 (v0 : Nat))).setCell (p := ⟨w.heap.size, 2, none⟩) (Nat.le_refl _) (.int .u64 (u1 : Nat))).setCell (p := ⟨w.heap.size, 3, none⟩) (Nat.le_refl _) (.int .u64 (v1 : Nat))).setCell (p := ⟨w.heap.size, 4, none⟩) (Nat.le_refl _) (.bool even)
        have HBE := Lib.hid hbe
        clear hend hbe
        go_wp2_with fail
        generalize ((((wr.setCell ⟨w.heap.size, 0, none⟩ (.int .u64 (u0 : Nat))).setCell ⟨w.heap.size, 1, none⟩ (.int .u64 (v0 : Nat))).setCell ⟨w.heap.size, 2, none⟩ (.int .u64 (u1 : Nat))).setCell ⟨w.heap.size, 3, none⟩ (.int .u64 (v1 : Nat))).setCell ⟨w.heap.size, 4, none⟩ (.bool even) = we at *
        have k0 : we.cell? ⟨w.heap.size, 0, none⟩ = some (.int .u64 (u0 : Nat)) := HEND.out.cell 0
        have k1 : we.cell? ⟨w.heap.size, 1, none⟩ = some (.int .u64 (v0 : Nat)) := HEND.out.cell 1
        have k2 : we.cell? ⟨w.heap.size, 2, none⟩ = some (.int .u64 (u1 : Nat)) := HEND.out.cell 2
        have k3 : we.cell? ⟨w.heap.size, 3, none⟩ = some (.int .u64 (v1 : Nat)) := HEND.out.cell 3
        have k4 : we.cell? ⟨w.heap.size, 4, none⟩ = some (.bool even) := HEND.out.cell 4
        refine bodyPost_ret (v := .agg #[.int .u64 (u0 : Nat), .int .u64 (v0 : Nat), .int .u64 (u1 : Nat), .int .u64 (v1 : Nat), .bool even]) (by simp [results, Tryd.results72, go_sem, k0, k1, k2, k3, k4]) rfl ?_
        exact ⟨u0, v0, u1, v1, even, rfl, huv0.out.1, huv0.out.2, hu1, hv1, fun hv => held_of hgs.out hv, HBE.out⟩
end Go.Proofs.YtajcapliokblfaaDoor
namespace Go.Proofs.YtajcapliokblfaaDoor
open Go Go.RowKit Nt
def GPair (a b : Nat) (va vb : Value) (x y : Nat) (w : World) : Prop :=
  ∃ (Ax Ay : Option Addr) (cx cy : Nat), va = .slice Ax (nd W x) cx ∧ vb = .slice Ay (nd W y) cy ∧ y ≤ x ∧ Nat.gcd x y = Nat.gcd a b ∧ nd W x ≤ 10000 ∧ nd W x ≤ cx ∧ nd W y ≤ cy ∧ Row w w.heap.size Ax x (nd W x) ∧ Row w w.heap.size Ay y (nd W y)
set_option maxRecDepth 100000 in
set_option maxHeartbeats 4000000 in
theorem Gcd_c (A A' : Option Addr) (c c' a b : Nat) (w : World) (hL : nd W a ≤ 10000) (hL' : nd W b ≤ 10000) (hc : nd W a ≤ c) (hc' : nd W b ≤ c') (hr : Row w w.heap.size A a (nd W a)) (hr' : Row w w.heap.size A' b (nd W b)) :
    Calls Tryd.prog 48 #[.slice A (nd W a) c, .slice A' (nd W b) c'] w (NumPost (Nat.gcd a b) w) := by
  have hcm := Cmp_c A A' c c' a b w.heap.size w (by omega) (by omega) hr hr'
  have HR := Lib.hid hr
  have HR' := Lib.hid hr'
  have HL := Lib.hid hL
  have HL' := Lib.hid hL'
  have HC := Lib.hid hc
  have HC' := Lib.hid hc'
  have HCM := Lib.hid hcm
  clear hr hr' hL hL' hc hc' hcm
  go_enter Tryd.func48, Tryd.ntmps48
  go_upto_if 14 with (go_at_call 44; refine HCM.out.mono ?_; rintro e w1 ⟨rfl, nn, rfl⟩)
  have hb1 : Below w.heap.size w (w.drewN nn) := below_drewN (Below.refl _ _) nn
  have HR1 : Hid (Row (w.drewN nn) (w.drewN nn).heap.size A a (nd W a)) := Lib.hid (HR.out.drewN nn)
  have HR1' : Hid (Row (w.drewN nn) (w.drewN nn).heap.size A' b (nd W b)) := Lib.hid (HR'.out.drewN nn)
  generalize w.drewN nn = w1 at *
  go_cut [0, 1] (fun va vb wc => ∃ x y, Hid (GPair a b va vb x y wc) ∧ wc = w1)
  case first =>
    by_cases h : a < b
    · have hcv := cmpN_lt h
      go_wp2_with fail
      go_meet
      case rel => exact ⟨b, a, Lib.hid ⟨A', A, c', c, rfl, rfl, by omega, Nat.gcd_comm _ _, HL'.out, HC'.out, HC.out, HR1'.out, HR1.out⟩, rfl⟩
    · have hcv : cmpN a b = 0 ∨ cmpN a b = 1 := by
        rcases Nat.lt_or_ge b a with h2 | h2
        · exact Or.inr (cmpN_gt h2)
        · exact Or.inl (by rw [show a = b by omega]; exact cmpN_eq b)
      rcases hcv with hcv | hcv
      all_goals
        go_wp2_with fail
        go_meet
        case rel => exact ⟨a, b, Lib.hid ⟨A, A', c, c', rfl, rfl, by omega, rfl, HL.out, HC.out, HC'.out, HR1.out, HR1'.out⟩, rfl⟩
  case rest =>
    obtain ⟨x, y, hp, rfl⟩ := hcut
    clear HCM HR HR' HR1 HR1' HL HL' HC HC'
    have HP := hp
    obtain ⟨Ax, Ay, cx, cy, rfl, rfl, -⟩ := hp.out
    clear hp
    go_wp2_with fail
    go_loopg [0, 1] y (fun G va vb wr => ∃ x y, Hid (y ≤ G) ∧ Hid (GPair a b va vb x y wr) ∧ Below w.heap.size w wr)
    case atStart => exact ⟨x, y, Lib.hid (Nat.le_refl _), HP, hb1⟩
    case round =>
      clear HP
      obtain ⟨x, y, hG, hp, hbw⟩ := hrel
      obtain ⟨Ax, Ay, cx, cy, rfl, rfl, hyx, hg, hx, hcx, hcy, hrx, hry⟩ := hp.out
      have HG1 := Lib.hid hg
      have HYX := Lib.hid hyx
      have HRX := Lib.hid hrx
      have HRY := Lib.hid hry
      have HCX := Lib.hid hcx
      have HCY := Lib.hid hcy
      have HX := Lib.hid hx
      have hny : nd W y ≤ nd W x := nd_mono W2 hyx
      have HNY := Lib.hid hny
      have hy4 : nd W y ≤ 10000 := Nat.le_trans hny hx
      clear hp hyx hg hrx hry hcx hcy
      by_cases h1 : 1 < nd W y
      · obtain ⟨m, hm⟩ : ∃ m, nd W x = m + 2 := ⟨nd W x - 2, by omega⟩
        have hgu := Guess_c Ax Ay cx cy x y m _ _ hm (by omega) HYX.out (by rw [← hm]; exact HRX.out) HRY.out (Nat.le_refl _)
        rw [← hm] at hgu
        have HGU := Lib.hid hgu
        have hy0 : y ≠ 0 := fun c => by rw [c, nd_zero] at h1; omega
        have HY0 := Lib.hid hy0
        clear hgu hy0
        have HM := Lib.hid hm
        have h1I : (1 : Int) < (nd W y : Int) := by omega
        clear hm hx hny
        go_upto_region 4 with fail
        clear h1 h1I hy4
        go_wp2_with fail
        refine HGU.out.mono ?_
        rintro e w2 ⟨u0, v0, u1, v1, even, rfl, hu0, hv0, hu1, hv1, hheld, hb2⟩
        have HH := Lib.hid hheld
        have hbw2 := below_chain hbw hb2
        have HRX2 := Lib.hid ((HRX.out.below hb2).more hb2.size)
        have HRY2 := Lib.hid ((HRY.out.below hb2).more hb2.size)
        clear hheld hb2 HRX HRY HGU
        have HW := Lib.hid (And.intro hu0 (And.intro hv0 (And.intro hu1 hv1)))
        clear hu0 hv0 hu1 hv1
        go_upto_region 5 with fail
        have hal : Below w2.heap.size w2 (w2.alloc (.cells #[.int .u64 (u0 : Nat), .int .u64 (v0 : Nat), .int .u64 (u1 : Nat), .int .u64 (v1 : Nat), .bool even] 98)) := (Below.refl _ _).alloc (Nat.le_refl _) _
        have HBK : Hid (Blk (w2.alloc (.cells #[.int .u64 (u0 : Nat), .int .u64 (v0 : Nat), .int .u64 (u1 : Nat), .int .u64 (v1 : Nat), .bool even] 98)) w2.heap.size 98 #[.int .u64 (u0 : Nat), .int .u64 (v0 : Nat), .int .u64 (u1 : Nat), .int .u64 (v1 : Nat), .bool even]) := Lib.hid (Blk.new _ _ _)
        have HRX3 := Lib.hid ((HRX2.out.below hal).more hal.size)
        have HRY3 := Lib.hid ((HRY2.out.below hal).more hal.size)
        have hbw3 := below_chain hbw2 hal
        clear hal HRX2 HRY2 hbw2
        obtain ⟨g, hge⟩ : ∃ g, g = w2.heap.size := ⟨_, rfl⟩
        rw [← hge] at HBK ⊢
        generalize w2.alloc (.cells #[.int .u64 (u0 : Nat), .int .u64 (v0 : Nat), .int .u64 (u1 : Nat), .int .u64 (v1 : Nat), .bool even] 98) = w3 at *
        clear hge
        have k1 : w3.cell? ⟨g, 1, none⟩ = some (.int .u64 (v0 : Nat)) := HBK.out.cell 1
        by_cases hv : v0 = 0
        · subst hv
          have HDV := Lib.hid (Div_all Ax Ay cx cy x y w3 HY0.out (by have := HX.out; omega) (by have := HX.out; have := HNY.out; omega) HRX3.out HRY3.out)
          go_wp2_with fail
          refine HDV.out.mono ?_
          rintro e w4 ⟨A3, c3, A4, c4, rfl, hc3, hc4, hr3, hr4, hb4⟩
          have hmod := Nat.mod_lt x (Nat.pos_of_ne_zero HY0.out)
          have HP2 : Hid (GPair a b (.slice Ay (nd W y) cy) (.slice A4 (nd W (x % y)) c4) y (x % y) w4) := Lib.hid ⟨Ay, A4, cy, c4, rfl, rfl, by omega, by rw [← HG1.out, Nat.gcd_comm x y, Nat.gcd_rec y x, Nat.gcd_comm], by have := HX.out; have := HNY.out; omega, HCY.out, hc4, (HRY3.out.below hb4).more hb4.size, hr4⟩
          have hbw4 := below_chain hbw3 hb4
          have HMOD := Lib.hid hmod
          clear hmod hc3 hc4 hr3 hr4 hb4
          go_wp2_with fail
          go_roundg (x % y)
          case rel => exact ⟨y, x % y, Lib.hid (Nat.le_refl _), HP2, hbw4⟩
          case measure => have := HMOD.out; have := hG.out; omega
        · obtain ⟨X, Y, hYX, -, hXx, hYy, hgg, hE, hO⟩ := HH.out hv
          have k0 : w3.cell? ⟨g, 0, none⟩ = some (.int .u64 (u0 : Nat)) := HBK.out.cell 0
          have k2 : w3.cell? ⟨g, 2, none⟩ = some (.int .u64 (u1 : Nat)) := HBK.out.cell 2
          have k3 : w3.cell? ⟨g, 3, none⟩ = some (.int .u64 (v1 : Nat)) := HBK.out.cell 3
          have k4 : w3.cell? ⟨g, 4, none⟩ = some (.bool even) := HBK.out.cell 4
          have hvI : ((v0 : Int) == 0) = false := by rw [beq_eq_false_iff_ne]; omega
          have HYy := Lib.hid (hYy hv)
          have HGG := Lib.hid hgg
          have HYX2 := Lib.hid hYX
          have HXx := Lib.hid hXx
          obtain ⟨q0, q1, q2, q3⟩ := HW.out
          have HDO := Lib.hid (Do_c Ax Ay cx cy x y u0 v0 u1 v1 w3.heap.size even w3 (by have := HX.out; omega) (by have := HX.out; have := HNY.out; omega) q0 q1 q2 q3 X Y hE hO HRX3.out HRY3.out (Nat.le_refl _))
          clear hYX hXx hYy hgg hE hO q0 q1 q2 q3 HH
          go_wp2_with fail
          refine HDO.out.mono ?_
          rintro e w4 ⟨A3, c3, A4, c4, rfl, hc3, hc4, hr3, hr4, hb4⟩
          have HP2 : Hid (GPair a b (.slice A3 (nd W X) c3) (.slice A4 (nd W Y) c4) X Y w4) := Lib.hid ⟨A3, A4, c3, c4, rfl, rfl, by have := HYX2.out; omega, HGG.out.trans HG1.out, Nat.le_trans (nd_mono W2 HXx.out) HX.out, hc3, hc4, hr3, hr4⟩
          have hbw4 := below_chain hbw3 hb4
          clear hc3 hc4 hr3 hr4 hb4
          go_wp2_with fail
          go_roundg Y
          case rel => exact ⟨X, Y, Lib.hid (Nat.le_refl _), HP2, hbw4⟩
          case measure => have := HYy.out; have := hG.out; omega
      · by_cases hy0 : y = 0
        · subst hy0
          have HGX : Hid (x = Nat.gcd a b) := Lib.hid (by have := HG1.out; rwa [Nat.gcd_zero_right] at this)
          have e0 : nd W 0 = 0 := nd_zero _
          rw [e0]
          obtain ⟨i0, hi0, hz0, hz1, hz2⟩ := info_parts (P := Tryd.prog) (e := 67) (z := .int .u64 0) (size := 1) (bytes := 8) (by kernel_rfl)
          clear h1 hx hny hy4 HRY HNY HCY e0
          go_wp2_with (at_builtin; go_loud (refine wpList_appWl _ rfl (.const (.slice none 0 0)) (.tmp 44) _ rfl 67 i0 Tryd.underlying45 hi0 hz0 hz1 hz2 x Ax (nd W x) cx _ rfl rfl HRX.out (by have := HX.out; omega) ?_); intro A2 c2 w2 hc2 hc22 hr2 hb2; have HR2 := Lib.hid hr2; clear hr2)
          go_ret
          rw [← HGX.out]
          exact NumPost.mk hc2 HR2.out (below_chain hbw hb2)
        · have hny1 : nd W y = 1 := by
            have : nd W y ≠ 0 := fun c => hy0 ((nd_eq_zero W2).1 c)
            omega
          obtain ⟨o1, o2, o3⟩ := one_word hny1
          obtain ⟨gy, e, hgy, hcell⟩ := HRY.out.at_ (k := 0) (by omega)
          rw [o1] at hcell
          have HTK := Lib.hid (Take_c Ax cx x y _ _ hy0 o3 (by have := HX.out; omega) HRX.out (Nat.le_refl _))
          have HY0 := Lib.hid hy0
          have HW := Lib.hid o3
          subst e
          rw [hny1]
          clear h1 hny1 hx hny hy4 HRY HNY HCY o1 o2 o3 hy0
          go_upto_region 11 with fail
          go_wp2_with fail
          refine HTK.out.mono ?_
          rintro e w4 ⟨A3, c3, rfl, -, -, -, -, hb4⟩
          have hc4 := (hb4.cell (p := ⟨gy, 0, none⟩) hgy).trans hcell
          have hbw4 := below_chain hbw hb4
          have HGG : Hid (Nat.gcd (x % y) y = Nat.gcd a b) := Lib.hid (by rw [← HG1.out, Nat.gcd_comm x y, Nat.gcd_rec y x])
          have hrw : x % y < 18446744073709551616 := Nat.lt_of_lt_of_le (Nat.mod_lt _ (Nat.pos_of_ne_zero HY0.out)) (Nat.le_of_lt HW.out)
          obtain ⟨r, hr⟩ : ∃ r, r = x % y := ⟨_, rfl⟩
          rw [← hr] at HGG hrw ⊢
          have HYW := Lib.hid HW.out
          clear hcell hb4 hbw HTK hr
          have hyw := HW.out
          go_wp2_with fail
          clear hc4
          go_loopw [9, 10] (fun vp vq wr => ∃ p q : Nat, vp = .int .u64 (p : Nat) ∧ vq = .int .u64 (q : Nat) ∧ p < 18446744073709551616 ∧ q < 18446744073709551616 ∧ Hid (Nat.gcd p q = Nat.gcd a b) ∧ Below w.heap.size w wr) (fun vp _ _ => (intOf vp).toNat)
          case atStart => exact ⟨r, y, rfl, rfl, hrw, hyw, HGG, hbw4⟩
          case round =>
            obtain ⟨p, q, rfl, rfl, hp, hq, hg2, hbw5⟩ := hrel
            by_cases hp0 : p = 0
            · subst hp0
              have HG2 : Hid (q = Nat.gcd a b) := Lib.hid (by have := hg2.out; rwa [Nat.gcd_zero_left] at this)
              go_wp2_with fail
              refine (Of_c q _ hq).mono ?_
              intro e w6 hpp
              obtain ⟨A6, c6, rfl, hc6, hr6, hb6⟩ := hpp.get
              go_wp2
              go_ret
              rw [← HG2.out]
              exact NumPost.mk hc6 hr6 (below_chain hbw5 hb6)
            · obtain ⟨t, ht⟩ : ∃ t, t = q % p := ⟨_, rfl⟩
              have htp : t < p := by rw [ht]; exact Nat.mod_lt _ (Nat.pos_of_ne_zero hp0)
              have hrI : ((q : Int) % (p : Int)) = (t : Int) := by rw [ht, Int.natCast_emod]
              have hrT : ((q : Int).tmod (p : Int)) = (t : Int) := by rw [Int.tmod_eq_emod_of_nonneg (by omega)]; exact hrI
              have hp0I : ((p : Int) == 0) = false := by rw [beq_eq_false_iff_ne]; omega
              have hp0J : ((p : Int) != 0) = true := by rw [bne_iff_ne]; omega
              have HG2 : Hid (Nat.gcd t p = Nat.gcd a b) := Lib.hid (by rw [← hg2.out, ht, Nat.gcd_rec p q])
              have HTP := Lib.hid htp
              have ht64 : t < 18446744073709551616 := by omega
              clear ht htp
              go_wp2_with fail
              go_roundw
              case rel => exact ⟨t, p, rfl, rfl, ht64, hp, HG2, hbw5⟩
              case measure => simp [intOf]; exact HTP.out
end Go.Proofs.YtajcapliokblfaaDoor
namespace Go.Proofs.YtajcapliokblfaaDoor
open Go Go.RowKit Nt
theorem fits_gcd {a b : Nat} (ha : fits a) (hb : fits b) : fits (Nat.gcd a b) := by
  rcases Nat.eq_zero_or_pos a with h | h
  · rw [h, Nat.gcd_zero_left]; exact hb
  · exact fits_le ha (Nat.gcd_le_left b h)
set_option maxRecDepth 100000 in
set_option maxHeartbeats 1000000 in
theorem NGcd_c (a b : Nat) (w : World) (ha : fits a) (hb : fits b) :
    Calls Tryd.prog 29 #[.string (natS a), .string (natS b)] w (StrPost (natS (Nat.gcd a b)) 0 w) := by
  have hm := may2 ha hb
  have hg := fits_gcd ha hb
  have e3 := resS_ok hg
  have e4 := resE_ok hg
  have hwg := fits_words hg
  have hwa := fits_words ha
  have hwb := fits_words hb
  go_enter Tryd.func29, Tryd.ntmps29
  go_upto_region 4 with (first
    | (go_at_call 46; refine (all_c _ 2 [natS a, natS b] _ (by simp) (strs_new w 23 [natS a, natS b])).mono ?_; rintro e w' ⟨rfl, rfl⟩))
  have hbw : Below w.heap.size w (w.alloc (.cells #[.string (natS a), .string (natS b)] 23)) := (Below.refl _ _).alloc (Nat.le_refl _) _
  generalize w.alloc (.cells #[.string (natS a), .string (natS b)] 23) = w1 at *
  go_wp2_with fail
  refine (words_c a _ ha).mono ?_
  intro e w2 hp
  obtain ⟨A1, c1, rfl, hc1, hr1, hb2⟩ := hp.get
  have HR1 := Lib.hid hr1
  clear hr1 hp
  go_wp2_with fail
  refine (words_c b _ hb).mono ?_
  intro e w3 hp
  obtain ⟨A2, c2, rfl, hc2, hr2, hb3⟩ := hp.get
  have HR2 := Lib.hid hr2
  clear hr2 hp
  go_wp2_with fail
  refine (Gcd_c A1 A2 c1 c2 a b w3 (by omega) (by omega) hc1 hc2 ((HR1.out.below hb3).more hb3.size) HR2.out).mono ?_
  intro e w4 hp
  obtain ⟨A3, c3, rfl, hc3, hr3, hb4⟩ := hp.get
  have HR3 := Lib.hid hr3
  clear hr3 hp
  go_wp2_with fail
  refine (made_c A3 c3 (Nat.gcd a b) w4.heap.size w4 (by omega) HR3.out (Nat.le_refl _)).mono ?_
  rintro e w5 ⟨rfl, hb5⟩
  rw [e3, e4]
  go_wp2_with fail
  go_ret2
  exact ⟨rfl, hbw.trans ((below_chain hb2 (below_chain hb3 (below_chain hb4 hb5))).mono hbw.size)⟩
end Go.Proofs.YtajcapliokblfaaDoor
namespace Go.Proofs.YtajcapliokblfaaDoor
open Go Go.RowKit Nt
theorem toList_empty {s : ByteArray} (h : s.size = 0) : s.toList = [] := by
  rw [ba_toList]; exact List.eq_nil_of_length_eq_zero (by rw [Array.length_toList]; exact h)
theorem toList_full {s : ByteArray} (h : 0 < s.size) : ¬ s.toList = [] := fun c => by
  rw [ba_toList] at c
  have : s.data.toList.length = 0 := by rw [c]; rfl
  rw [Array.length_toList] at this
  have h2 : s.size = s.data.size := rfl
  omega
theorem toList_full2 {s : ByteArray} (h : 0 < s.size) : s.toList.isEmpty = false := by
  have := toList_full h
  cases h2 : s.toList with
  | nil => exact absurd h2 this
  | cons x l => rfl
end Go.Proofs.YtajcapliokblfaaDoor
namespace Go.Proofs.YtajcapliokblfaaDoor
open Go Go.RowKit Nt
set_option maxRecDepth 100000 in
theorem NLen_c (n : Nat) (w : World) (hf : fits n) :
    Calls Tryd.prog 77 #[.string (natS n)] w (IntPost (nd 2 n : Nat) 0 w) := by
  have hm := may1 hf
  by_cases h0 : n = 0
  · have hE := natS_empty h0
    have HZ := Lib.hid (show nd 2 n = 0 by rw [h0, nd_zero])
    clear h0
    go_enter Tryd.func77, Tryd.ntmps77
    go_wp2_with (go_at_call 28; refine (Check_c _ _).mono ?_; rintro e w1 ⟨rfl, hb⟩)
    go_ret2
    exact ⟨by rw [HZ.out]; rfl, hb⟩
  · have hE := natS_full h0
    have hE2 := natS_full2 h0
    have hsz := natS_size n
    obtain ⟨L, hL⟩ : ∃ L, nd 256 n = L + 1 := ⟨nd 256 n - 1, by
      rcases Nat.eq_zero_or_pos (nd 256 n) with h | h
      · exact absurd ((nd_eq_zero (by omega)).1 h) h0
      · omega⟩
    have HT := Lib.hid (nd_top (b := 2) (c := 256) (e := 8) (by omega) (by omega) (by rfl) n h0)
    have hp : 0 < (natS n).size := by omega
    have hg := natS_get n 0 hp
    unfold fits at hf
    rw [hL] at hsz hg HT hf
    have hlt : (natS n)[0].toNat < 256 := (natS n)[0].toNat_lt
    have hbl := bitLen_nd (x := (natS n)[0].toNat) (by omega)
    have hle : nd 2 (natS n)[0].toNat ≤ 8 := nd_le (by omega) (by omega)
    have hfin : 8 * (L : Int) + (Go.Lib.bitLen (natS n)[0].toNat : Int) = (nd 2 n : Int) := by
      have h1 := HT.out
      rw [Nat.add_sub_cancel, Nat.sub_zero] at hg
      rw [Nat.add_sub_cancel, ← hg] at h1
      rw [hbl, h1]; omega
    have hle2 : Go.Lib.bitLen (natS n)[0].toNat ≤ 8 := by rw [hbl]; exact hle
    have HF := Lib.hid hfin
    clear hfin hg hbl hle h0
    go_enter Tryd.func77, Tryd.ntmps77
    go_wp2_with (first | (go_at_call 28; refine (Check_c _ _).mono ?_; rintro e w1 ⟨rfl, hb⟩) | (go_at_call 97; refine (Tryd.bits_Len8 _ _ (by omega) (by omega)).mono ?_; rintro e w' ⟨rfl, rfl⟩))
    go_ret2
    refine ⟨?_, hb⟩
    have h2 := HF.out
    simp only [Int.toNat_natCast]
    rw [← h2]; rfl
end Go.Proofs.YtajcapliokblfaaDoor
namespace Go.Proofs.YtajcapliokblfaaDoor
open Go Go.RowKit Nt
theorem bits_131072 {a : Nat} (hf : fits a) : nd 2 a ≤ 131072 := (bits_le a 16384).2 hf
end Go.Proofs.YtajcapliokblfaaDoor
namespace Go.Proofs.YtajcapliokblfaaDoor
open Go Go.RowKit Nt
theorem half_step (n m : Nat) : n / 2 ^ m = 2 * (n / 2 ^ (m + 1)) + n / 2 ^ m % 2 := by
  rw [Nat.pow_succ, ← Nat.div_div_eq_div_mul]; omega
theorem pow_even {a n m : Nat} (h : n / 2 ^ m % 2 = 0) : a ^ (n / 2 ^ (m + 1)) * a ^ (n / 2 ^ (m + 1)) = a ^ (n / 2 ^ m) := by
  rw [← Nat.pow_add]; congr 1; have := half_step n m; omega
theorem pow_odd {a n m : Nat} (h : n / 2 ^ m % 2 = 1) : a ^ (n / 2 ^ (m + 1)) * a ^ (n / 2 ^ (m + 1)) * a = a ^ (n / 2 ^ m) := by
  rw [← Nat.pow_add, ← Nat.pow_succ]; congr 1; have := half_step n m; omega
theorem pow_words {a n e : Nat} (hn : (nd 2 a - 1) * n < 131072) (h1 : 1 ≤ nd 2 a) (hn2 : n < 131072) (he : e ≤ n) (ha : a ≠ 0) : nd W (a ^ e) ≤ 262144 := by
  have h2 := lt_nd (b := 2) (n := a) (by omega)
  have h3 : a ^ e ≤ (2 ^ nd 2 a) ^ e := Nat.pow_le_pow_left (Nat.le_of_lt h2) e
  rw [← Nat.pow_mul] at h3
  have h4 : nd 2 a * e ≤ nd 2 a * n := Nat.mul_le_mul_left _ he
  have h5 : nd 2 a * n = (nd 2 a - 1) * n + n := by
    obtain ⟨q, hq⟩ : ∃ q, nd 2 a = q + 1 := ⟨nd 2 a - 1, by omega⟩
    rw [hq, Nat.add_sub_cancel, Nat.succ_mul]
  have h6 : nd W (a ^ e) ≤ nd 2 (a ^ e) := by
    refine nd_le W2 (Nat.lt_of_lt_of_le (lt_nd (b := 2) (by omega)) (Nat.pow_le_pow_left ?_ _))
    rw [W_eq]; omega
  have h7 : nd 2 (a ^ e) ≤ nd 2 a * e + 1 := nd_le (by omega) (by rw [Nat.pow_succ]; have := Nat.two_pow_pos (nd 2 a * e); omega)
  omega
theorem and_one_i64 (q : Nat) (hq : q < 9223372036854775808) : bits BinOp.and IntKind.i64 (q : Int) 1 = ((q % 2 : Nat) : Int) := by
  have h1 : (BitVec.ofInt 64 (q : Int)).toNat = q := by
    rw [BitVec.ofInt_natCast, BitVec.toNat_ofNat]; exact Nat.mod_eq_of_lt (by omega)
  have h2 : (BitVec.ofInt 64 (1 : Int)).toNat = 1 := by decide
  show IntKind.i64.wrap ((BitVec.ofInt 64 (q : Int) &&& BitVec.ofInt 64 (1 : Int)).toNat : Int) = _
  rw [BitVec.toNat_and, h1, h2, Nat.and_one_is_mod, IntKind.wrap_i64]
  omega
theorem Of_1 (w : World) : Calls Tryd.prog 58 #[.int .u64 1] w fun e w' => e = .returned (.string (natS 1)) ∧ Below w.heap.size w w' := Of_n 1 w (by decide)
set_option maxRecDepth 100000 in
theorem NPow_zero (a : Nat) (w : World) (hf : fits a) :
    Calls Tryd.prog 57 #[.string (natS a), .int .i64 0] w (StrPost (natS 1) 0 w) := by
  go_enter Tryd.func57, Tryd.ntmps57
  go_wp2_with (first | (go_at_call 77; refine (NLen_c _ _ hf).mono ?_; rintro e w1 ⟨rfl, hb⟩) | (go_at_call 58; refine (Of_1 _).mono ?_; rintro e w2 ⟨rfl, hb2⟩))
  go_ret2
  exact ⟨rfl, below_chain hb hb2⟩
set_option maxRecDepth 100000 in
theorem NPow_same (a n : Nat) (w : World) (hf : fits a) (hn : n ≠ 0) (h : nd 2 a ≤ 1 ∨ n = 1) :
    Calls Tryd.prog 57 #[.string (natS a), .int .i64 (n : Nat)] w (StrPost (natS a) 0 w) := by
  have z1 := eqz_false hn
  have z2 : ¬ (n : Int) < 0 := by omega
  have hc : nd 2 a ≤ 1 ∨ (¬ nd 2 a ≤ 1 ∧ n = 1) := by omega
  clear h hn
  rcases hc with h | ⟨h, h1⟩
  case' inl => have hI : (nd 2 a : Int) ≤ 1 := by omega
  case' inr =>
    have hI : ¬ (nd 2 a : Int) ≤ 1 := by omega
    have h1' : ((n : Int) == 1) = true := by rw [beq_iff_eq]; omega
    have H1 := Lib.hid h1
    clear h1
  all_goals
    go_enter Tryd.func57, Tryd.ntmps57
    go_wp2_with (go_at_call 77; refine (NLen_c _ _ hf).mono ?_; rintro e w1 ⟨rfl, hb⟩)
    go_ret2
    exact ⟨rfl, hb⟩
@[irreducible] def maxB (z : Int) : Bool := decide (131072 ≤ z)
@[local go_sem] theorem ge_maxB (z : Int) : decide ((131072 : Int) ≤ z) = maxB z := by unfold maxB; rfl
set_option maxRecDepth 100000 in
set_option maxHeartbeats 2000000 in
theorem NPow_c (a n : Nat) (w : World) (hf : fits a) (h2 : 2 ≤ nd 2 a) (hn : 2 ≤ n) (hn2 : n < 131072) (hs : (nd 2 a - 1) * n < 131072) :
    Calls Tryd.prog 57 #[.string (natS a), .int .i64 (n : Nat)] w (StrPost (resS (a ^ n)) (resE (a ^ n)) w) := by
  have z1 := eqz_false (x := n) (by omega)
  have z2 : ¬ (n : Int) < 0 := by omega
  have z3 : ¬ (nd 2 a : Int) ≤ 1 := by omega
  have z4 : ((n : Int) == 1) = false := by rw [beq_eq_false_iff_ne]; omega
  have hl := bits_131072 hf
  have ha0 : a ≠ 0 := fun c => by rw [c, nd_zero] at h2; omega
  have hB : maxB (n : Int) = false := by unfold maxB; exact decide_eq_false (by omega)
  obtain ⟨p, hp⟩ : ∃ p, p = (nd 2 a - 1) * n := ⟨_, rfl⟩
  have hw0 : wrap64 ((nd 2 a : Int) - 1) = (nd 2 a : Int) - 1 := IntWalk.wrap64_in _ (by omega)
  have hm : ((nd 2 a : Int) - 1) * (n : Int) = (p : Int) := by rw [hp, Int.natCast_mul]; congr 1; omega
  have hw1 : wrap64 (p : Int) = (p : Int) := IntWalk.wrap64_in _ (by omega)
  have hC : maxB (p : Int) = false := by unfold maxB; exact decide_eq_false (by omega)
  have hwn : IntKind.u64.wrap (n : Int) = (n : Int) := by rw [IntKind.wrap_u64]; omega
  have hbl := bitLen_nd (x := n) (by omega)
  obtain ⟨b, hb⟩ : ∃ b, nd 2 n = b + 2 := ⟨nd 2 n - 2, by have := (pow_le_iff (b := 2) (by omega) 1 n).1 (by omega); omega⟩
  have hb17 : nd 2 n ≤ 17 := nd_le (by omega) (by have : (2 : Nat) ^ 17 = 131072 := by decide
                                                  omega)
  have hlen : ∀ w, Calls Tryd.prog 78 #[.int .u64 (n : Nat)] w fun e w' => e = .returned (.int .i64 ((b : Int) + 2)) ∧ w = w' := fun w => by
    refine (Tryd.bits_Len _ _ (by omega) (by omega)).mono ?_
    rintro e w' ⟨rfl, rfl⟩
    refine ⟨ret_int ?_, rfl⟩
    rw [Int.toNat_natCast, hbl, hb]; omega
  have hw2 : wrap64 ((b : Int) + 2 - 2) = (b : Int) := by rw [IntWalk.wrap64_in _ (by omega)]; omega
  have hPW : ∀ e, e ≤ n → nd W (a ^ e) ≤ 262144 := fun e he => pow_words hs (by omega) hn2 he ha0
  have hstart : n / 2 ^ (b + 1) = 1 := by
    have h3 := lt_nd (b := 2) (n := n) (by omega)
    have h4 := (pow_le_iff (b := 2) (by omega) (b + 1) n).2 (by omega)
    rw [hb, show b + 2 = (b + 1) + 1 by omega, Nat.pow_succ] at h3
    exact Nat.div_eq_of_lt_le (by rw [Nat.one_mul]; exact h4) (by omega)
  have KL := Lib.hid hlen
  have KP := Lib.hid hPW
  have KS := Lib.hid hstart
  have hwa := Lib.hid (fits_words hf)
  have HNL := Lib.hid hn2
  have hbI : (b : Int) ≤ 15 := by omega
  clear hp hlen hPW hbl hstart hb17 hs ha0 hl h2 hb
  go_enter Tryd.func57, Tryd.ntmps57
  go_upto_region 12 with (go_at_call 77; refine (NLen_c _ _ hf).mono ?_; rintro e w1 ⟨rfl, hb1⟩)
  go_wp2_with fail
  refine (words_c a _ hf).mono ?_
  intro e w2 hp
  obtain ⟨A1, c1, rfl, hc1, hr1, hb2⟩ := hp.get
  have HR1 := Lib.hid hr1
  have HB12 := Lib.hid (below_chain hb1 hb2)
  clear hr1 hp hb1 hb2
  go_wp2_with (go_at_call 78; refine (KL.out _).mono ?_; rintro e w' ⟨rfl, rfl⟩)
  go_loopw [9, 10] (fun x i wr => ∃ (k c : Nat) (z : Int) (A : Option Addr), k ≤ b + 1 ∧ i = .int .i64 z ∧ Hid (z = (k : Int) - 1) ∧ x = .slice A (nd W (a ^ (n / 2 ^ k))) c ∧ nd W (a ^ (n / 2 ^ k)) ≤ c ∧ Hid (Row wr wr.heap.size A (a ^ (n / 2 ^ k)) (nd W (a ^ (n / 2 ^ k)))) ∧ Hid (Row wr wr.heap.size A1 a (nd W a)) ∧ Hid (Below w.heap.size w wr)) (fun _ i _ => (intOf i + 1).toNat)
  case atStart =>
    have e : a ^ (n / 2 ^ (b + 1)) = a := by rw [KS.out, Nat.pow_one]
    exact ⟨b + 1, c1, b, A1, Nat.le_refl _, rfl, Lib.hid (by omega), by rw [e], by rw [e]; exact hc1, by rw [e]; exact HR1, HR1, HB12⟩
  case round =>
    obtain ⟨k, c, z, A, hk, rfl, hz, rfl, hc, hrow, hbase, hbw⟩ := hrel
    by_cases hk0 : k = 0
    · subst hk0
      obtain rfl : z = -1 := by have := hz.out; omega
      have e : a ^ (n / 2 ^ 0) = a ^ n := by rw [Nat.pow_zero, Nat.div_one]
      rw [e] at hc hrow ⊢
      have hpw := Lib.hid (KP.out n (Nat.le_refl _))
      clear e
      go_wp2_with fail
      refine (made_c A c (a ^ n) _ _ (by have := hpw.out; omega) hrow.out (Nat.le_refl _)).mono ?_
      rintro e w' ⟨rfl, hb'⟩
      go_wp2_with fail
      go_ret2
      exact ⟨rfl, below_chain hbw.out hb'⟩
    · obtain ⟨m, rfl⟩ : ∃ m, k = m + 1 := ⟨k - 1, by omega⟩
      obtain rfl : z = (m : Int) := by have := hz.out; omega
      obtain ⟨q, hq⟩ : ∃ q, q = n / 2 ^ m := ⟨_, rfl⟩
      have hqn : q ≤ n := by rw [hq]; exact Nat.div_le_self _ _
      have hqI : (n : Int) / 2 ^ m = (q : Int) := by rw [hq, int_pow2, Int.natCast_ediv]
      have hand := and_one_i64 q (by have := HNL.out; omega)
      have hw3 : wrap64 ((m : Int) - 1) = (m : Int) - 1 := IntWalk.wrap64_in _ (by omega)
      have hm15 : (m : Int) ≤ 16 := by omega
      have e1 := Lib.hid (KP.out (n / 2 ^ (m + 1)) (Nat.div_le_self _ _))
      have e2 := Lib.hid (KP.out (n / 2 ^ m) (Nat.div_le_self _ _))
      rcases Nat.mod_two_eq_zero_or_one q with hb0 | hb0
      · have hpe := pow_even (a := a) (n := n) (m := m) (by rw [← hq]; exact hb0)
        rw [hb0] at hand
        have HPE := Lib.hid hpe
        clear hpe hb0 hq hqn
        go_wp2_with fail
        refine (Mul_c A A c c _ _ _ _ (by have := e1.out; omega) hrow.out hrow.out (Nat.le_refl _)).mono ?_
        rw [HPE.out]
        intro e w3 hp
        obtain ⟨A3, c3, rfl, hc3, hr3, hb3⟩ := hp.get
        have HR3 := Lib.hid hr3
        have HBS := Lib.hid ((hbase.out.below hb3).more hb3.size)
        have HBW := Lib.hid (below_chain hbw.out hb3)
        clear hr3 hp hb3
        go_wp2_with fail
        go_roundw
        case rel => exact ⟨m, c3, _, A3, by omega, rfl, Lib.hid rfl, rfl, hc3, HR3, HBS, HBW⟩
        case measure => simp [intOf]
      · have hpo := pow_odd (a := a) (n := n) (m := m) (by rw [← hq]; exact hb0)
        rw [hb0] at hand
        have HPO := Lib.hid hpo
        have hsq := mul_words (a ^ (n / 2 ^ (m + 1))) (a ^ (n / 2 ^ (m + 1)))
        have HSQ := Lib.hid hsq
        clear hpo hb0 hq hqn hsq
        go_wp2_with fail
        refine (Mul_c A A c c _ _ _ _ (by have := e1.out; omega) hrow.out hrow.out (Nat.le_refl _)).mono ?_
        intro e w3 hp
        obtain ⟨A3, c3, rfl, hc3, hr3, hb3⟩ := hp.get
        have HR3 := Lib.hid hr3
        have HBS := Lib.hid ((hbase.out.below hb3).more hb3.size)
        have HBW := Lib.hid (below_chain hbw.out hb3)
        clear hr3 hp hb3
        go_wp2_with fail
        refine (Mul_c A3 A1 c3 c1 _ a _ _ (by have := HSQ.out; have := e1.out; have := hwa.out; omega) HR3.out HBS.out (Nat.le_refl _)).mono ?_
        rw [HPO.out]
        intro e w4 hp
        obtain ⟨A4, c4, rfl, hc4, hr4, hb4⟩ := hp.get
        have HR4 := Lib.hid hr4
        have HBS4 := Lib.hid ((HBS.out.below hb4).more hb4.size)
        have HBW4 := Lib.hid (below_chain HBW.out hb4)
        clear hr4 hp hb4
        go_wp2_with fail
        go_roundw
        case rel => exact ⟨m, c4, _, A4, by omega, rfl, Lib.hid rfl, rfl, hc4, HR4, HBS4, HBW4⟩
        case measure => simp [intOf]
end Go.Proofs.YtajcapliokblfaaDoor
namespace Go.Proofs.YtajcapliokblfaaDoor
open Go Go.RowKit Nt
def DOk (g : Bool) (s : ByteArray) (x : Int) : Prop := (s = ⟨#[]⟩ ∧ g = false ∧ x = 0) ∨ ∃ n, fits n ∧ n % 2 = 1 ∧ s = natS n ∧ -1048576 ≤ x ∧ x ≤ 1048576
end Go.Proofs.YtajcapliokblfaaDoor
namespace Go.Proofs.YtajcapliokblfaaDoor
open Go Go.RowKit Nt
theorem bits_131072' {n : Nat} (h : fits n) : nd 2 n ≤ 131072 := by
  have := (bits_le n 16384).2 h; omega
end Go.Proofs.YtajcapliokblfaaDoor
namespace Go.Proofs.YtajcapliokblfaaDoor
open Go Go.RowKit Nt
def BP (w : World) (l : List C3) (rs : List (Option Addr × Nat × Nat)) (W : World) : Prop := BR w l W ∧ ∀ r ∈ rs, Row W W.heap.size r.1 r.2.1 r.2.2
section
variable {w : World} {l : List C3} {rs : List (Option Addr × Nat × Nat)} {W W' : World}
theorem BP.br (h : BP w l rs W) : BR w l W := h.1
theorem BP.row (h : BP w l rs W) (A : Option Addr) (n L : Nat) (hr : (A, n, L) ∈ rs) : Row W W.heap.size A n L := h.2 _ hr
theorem BP.step (h : BP w l rs W) (hb : Below W.heap.size W W') : BP w l rs W' := ⟨h.1.step hb, fun r hr => ((h.2 r hr).below hb).more hb.size⟩
theorem BP.drawn (h : BP w l rs W) (n : Nat) : BP w l rs (W.drewN n) := h.step (below_drewN (Below.refl _ _) n)
theorem BP.drew (h : BP w l rs W) : BP w l rs W.drew := h.step (Below.refl _ _).drew
theorem BP.put (h : BP w l rs W) {n : Nat} (hn : l.length = n) (x : Bool) (y z : Value) : BP w l rs (((W.setCell ⟨w.heap.size + n, 0, none⟩ (.bool x)).setCell ⟨w.heap.size + n, 1, none⟩ y).setCell ⟨w.heap.size + n, 2, none⟩ z) :=
  ⟨h.1.put hn x y z, fun r hr => by simpa using h.1.row hn (h.2 r hr) (.bool x) y z⟩
end
theorem q_whole (z : Int) : qG (z : Rat) = decide (z < 0) ∧ qN (z : Rat) = z.natAbs ∧ qD (z : Rat) = 1 := by
  unfold qG qN qD
  rw [Rat.num_intCast, Rat.den_intCast]
  exact ⟨rfl, rfl, rfl⟩
theorem natS_1r : natS 1 = ⟨#[1]⟩ := natS_one (by decide) (by decide)
set_option maxRecDepth 100000 in
theorem PWhole_c (z : Int) (w : World) (h1 : -9223372036854775808 ≤ z) (h2 : z ≤ 9223372036854775807) :
    Calls Tryd.prog 64 #[.int .i64 z] w fun e w' => e = .returned (qv (z : Rat)) ∧ Below w.heap.size w w' := by
  obtain ⟨q1, q2, q3⟩ := q_whole z
  have HQ : Hid (qv (z : Rat) = .agg #[.bool (decide (z < 0)), .string (natS z.natAbs), .string ⟨#[1]⟩]) := Lib.hid (by rw [qv, q1, q2, q3, natS_1r])
  have hn : z.natAbs < 18446744073709551616 := by omega
  have K := Lib.hid (fun w => Of_n z.natAbs w hn)
  clear q1 q2 q3
  by_cases hz : z < 0
  case' pos =>
    have hz1 : decide (z < 0) = true := decide_eq_true hz
    have hw : IntKind.u64.wrap z = z + 18446744073709551616 := by rw [IntKind.wrap_u64]; omega
    have hw2 : IntKind.u64.wrap (-(z + 18446744073709551616)) = (z.natAbs : Int) := by rw [IntKind.wrap_u64]; omega
  case' neg =>
    have hz1 : decide (z < 0) = false := decide_eq_false hz
    have hw : IntKind.u64.wrap z = (z.natAbs : Int) := by rw [IntKind.wrap_u64]; omega
  all_goals
    have HH := Lib.hid hn
    clear hn h1 h2
    generalize z.natAbs = a at *
    have T0 := BR.start0 w false (.string ⟨#[]⟩) (.string ⟨#[]⟩) 25
    go_enter Tryd.func64, Tryd.ntmps64
    go_wp2_with fail
    refine (K.out _).mono ?_
    rintro ee w1 ⟨rfl, hb⟩
    replace T0 := T0.step hb
    obtain ⟨q0, q1, q2, q3, q4, q5, q6⟩ := T0.res0
    have hfin := below_put3 T0.1 (Nat.le_refl _)
    clear hb
    go_wp2_with fail
    refine bodyPost_ret (v := .agg #[.bool (decide (z < 0)), .string (natS a), .string ⟨#[1]⟩]) (by simp [results, Tryd.results64, go_sem, q0, q1, q2, q3, hz1]) rfl ⟨by rw [HQ.out], hfin _ _ _⟩
end Go.Proofs.YtajcapliokblfaaDoor
