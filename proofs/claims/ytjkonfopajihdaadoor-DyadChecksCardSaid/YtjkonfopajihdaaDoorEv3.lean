/- A closed run, reckoned: what asks nothing of the world. -/
import Derived.Test.YtjkonfopajihdaaDoorEv2
set_option linter.unusedVariables false
set_option linter.unusedSimpArgs false
namespace Go.Proofs.YtjkonfopajihdaaDoor
open Go Go.RowKit

section
variable {P : Program} {R : Rho}
/-- The temporary has its place in the tree. -/
def trHas : Tr → Nat → Prop
  | .lf, _ => False
  | .nd _ l r, i => i = 0 ∨ (i ≠ 0 ∧ i % 2 = 1 ∧ trHas l (i / 2)) ∨ (i ≠ 0 ∧ i % 2 ≠ 1 ∧ trHas r (i / 2 - 1))
theorem trGet_nd (v : AV) (l r : Tr) (i : Nat) : trGet (.nd v l r) i = if i = 0 then v else if i % 2 = 1 then trGet l (i / 2) else trGet r (i / 2 - 1) := by
  show (Bool.rec (Bool.rec (trGet r (i / 2 - 1)) (trGet l (i / 2)) (Nat.beq (i % 2) 1)) v (Nat.beq i 0) : AV) = _
  cases h : Nat.beq i 0 with
  | true => rw [if_pos (Nat.eq_of_beq_eq_true h)]
  | false =>
    rw [if_neg (Nat.ne_of_beq_eq_false h)]
    cases h2 : Nat.beq (i % 2) 1 with
    | true => rw [if_pos (Nat.eq_of_beq_eq_true h2)]
    | false => rw [if_neg (Nat.ne_of_beq_eq_false h2)]
theorem trSet_nd (v u : AV) (l r : Tr) (i : Nat) : trSet v (.nd u l r) i = if i = 0 then .nd v l r else if i % 2 = 1 then .nd u (trSet v l (i / 2)) r else .nd u l (trSet v r (i / 2 - 1)) := by
  show (Bool.rec (Bool.rec (.nd u l (trSet v r (i / 2 - 1))) (.nd u (trSet v l (i / 2)) r) (Nat.beq (i % 2) 1)) (.nd v l r) (Nat.beq i 0) : Tr) = _
  cases h : Nat.beq i 0 with
  | true => rw [if_pos (Nat.eq_of_beq_eq_true h)]
  | false =>
    rw [if_neg (Nat.ne_of_beq_eq_false h)]
    cases h2 : Nat.beq (i % 2) 1 with
    | true => rw [if_pos (Nat.eq_of_beq_eq_true h2)]
    | false => rw [if_neg (Nat.ne_of_beq_eq_false h2)]
theorem trGet_set {v : AV} : ∀ {t : Tr} {i j : Nat}, trHas t i → trGet (trSet v t i) j = if j = i then v else trGet t j
  | .lf, _, _, h => h.elim
  | .nd u l r, i, j, h => by
    rw [trSet_nd, trGet_nd u l r j]
    rcases h with rfl | ⟨h0, h1, h2⟩ | ⟨h0, h1, h2⟩
    · rw [if_pos rfl, trGet_nd]
      by_cases hj : j = 0
      · rw [if_pos hj, if_pos hj]
      · rw [if_neg hj, if_neg hj, if_neg hj]
    · rw [if_neg h0, if_pos h1, trGet_nd]
      by_cases hj : j = 0
      · rw [if_pos hj, if_neg (by omega), if_pos hj]
      · rw [if_neg hj, if_neg hj]
        by_cases hj1 : j % 2 = 1
        · rw [if_pos hj1, if_pos hj1, trGet_set h2]
          by_cases e : j = i
          · rw [if_pos (by rw [e]), if_pos e]
          · rw [if_neg (by omega), if_neg e]
        · rw [if_neg hj1, if_neg hj1, if_neg (by omega)]
    · rw [if_neg h0, if_neg h1, trGet_nd]
      by_cases hj : j = 0
      · rw [if_pos hj, if_neg (by omega), if_pos hj]
      · rw [if_neg hj, if_neg hj]
        by_cases hj1 : j % 2 = 1
        · rw [if_pos hj1, if_pos hj1, if_neg (by omega)]
        · rw [if_neg hj1, if_neg hj1, trGet_set h2]
          by_cases e : j = i
          · rw [if_pos (by rw [e]), if_pos e]
          · rw [if_neg (by omega), if_neg e]
theorem trHas_set {v : AV} : ∀ {t : Tr} {i j : Nat}, trHas t j → trHas (trSet v t i) j
  | .lf, _, _, h => h.elim
  | .nd u l r, i, j, h => by
    rw [trSet_nd]
    by_cases h0 : i = 0
    · rw [if_pos h0]; exact h
    · rw [if_neg h0]
      by_cases h1 : i % 2 = 1
      · rw [if_pos h1]
        rcases h with h | ⟨a, b, c⟩ | h
        · exact .inl h
        · exact .inr (.inl ⟨a, b, trHas_set c⟩)
        · exact .inr (.inr h)
      · rw [if_neg h1]
        rcases h with h | h | ⟨a, b, c⟩
        · exact .inl h
        · exact .inr (.inl h)
        · exact .inr (.inr ⟨a, b, trHas_set c⟩)
theorem trHas_full : ∀ (d : Nat) {i : Nat}, i + 1 < 2 ^ d → trHas (trFull d) i
  | 0, i, h => by omega
  | d + 1, i, h => by
    rw [Nat.pow_succ] at h
    show i = 0 ∨ _ ∨ _
    by_cases h0 : i = 0
    · exact .inl h0
    · by_cases h1 : i % 2 = 1
      · exact .inr (.inl ⟨h0, h1, trHas_full d (by omega)⟩)
      · exact .inr (.inr ⟨h0, h1, trHas_full d (by omega)⟩)
theorem trGet_full : ∀ (d : Nat) (i : Nat), trGet (trFull d) i = .lit undef
  | 0, _ => rfl
  | d + 1, i => by
    show trGet (.nd (.lit undef) (trFull d) (trFull d)) i = _
    rw [trGet_nd, trGet_full d, trGet_full d]
    split
    · rfl
    · split <;> rfl
/-- The frame is the temporaries. -/
structure FRel (R : Rho) (f : Fr) (tmps : Array Value) : Prop where
  n : f.n = tmps.size
  has : ∀ i, i < tmps.size → trHas f.t i
  val : ∀ i, i < tmps.size → VRel R (trGet f.t i) (tmps.getD i undef)
theorem FRel.ext {R R' : Rho} {f : Fr} {tmps : Array Value} (h : FRel R f tmps) (hx : Ext R R') : FRel R' f tmps := ⟨h.n, h.has, fun i hi => (h.val i hi).ext hx⟩
theorem FRel.get {R : Rho} {f : Fr} {tmps : Array Value} (h : FRel R f tmps) (t : Nat) : VRel R (getF f t) (tmps.getD t undef) := by
  have e0 : getF f t = Bool.rec (.lit undef) (trGet f.t t) (Nat.blt t f.n) := by cases f; rfl
  rw [e0]
  cases hb : Nat.blt t f.n with
  | true =>
    have h1 : t < tmps.size := by rw [← h.n]; simpa [Nat.blt_eq] using hb
    exact h.val t h1
  | false =>
    have h1 : ¬ t < tmps.size := by rw [← h.n]; intro c; rw [show Nat.blt t f.n = true by simpa [Nat.blt_eq] using c] at hb; cases hb
    have h2 : tmps.getD t undef = undef := by simp [Array.getD, h1]
    rw [h2]
    exact VRel.lit_ _
theorem FRel.set {R : Rho} {f : Fr} {tmps : Array Value} (h : FRel R f tmps) (d : Nat) {v : AV} {x : Value} (hv : VRel R v x) : FRel R (setF v f d) (tmps.setIfInBounds d x) := by
  have e0 : setF v f d = Bool.rec f ⟨f.n, trSet v f.t d⟩ (Nat.blt d f.n) := by cases f; rfl
  rw [e0]
  cases hb : Nat.blt d f.n with
  | true =>
    have h1 : d < tmps.size := by rw [← h.n]; simpa [Nat.blt_eq] using hb
    refine ⟨by simp [h.n], fun i hi => trHas_set (h.has i (by simpa using hi)), fun i hi => ?_⟩
    have hi' : i < tmps.size := by simpa using hi
    show VRel R (trGet (trSet v f.t d) i) _
    rw [trGet_set (h.has d h1)]
    by_cases e : i = d
    · subst e
      rw [if_pos rfl]
      have : (tmps.setIfInBounds i x).getD i undef = x := by simp [Array.getD, h1]
      rw [this]; exact hv
    · rw [if_neg e]
      have : (tmps.setIfInBounds d x).getD i undef = tmps.getD i undef := by
        simp [Array.getD_eq_getD_getElem?, Array.getElem?_setIfInBounds_ne (Ne.symm e)]
      rw [this]; exact h.val i hi'
  | false =>
    have h1 : ¬ d < tmps.size := by rw [← h.n]; intro c; rw [show Nat.blt d f.n = true by simpa [Nat.blt_eq] using c] at hb; cases hb
    rw [Array.setIfInBounds_eq_of_size_le (by omega)]
    exact h
theorem trInit_has : ∀ (l : List AV) {i : Nat} {t : Tr} {j : Nat}, trHas t j → trHas (trInit l i t) j
  | [], _, _, _, h => h
  | v :: l, i, t, j, h => trInit_has l (i := i + 1) (t := trSet v t i) (trHas_set h)
theorem trInit_get : ∀ (l : List AV) {i : Nat} {t : Tr} {j : Nat}, (∀ k, k < i + l.length → trHas t k) → trGet (trInit l i t) j = if i ≤ j ∧ j < i + l.length then l.getD (j - i) (.lit undef) else trGet t j
  | [], i, t, j, h => by
    rw [if_neg (by simp)]; rfl
  | v :: l, i, t, j, h => by
    show trGet (trInit l (i + 1) (trSet v t i)) j = _
    rw [trInit_get l (fun k hk => trHas_set (h k (by simp; omega))), trGet_set (h i (by simp))]
    simp only [List.length_cons]
    by_cases h1 : i + 1 ≤ j ∧ j < i + 1 + l.length
    · rw [if_pos h1, if_pos (by omega), show j - i = (j - (i + 1)) + 1 by omega]
      rfl
    · rw [if_neg h1]
      by_cases e : j = i
      · rw [if_pos e, if_pos (by omega), e, Nat.sub_self]; rfl
      · rw [if_neg e, if_neg (by omega)]
theorem frame_ok {R : Rho} {m : Nat} {l : List AV} {xs : List Value} (h : VRels R l xs) : FRel R (frame m l) (xs.toArray ++ Array.replicate (m - xs.toArray.size) undef) := by
  have hl := h.length
  unfold frame
  rw [forceN_eq, lenL_eq]
  have hsz : (xs.toArray ++ Array.replicate (m - xs.toArray.size) undef).size = l.length + (m - l.length) := by simp [hl]
  have hcap : ∀ i, i < l.length + (m - l.length) → trHas (trFull (Nat.log2 (l.length + (m - l.length)) + 1)) i := fun i hi => by
    refine trHas_full _ ?_
    have := Nat.lt_log2_self (n := l.length + (m - l.length))
    omega
  refine ⟨hsz.symm, fun i hi => trInit_has l (hcap i (by omega)), fun i hi => ?_⟩
  show VRel R (trGet (trInit l 0 _) i) _
  rw [trInit_get l (fun k hk => hcap k (by omega)), trGet_full]
  by_cases hlt : i < l.length
  · rw [if_pos (by omega), Nat.sub_zero]
    have hv : l[i]? = some l[i] := List.getElem?_eq_getElem hlt
    obtain ⟨x, hx, hr⟩ := h.get hv
    have e1 : l.getD i (.lit undef) = l[i] := by simp [List.getD, hv]
    have e2 : (xs.toArray ++ Array.replicate (m - xs.toArray.size) undef).getD i undef = x := by
      have hix : i < xs.length := by omega
      rw [Array.getD_eq_getD_getElem?, Array.getElem?_append_left (by simpa using hix)]
      simp [hx]
    rw [e1, e2]; exact hr
  · rw [if_neg (by omega)]
    have e2 : (xs.toArray ++ Array.replicate (m - xs.toArray.size) undef).getD i undef = undef := by
      rw [Array.getD_eq_getD_getElem?, Array.getElem?_append_right (by simp; omega)]
      rw [Array.getElem?_replicate]
      split <;> rfl
    rw [e2]; exact VRel.lit_ _
theorem opnd_ok {f : Fr} {a : Act} (hf : FRel R f a.tmps) (x : Operand) : VRel R (opnd f x) (a.eval x) := by
  cases x with
  | tmp t =>
    simp only [opnd, Act.eval]
    exact hf.get t
  | const v => exact VRel.lit_ _
  | global g => exact VRel.lit_ _
  | func k => exact VRel.lit_ _
theorem isLit_val {v : AV} {x : Value} (h : isLit v = true) (r : VRel R v x) : x = val v := by
  cases v <;> first | exact VRel.lit_eq r | cases h
theorem runPure_ok {α : Type} : ∀ {s : Sem α} {x : α}, runPure P s = some x → ∀ w, s.run P w = .ok x w
  | .pure a, x, h, w => by simp only [runPure] at h; injection h with h; subst h; rfl
  | .program k, x, h, w => by simp only [runPure] at h; exact runPure_ok (s := k P) h w
  | .mark m k, x, h, w => by simp only [runPure] at h; exact runPure_ok (s := k) h w
  | .load .., x, h, w => by simp [runPure] at h
  | .store .., x, h, w => by simp [runPure] at h
  | .new .., x, h, w => by simp [runPure] at h
  | .shape .., x, h, w => by simp [runPure] at h
  | .freeze .., x, h, w => by simp [runPure] at h
  | .frozen .., x, h, w => by simp [runPure] at h
  | .getObj .., x, h, w => by simp [runPure] at h
  | .setObj .., x, h, w => by simp [runPure] at h
  | .choose .., x, h, w => by simp [runPure] at h
  | .sys .., x, h, w => by simp [runPure] at h
  | .halt .., x, h, w => by simp [runPure] at h
theorem noSel_ne {o : Oper} (h : noSel o.op = true) (cs : Array SelectCase) (b : Bool) : o.op ≠ .select cs b := by
  intro e; rw [e] at h; cases h
theorem evalPure_ok {f : Fr} {a : Act} {o : Oper} {n : Next} (h : evalPure P f o = some n) (hf : FRel R f a.tmps) (w : World) : (execOp a.eval o).run P w = .ok n w := by
  unfold evalPure at h
  split at h
  · rename_i hb
    rw [Bool.and_eq_true, allL_eq, List.all_eq_true] at hb
    have e : execOp a.eval o = execOp (fun x => val (opnd f x)) o :=
      execOp_congr o (fun cs b => noSel_ne hb.1 cs b) (fun x hx => isLit_val (hb.2 x (by simpa using hx)) (opnd_ok hf x))
    rw [e]
    exact runPure_ok h w
  · cases h
/-- A type's kind of row, and its size. -/
theorem isRowT_true {t : TypeId} (h : isRowT P t = some true) : ∃ d, P.underlying t = some d ∧ d.isRow = true := by
  unfold isRowT at h
  split at h
  · rename_i fs e; exact ⟨_, e, rfl⟩
  · rename_i n e he; exact ⟨_, he, rfl⟩
  · cases h
  · cases h
theorem isRowT_false {t : TypeId} (h : isRowT P t = some false) (w : World) : (isAgg t).run P w = .ok false w := by
  unfold isRowT at h
  split at h
  · cases h
  · cases h
  · rename_i d h1 h2 e
    unfold isAgg
    rw [Sem.run_bind, run_underlying e w]
    cases d <;> first | rfl | (exfalso; first | exact h1 _ rfl | exact h2 _ _ rfl)
  · cases h
theorem isRowT_agg {t : TypeId} (h : isRowT P t = some true) (w : World) : (isAgg t).run P w = .ok true w := by
  obtain ⟨d, hu, hd⟩ := isRowT_true h
  unfold isAgg
  rw [Sem.run_bind, run_underlying hu w]
  cases d <;> simp_all
theorem sizeT_run {t : TypeId} {n : Nat} (h : sizeT P t = some n) (w : World) : (sizeOf t).run P w = .ok n w := by
  unfold sizeT at h
  cases hq : P.info? t with
  | none => rw [hq] at h; cases h
  | some i => rw [hq] at h; injection h with h; subst h; simp [sizeOf, typeInfo, hq]
/-- A part of an aggregate that is at hand. -/
theorem part_ok {t : TypeId} {cs : List AV} {C : List Value} {off : Nat} {v : AV} (h : partOf P t cs off = some v) (hr : VRels R cs C) :
    ∃ x, VRel R v x ∧ ∀ w, (part t C.toArray off).run P w = .ok x w := by
  unfold partOf at h
  split at h
  · rename_i n h1 h2
    split at h
    · rename_i hb
      injection h with h
      subst h
      have hb := Nat.le_of_ble_eq_true hb
      rw [lenL_eq] at hb
      rw [takeL_eq, dropL_eq]
      refine ⟨_, VRel.mkAgg ((hr.drop off).take n), fun w => ?_⟩
      simp only [part, Sem.run_bind, isRowT_agg h1 w, Result.andThen_ok, if_true, sizeT_run h2 w, Sem.run_pure]
      congr 2
      apply Array.ext'
      simp [Array.toList_extract, List.extract_eq_take_drop]
    · cases h
  · rename_i n h1 h2
    rw [getO_eq] at h
    obtain ⟨x, hx, r⟩ := hr.get h
    refine ⟨x, r, fun w => ?_⟩
    simp [part, isRowT_false h1 w, hx]
  · cases h
/-- A variable that lies in a block of which the cells are known. -/
theorem load_ok {t : TypeId} {B : List AV} {w : World} {b T off : Nat} {v : AV} (h : partOf P t B off = some v) (hB : BRel R B w b T) :
    ∃ x, VRel R v x ∧ ∀ w' : World, w'.heap[b]? = w.heap[b]? → (Instr.loadAt t (.pointer (some ⟨b, off, none⟩))).run P w' = .ok x w' := by
  obtain ⟨C, e, fz, hC, hT, hl, hr, hfz⟩ := hB
  have hcell : ∀ (w' : World), w'.heap[b]? = w.heap[b]? → ∀ i, w'.cell? ⟨b, i, none⟩ = C[i]? := fun w' hw i => by simp [World.cell?, hw, hC]
  unfold partOf at h
  split at h
  · rename_i n h1 h2
    split at h
    · rename_i hb
      injection h with h
      subst h
      have hb := Nat.le_of_ble_eq_true hb
      rw [lenL_eq] at hb
      rw [takeL_eq, dropL_eq]
      refine ⟨_, VRel.mkAgg ((hr.drop off).take n), fun w' hw => ?_⟩
      obtain ⟨d, hu, hd⟩ := isRowT_true h1
      have hlen : (((C.toList.take B.length).drop off).take n).length = n := by simp; omega
      refine run_loadAt_mid w' b off t _ d ?_ hu hd (by rw [hlen]; exact h2)
      intro j u hu
      rw [hcell w' hw]
      have hj : j < n := by have := (List.getElem?_eq_some_iff.1 hu).1; omega
      rw [List.getElem?_take_of_lt hj, List.getElem?_drop, List.getElem?_take_of_lt (by omega)] at hu
      simpa using hu
    · cases h
  · rename_i n h1 h2
    rw [getO_eq] at h
    obtain ⟨x, hx, r⟩ := hr.get h
    refine ⟨x, r, fun w' hw => ?_⟩
    have hi : off < B.length := (List.getElem?_eq_some_iff.1 h).1
    rw [List.getElem?_take_of_lt hi] at hx
    have hc : w'.cell? ⟨b, off, none⟩ = some x := by rw [hcell w' hw]; simpa using hx
    simp [Instr.loadAt, Instr.sureAddr, loadVar, isRowT_false h1 w', hc]
  · cases h
theorem fieldPlace_ok {b off n : Nat} {fd : Field} (h : sizeT P fd.type = some (n + 1)) (w : World) : (fieldPlace ⟨b, off, none⟩ fd).run P w = .ok ⟨b, off + fd.offset, none⟩ w := by
  simp [fieldPlace, sizeT_run h w, Addr.add_mid]
/-- A bound of a cut. -/
def BV (d : Nat) (v : Option Value) (n : Nat) : Prop := (v = none ∧ n = d) ∨ ∃ k, v = some (.int k n)
theorem bound_ok {d n : Nat} {x : Option Operand} {f : Fr} {a : Act} (hf : FRel R f a.tmps) (h : bound d (x.map (opnd f)) = some n) : BV d (x.map a.eval) n := by
  cases x with
  | none => simp only [Option.map_none, bound] at h; injection h with h; exact .inl ⟨rfl, h.symm⟩
  | some x =>
    have r := opnd_ok hf x
    simp only [Option.map_some] at h ⊢
    unfold bound at h
    split at h
    · rename_i e; cases e
    · rename_i k m e
      injection e with e
      rw [e] at r
      injection h with h
      subst h
      exact .inr ⟨k, congrArg some (VRel.lit_eq r)⟩
    · cases h
theorem sliceBound_ok {k : IntKind} {n y : Nat} (h : n ≤ y) (c : BoundsCode) (w : World) : (Instr.sliceBound (.int k n) y c).run P w = .ok n w := by
  simp [Instr.sliceBound, asIntOf, h]
theorem sliceBounds_ok {isSlice : Bool} {len cap l h m : Nat} {lo hi mx : Option Value} (hlo : BV 0 lo l) (hhi : BV len hi h) (hmx : BV cap mx m) (hn : mx.isSome = true → hi.isSome = true)
    (h1 : l ≤ h) (h2 : h ≤ m) (h3 : m ≤ cap) (w : World) : (Instr.sliceBounds isSlice len cap lo hi mx).run P w = .ok (l, h, m) w := by
  rcases hmx with ⟨rfl, rfl⟩ | ⟨k, rfl⟩
  · rcases hhi with ⟨rfl, rfl⟩ | ⟨k2, rfl⟩
    · rcases hlo with ⟨rfl, rfl⟩ | ⟨k3, rfl⟩
      · simp [Instr.sliceBounds]
      · simp [Instr.sliceBounds, sliceBound_ok h1]
    · rcases hlo with ⟨rfl, rfl⟩ | ⟨k3, rfl⟩
      · simp [Instr.sliceBounds, sliceBound_ok h2]
      · simp [Instr.sliceBounds, sliceBound_ok h2, sliceBound_ok h1]
  · rcases hhi with ⟨rfl, rfl⟩ | ⟨k2, rfl⟩
    · exact absurd (hn rfl) (by simp)
    · rcases hlo with ⟨rfl, rfl⟩ | ⟨k3, rfl⟩
      · simp [Instr.sliceBounds, sliceBound_ok h3, sliceBound_ok h2]
      · simp [Instr.sliceBounds, sliceBound_ok h3, sliceBound_ok h2, sliceBound_ok h1]
theorem bounds3_ok {len cap l h m : Nat} {lo hi mx : Option Operand} {f : Fr} {a : Act} (hf : FRel R f a.tmps)
    (e : bounds3 len cap (lo.map (opnd f)) (hi.map (opnd f)) (mx.map (opnd f)) = some (l, h, m)) :
    BV 0 (lo.map a.eval) l ∧ BV len (hi.map a.eval) h ∧ BV cap (mx.map a.eval) m ∧ ((mx.map a.eval).isSome = true → (hi.map a.eval).isSome = true) ∧ l ≤ h ∧ h ≤ m ∧ m ≤ cap := by
  unfold bounds3 at e
  split at e
  · cases e
  · rename_i hne
    split at e
    · rename_i l' h' m' e1 e2 e3
      split at e
      · rename_i hb
        injection e with e
        injection e with e4 e5
        injection e5 with e5 e6
        subst e4 e5 e6
        simp only [Bool.and_eq_true] at hb
        refine ⟨bound_ok hf e1, bound_ok hf e2, bound_ok hf e3, ?_, Nat.le_of_ble_eq_true hb.1, Nat.le_of_ble_eq_true hb.2.1, Nat.le_of_ble_eq_true hb.2.2⟩
        intro hs
        cases hi with
        | some _ => rfl
        | none =>
          cases mx with
          | none => cases hs
          | some y => exact absurd rfl (hne _ rfl)
      · cases e
    · cases e
end
end Go.Proofs.YtjkonfopajihdaaDoor
