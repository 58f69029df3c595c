/- Texts put together: Ev3 Ev4 Ev5 Ev6. -/
import Derived.Test.YtjkonfopajihdaaDoorZd
set_option linter.unusedVariables false
set_option linter.unusedSectionVars false
set_option linter.unusedSimpArgs false
namespace Go.Proofs.YtjkonfopajihdaaDoor
open Go Go.RowKit
variable [Env]

section
variable {P : Program} {R : Rho}
/-- The temporary has its place in the tree. -/
def trHas : Tr → Nat → Prop
  | .lf, _ => False
  | .nd _ l r, i => i = 0 ∨ (i ≠ 0 ∧ i % 2 = 1 ∧ trHas l (i / 2)) ∨ (i ≠ 0 ∧ i % 2 ≠ 1 ∧ trHas r (i / 2 - 1))
theorem trGet_nd (v : AV) (l r : Tr) (i : Nat) : trGet (.nd v l r) i = if i = 0 then v else if i % 2 = 1 then trGet l (i / 2) else trGet r (i / 2 - 1) := by
  show (Bool.rec (Bool.rec (trGet r (i / 2 - 1)) (trGet l (i / 2)) (Nat.beq (i % 2) 1)) v (Nat.beq i 0) : AV) = _
  cases h : Nat.beq i 0 with
  | true => rw [if_pos (Nat.eq_of_beq_eq_true h)]
  | false =>
    rw [if_neg (Nat.ne_of_beq_eq_false h)]
    cases h2 : Nat.beq (i % 2) 1 with
    | true => rw [if_pos (Nat.eq_of_beq_eq_true h2)]
    | false => rw [if_neg (Nat.ne_of_beq_eq_false h2)]
theorem trSet_nd (v u : AV) (l r : Tr) (i : Nat) : trSet v (.nd u l r) i = if i = 0 then .nd v l r else if i % 2 = 1 then .nd u (trSet v l (i / 2)) r else .nd u l (trSet v r (i / 2 - 1)) := by
  show (Bool.rec (Bool.rec (.nd u l (trSet v r (i / 2 - 1))) (.nd u (trSet v l (i / 2)) r) (Nat.beq (i % 2) 1)) (.nd v l r) (Nat.beq i 0) : Tr) = _
  cases h : Nat.beq i 0 with
  | true => rw [if_pos (Nat.eq_of_beq_eq_true h)]
  | false =>
    rw [if_neg (Nat.ne_of_beq_eq_false h)]
    cases h2 : Nat.beq (i % 2) 1 with
    | true => rw [if_pos (Nat.eq_of_beq_eq_true h2)]
    | false => rw [if_neg (Nat.ne_of_beq_eq_false h2)]
theorem trGet_set {v : AV} : ∀ {t : Tr} {i j : Nat}, trHas t i → trGet (trSet v t i) j = if j = i then v else trGet t j
  | .lf, _, _, h => h.elim
  | .nd u l r, i, j, h => by
    rw [trSet_nd, trGet_nd u l r j]
    rcases h with rfl | ⟨h0, h1, h2⟩ | ⟨h0, h1, h2⟩
    · rw [if_pos rfl, trGet_nd]
      by_cases hj : j = 0
      · rw [if_pos hj, if_pos hj]
      · rw [if_neg hj, if_neg hj, if_neg hj]
    · rw [if_neg h0, if_pos h1, trGet_nd]
      by_cases hj : j = 0
      · rw [if_pos hj, if_neg (by omega), if_pos hj]
      · rw [if_neg hj, if_neg hj]
        by_cases hj1 : j % 2 = 1
        · rw [if_pos hj1, if_pos hj1, trGet_set h2]
          by_cases e : j = i
          · rw [if_pos (by rw [e]), if_pos e]
          · rw [if_neg (by omega), if_neg e]
        · rw [if_neg hj1, if_neg hj1, if_neg (by omega)]
    · rw [if_neg h0, if_neg h1, trGet_nd]
      by_cases hj : j = 0
      · rw [if_pos hj, if_neg (by omega), if_pos hj]
      · rw [if_neg hj, if_neg hj]
        by_cases hj1 : j % 2 = 1
        · rw [if_pos hj1, if_pos hj1, if_neg (by omega)]
        · rw [if_neg hj1, if_neg hj1, trGet_set h2]
          by_cases e : j = i
          · rw [if_pos (by rw [e]), if_pos e]
          · rw [if_neg (by omega), if_neg e]
theorem trHas_set {v : AV} : ∀ {t : Tr} {i j : Nat}, trHas t j → trHas (trSet v t i) j
  | .lf, _, _, h => h.elim
  | .nd u l r, i, j, h => by
    rw [trSet_nd]
    by_cases h0 : i = 0
    · rw [if_pos h0]; exact h
    · rw [if_neg h0]
      by_cases h1 : i % 2 = 1
      · rw [if_pos h1]
        rcases h with h | ⟨a, b, c⟩ | h
        · exact .inl h
        · exact .inr (.inl ⟨a, b, trHas_set c⟩)
        · exact .inr (.inr h)
      · rw [if_neg h1]
        rcases h with h | h | ⟨a, b, c⟩
        · exact .inl h
        · exact .inr (.inl h)
        · exact .inr (.inr ⟨a, b, trHas_set c⟩)
theorem trHas_full : ∀ (d : Nat) {i : Nat}, i + 1 < 2 ^ d → trHas (trFull d) i
  | 0, i, h => by omega
  | d + 1, i, h => by
    rw [Nat.pow_succ] at h
    show i = 0 ∨ _ ∨ _
    by_cases h0 : i = 0
    · exact .inl h0
    · by_cases h1 : i % 2 = 1
      · exact .inr (.inl ⟨h0, h1, trHas_full d (by omega)⟩)
      · exact .inr (.inr ⟨h0, h1, trHas_full d (by omega)⟩)
theorem trGet_full : ∀ (d : Nat) (i : Nat), trGet (trFull d) i = .lit undef
  | 0, _ => rfl
  | d + 1, i => by
    show trGet (.nd (.lit undef) (trFull d) (trFull d)) i = _
    rw [trGet_nd, trGet_full d, trGet_full d]
    split
    · rfl
    · split <;> rfl
/-- The frame is the temporaries. -/
structure FRel (R : Rho) (f : Fr) (tmps : Array Value) : Prop where
  n : f.n = tmps.size
  has : ∀ i, i < tmps.size → trHas f.t i
  val : ∀ i, i < tmps.size → VRel R (trGet f.t i) (tmps.getD i undef)
theorem FRel.ext {R R' : Rho} {f : Fr} {tmps : Array Value} (h : FRel R f tmps) (hx : Ext R R') : FRel R' f tmps := ⟨h.n, h.has, fun i hi => (h.val i hi).ext hx⟩
theorem FRel.get {R : Rho} {f : Fr} {tmps : Array Value} (h : FRel R f tmps) (t : Nat) : VRel R (getF f t) (tmps.getD t undef) := by
  have e0 : getF f t = Bool.rec (.lit undef) (trGet f.t t) (Nat.blt t f.n) := by cases f; rfl
  rw [e0]
  cases hb : Nat.blt t f.n with
  | true =>
    have h1 : t < tmps.size := by rw [← h.n]; simpa [Nat.blt_eq] using hb
    exact h.val t h1
  | false =>
    have h1 : ¬ t < tmps.size := by rw [← h.n]; intro c; rw [show Nat.blt t f.n = true by simpa [Nat.blt_eq] using c] at hb; cases hb
    have h2 : tmps.getD t undef = undef := by simp [Array.getD, h1]
    rw [h2]
    exact VRel.lit_ _
theorem FRel.set {R : Rho} {f : Fr} {tmps : Array Value} (h : FRel R f tmps) (d : Nat) {v : AV} {x : Value} (hv : VRel R v x) : FRel R (setF v f d) (tmps.setIfInBounds d x) := by
  have e0 : setF v f d = Bool.rec f ⟨f.n, trSet v f.t d⟩ (Nat.blt d f.n) := by cases f; rfl
  rw [e0]
  cases hb : Nat.blt d f.n with
  | true =>
    have h1 : d < tmps.size := by rw [← h.n]; simpa [Nat.blt_eq] using hb
    refine ⟨by simp [h.n], fun i hi => trHas_set (h.has i (by simpa using hi)), fun i hi => ?_⟩
    have hi' : i < tmps.size := by simpa using hi
    show VRel R (trGet (trSet v f.t d) i) _
    rw [trGet_set (h.has d h1)]
    by_cases e : i = d
    · subst e
      rw [if_pos rfl]
      have : (tmps.setIfInBounds i x).getD i undef = x := by simp [Array.getD, h1]
      rw [this]; exact hv
    · rw [if_neg e]
      have : (tmps.setIfInBounds d x).getD i undef = tmps.getD i undef := by
        simp [Array.getD_eq_getD_getElem?, Array.getElem?_setIfInBounds_ne (Ne.symm e)]
      rw [this]; exact h.val i hi'
  | false =>
    have h1 : ¬ d < tmps.size := by rw [← h.n]; intro c; rw [show Nat.blt d f.n = true by simpa [Nat.blt_eq] using c] at hb; cases hb
    rw [Array.setIfInBounds_eq_of_size_le (by omega)]
    exact h
theorem trInit_has : ∀ (l : List AV) {i : Nat} {t : Tr} {j : Nat}, trHas t j → trHas (trInit l i t) j
  | [], _, _, _, h => h
  | v :: l, i, t, j, h => trInit_has l (i := i + 1) (t := trSet v t i) (trHas_set h)
theorem trInit_get : ∀ (l : List AV) {i : Nat} {t : Tr} {j : Nat}, (∀ k, k < i + l.length → trHas t k) → trGet (trInit l i t) j = if i ≤ j ∧ j < i + l.length then l.getD (j - i) (.lit undef) else trGet t j
  | [], i, t, j, h => by
    rw [if_neg (by simp)]; rfl
  | v :: l, i, t, j, h => by
    show trGet (trInit l (i + 1) (trSet v t i)) j = _
    rw [trInit_get l (fun k hk => trHas_set (h k (by simp; omega))), trGet_set (h i (by simp))]
    simp only [List.length_cons]
    by_cases h1 : i + 1 ≤ j ∧ j < i + 1 + l.length
    · rw [if_pos h1, if_pos (by omega), show j - i = (j - (i + 1)) + 1 by omega]
      rfl
    · rw [if_neg h1]
      by_cases e : j = i
      · rw [if_pos e, if_pos (by omega), e, Nat.sub_self]; rfl
      · rw [if_neg e, if_neg (by omega)]
theorem frame_ok {R : Rho} {m : Nat} {l : List AV} {xs : List Value} (h : VRels R l xs) : FRel R (frame m l) (xs.toArray ++ Array.replicate (m - xs.toArray.size) undef) := by
  have hl := h.length
  unfold frame
  rw [forceN_eq, lenL_eq]
  have hsz : (xs.toArray ++ Array.replicate (m - xs.toArray.size) undef).size = l.length + (m - l.length) := by simp [hl]
  have hcap : ∀ i, i < l.length + (m - l.length) → trHas (trFull (Nat.log2 (l.length + (m - l.length)) + 1)) i := fun i hi => by
    refine trHas_full _ ?_
    have := Nat.lt_log2_self (n := l.length + (m - l.length))
    omega
  refine ⟨hsz.symm, fun i hi => trInit_has l (hcap i (by omega)), fun i hi => ?_⟩
  show VRel R (trGet (trInit l 0 _) i) _
  rw [trInit_get l (fun k hk => hcap k (by omega)), trGet_full]
  by_cases hlt : i < l.length
  · rw [if_pos (by omega), Nat.sub_zero]
    have hv : l[i]? = some l[i] := List.getElem?_eq_getElem hlt
    obtain ⟨x, hx, hr⟩ := h.get hv
    have e1 : l.getD i (.lit undef) = l[i] := by simp [List.getD, hv]
    have e2 : (xs.toArray ++ Array.replicate (m - xs.toArray.size) undef).getD i undef = x := by
      have hix : i < xs.length := by omega
      rw [Array.getD_eq_getD_getElem?, Array.getElem?_append_left (by simpa using hix)]
      simp [hx]
    rw [e1, e2]; exact hr
  · rw [if_neg (by omega)]
    have e2 : (xs.toArray ++ Array.replicate (m - xs.toArray.size) undef).getD i undef = undef := by
      rw [Array.getD_eq_getD_getElem?, Array.getElem?_append_right (by simp; omega)]
      rw [Array.getElem?_replicate]
      split <;> rfl
    rw [e2]; exact VRel.lit_ _
theorem opnd_ok {f : Fr} {a : Act} (hf : FRel R f a.tmps) (x : Operand) : VRel R (opnd f x) (a.eval x) := by
  cases x with
  | tmp t =>
    simp only [opnd, Act.eval]
    exact hf.get t
  | const v => exact VRel.lit_ _
  | global g => exact VRel.lit_ _
  | func k => exact VRel.lit_ _
theorem isLit_val {v : AV} {x : Value} (h : isLit v = true) (r : VRel R v x) : x = val v := by
  cases v <;> first | exact VRel.lit_eq r | cases h
theorem runPure_ok {α : Type} : ∀ {s : Sem α} {x : α}, runPure P s = some x → ∀ w, s.run P w = .ok x w
  | .pure a, x, h, w => by simp only [runPure] at h; injection h with h; subst h; rfl
  | .program k, x, h, w => by simp only [runPure] at h; exact runPure_ok (s := k P) h w
  | .mark m k, x, h, w => by simp only [runPure] at h; exact runPure_ok (s := k) h w
  | .load .., x, h, w => by simp [runPure] at h
  | .store .., x, h, w => by simp [runPure] at h
  | .new .., x, h, w => by simp [runPure] at h
  | .shape .., x, h, w => by simp [runPure] at h
  | .freeze .., x, h, w => by simp [runPure] at h
  | .frozen .., x, h, w => by simp [runPure] at h
  | .getObj .., x, h, w => by simp [runPure] at h
  | .setObj .., x, h, w => by simp [runPure] at h
  | .choose .., x, h, w => by simp [runPure] at h
  | .sys .., x, h, w => by simp [runPure] at h
  | .halt .., x, h, w => by simp [runPure] at h
theorem noSel_ne {o : Oper} (h : noSel o.op = true) (cs : Array SelectCase) (b : Bool) : o.op ≠ .select cs b := by
  intro e; rw [e] at h; cases h
theorem evalPure_ok {f : Fr} {a : Act} {o : Oper} {n : Next} (h : evalPure P f o = some n) (hf : FRel R f a.tmps) (w : World) : (execOp a.eval o).run P w = .ok n w := by
  unfold evalPure at h
  split at h
  · rename_i hb
    rw [Bool.and_eq_true, allL_eq, List.all_eq_true] at hb
    have e : execOp a.eval o = execOp (fun x => val (opnd f x)) o :=
      execOp_congr o (fun cs b => noSel_ne hb.1 cs b) (fun x hx => isLit_val (hb.2 x (by simpa using hx)) (opnd_ok hf x))
    rw [e]
    exact runPure_ok h w
  · cases h
/-- A type's kind of row, and its size. -/
theorem isRowT_true {t : TypeId} (h : isRowT P t = some true) : ∃ d, P.underlying t = some d ∧ d.isRow = true := by
  unfold isRowT at h
  split at h
  · rename_i fs e; exact ⟨_, e, rfl⟩
  · rename_i n e he; exact ⟨_, he, rfl⟩
  · cases h
  · cases h
theorem isRowT_false {t : TypeId} (h : isRowT P t = some false) (w : World) : (isAgg t).run P w = .ok false w := by
  unfold isRowT at h
  split at h
  · cases h
  · cases h
  · rename_i d h1 h2 e
    unfold isAgg
    rw [Sem.run_bind, run_underlying e w]
    cases d <;> first | rfl | (exfalso; first | exact h1 _ rfl | exact h2 _ _ rfl)
  · cases h
theorem isRowT_agg {t : TypeId} (h : isRowT P t = some true) (w : World) : (isAgg t).run P w = .ok true w := by
  obtain ⟨d, hu, hd⟩ := isRowT_true h
  unfold isAgg
  rw [Sem.run_bind, run_underlying hu w]
  cases d <;> simp_all
theorem sizeT_run {t : TypeId} {n : Nat} (h : sizeT P t = some n) (w : World) : (sizeOf t).run P w = .ok n w := by
  unfold sizeT at h
  cases hq : P.info? t with
  | none => rw [hq] at h; cases h
  | some i => rw [hq] at h; injection h with h; subst h; simp [sizeOf, typeInfo, hq]
/-- A part of an aggregate that is at hand. -/
theorem part_ok {t : TypeId} {cs : List AV} {C : List Value} {off : Nat} {v : AV} (h : partOf P t cs off = some v) (hr : VRels R cs C) :
    ∃ x, VRel R v x ∧ ∀ w, (part t C.toArray off).run P w = .ok x w := by
  unfold partOf at h
  split at h
  · rename_i n h1 h2
    split at h
    · rename_i hb
      injection h with h
      subst h
      have hb := Nat.le_of_ble_eq_true hb
      rw [lenL_eq] at hb
      rw [takeL_eq, dropL_eq]
      refine ⟨_, VRel.mkAgg ((hr.drop off).take n), fun w => ?_⟩
      simp only [part, Sem.run_bind, isRowT_agg h1 w, Result.andThen_ok, if_true, sizeT_run h2 w, Sem.run_pure]
      congr 2
      apply Array.ext'
      simp [Array.toList_extract, List.extract_eq_take_drop]
    · cases h
  · rename_i n h1 h2
    rw [getO_eq] at h
    obtain ⟨x, hx, r⟩ := hr.get h
    refine ⟨x, r, fun w => ?_⟩
    simp [part, isRowT_false h1 w, hx]
  · cases h
/-- A variable that lies in a block of which the cells are known. -/
theorem load_ok {t : TypeId} {B : List AV} {w : World} {b T off : Nat} {v : AV} (h : partOf P t B off = some v) (hB : BRel R B w b T) :
    ∃ x, VRel R v x ∧ ∀ w' : World, w'.heap[b]? = w.heap[b]? → (Instr.loadAt t (.pointer (some ⟨b, off, none⟩))).run P w' = .ok x w' := by
  obtain ⟨C, e, fz, hC, hT, hl, hr, hfz⟩ := hB
  have hcell : ∀ (w' : World), w'.heap[b]? = w.heap[b]? → ∀ i, w'.cell? ⟨b, i, none⟩ = C[i]? := fun w' hw i => by simp [World.cell?, hw, hC]
  unfold partOf at h
  split at h
  · rename_i n h1 h2
    split at h
    · rename_i hb
      injection h with h
      subst h
      have hb := Nat.le_of_ble_eq_true hb
      rw [lenL_eq] at hb
      rw [takeL_eq, dropL_eq]
      refine ⟨_, VRel.mkAgg ((hr.drop off).take n), fun w' hw => ?_⟩
      obtain ⟨d, hu, hd⟩ := isRowT_true h1
      have hlen : (((C.toList.take B.length).drop off).take n).length = n := by simp; omega
      refine run_loadAt_mid w' b off t _ d ?_ hu hd (by rw [hlen]; exact h2)
      intro j u hu
      rw [hcell w' hw]
      have hj : j < n := by have := (List.getElem?_eq_some_iff.1 hu).1; omega
      rw [List.getElem?_take_of_lt hj, List.getElem?_drop, List.getElem?_take_of_lt (by omega)] at hu
      simpa using hu
    · cases h
  · rename_i n h1 h2
    rw [getO_eq] at h
    obtain ⟨x, hx, r⟩ := hr.get h
    refine ⟨x, r, fun w' hw => ?_⟩
    have hi : off < B.length := (List.getElem?_eq_some_iff.1 h).1
    rw [List.getElem?_take_of_lt hi] at hx
    have hc : w'.cell? ⟨b, off, none⟩ = some x := by rw [hcell w' hw]; simpa using hx
    simp [Instr.loadAt, Instr.sureAddr, loadVar, isRowT_false h1 w', hc]
  · cases h
theorem fieldPlace_ok {b off n : Nat} {fd : Field} (h : sizeT P fd.type = some (n + 1)) (w : World) : (fieldPlace ⟨b, off, none⟩ fd).run P w = .ok ⟨b, off + fd.offset, none⟩ w := by
  simp [fieldPlace, sizeT_run h w, Addr.add_mid]
/-- A bound of a cut. -/
def BV (d : Nat) (v : Option Value) (n : Nat) : Prop := (v = none ∧ n = d) ∨ ∃ k, v = some (.int k n)
theorem bound_ok {d n : Nat} {x : Option Operand} {f : Fr} {a : Act} (hf : FRel R f a.tmps) (h : bound d (x.map (opnd f)) = some n) : BV d (x.map a.eval) n := by
  cases x with
  | none => simp only [Option.map_none, bound] at h; injection h with h; exact .inl ⟨rfl, h.symm⟩
  | some x =>
    have r := opnd_ok hf x
    simp only [Option.map_some] at h ⊢
    unfold bound at h
    split at h
    · rename_i e; cases e
    · rename_i k m e
      injection e with e
      rw [e] at r
      injection h with h
      subst h
      exact .inr ⟨k, congrArg some (VRel.lit_eq r)⟩
    · cases h
theorem sliceBound_ok {k : IntKind} {n y : Nat} (h : n ≤ y) (c : BoundsCode) (w : World) : (Instr.sliceBound (.int k n) y c).run P w = .ok n w := by
  simp [Instr.sliceBound, asIntOf, h]
theorem sliceBounds_ok {isSlice : Bool} {len cap l h m : Nat} {lo hi mx : Option Value} (hlo : BV 0 lo l) (hhi : BV len hi h) (hmx : BV cap mx m) (hn : mx.isSome = true → hi.isSome = true)
    (h1 : l ≤ h) (h2 : h ≤ m) (h3 : m ≤ cap) (w : World) : (Instr.sliceBounds isSlice len cap lo hi mx).run P w = .ok (l, h, m) w := by
  rcases hmx with ⟨rfl, rfl⟩ | ⟨k, rfl⟩
  · rcases hhi with ⟨rfl, rfl⟩ | ⟨k2, rfl⟩
    · rcases hlo with ⟨rfl, rfl⟩ | ⟨k3, rfl⟩
      · simp [Instr.sliceBounds]
      · simp [Instr.sliceBounds, sliceBound_ok h1]
    · rcases hlo with ⟨rfl, rfl⟩ | ⟨k3, rfl⟩
      · simp [Instr.sliceBounds, sliceBound_ok h2]
      · simp [Instr.sliceBounds, sliceBound_ok h2, sliceBound_ok h1]
  · rcases hhi with ⟨rfl, rfl⟩ | ⟨k2, rfl⟩
    · exact absurd (hn rfl) (by simp)
    · rcases hlo with ⟨rfl, rfl⟩ | ⟨k3, rfl⟩
      · simp [Instr.sliceBounds, sliceBound_ok h3, sliceBound_ok h2]
      · simp [Instr.sliceBounds, sliceBound_ok h3, sliceBound_ok h2, sliceBound_ok h1]
theorem bounds3_ok {len cap l h m : Nat} {lo hi mx : Option Operand} {f : Fr} {a : Act} (hf : FRel R f a.tmps)
    (e : bounds3 len cap (lo.map (opnd f)) (hi.map (opnd f)) (mx.map (opnd f)) = some (l, h, m)) :
    BV 0 (lo.map a.eval) l ∧ BV len (hi.map a.eval) h ∧ BV cap (mx.map a.eval) m ∧ ((mx.map a.eval).isSome = true → (hi.map a.eval).isSome = true) ∧ l ≤ h ∧ h ≤ m ∧ m ≤ cap := by
  unfold bounds3 at e
  split at e
  · cases e
  · rename_i hne
    split at e
    · rename_i l' h' m' e1 e2 e3
      split at e
      · rename_i hb
        injection e with e
        injection e with e4 e5
        injection e5 with e5 e6
        subst e4 e5 e6
        simp only [Bool.and_eq_true] at hb
        refine ⟨bound_ok hf e1, bound_ok hf e2, bound_ok hf e3, ?_, Nat.le_of_ble_eq_true hb.1, Nat.le_of_ble_eq_true hb.2.1, Nat.le_of_ble_eq_true hb.2.2⟩
        intro hs
        cases hi with
        | some _ => rfl
        | none =>
          cases mx with
          | none => cases hs
          | some y => exact absurd rfl (hne _ rfl)
      · cases e
    · cases e
end
end Go.Proofs.YtjkonfopajihdaaDoor
set_option linter.unusedVariables false
set_option linter.unusedSectionVars false
set_option linter.unusedSimpArgs false
namespace Go.Proofs.YtjkonfopajihdaaDoor
open Go Go.RowKit
variable [Env]

section
variable {P : Program} {R : Rho}
theorem eqGuard_int (op : BinOp) (t : TypeId) (x y : Operand) (k k' : IntKind) (a b : Int) (w : World) : (eqGuard op t x y (.int k a) (.int k' b)).run P w = .ok () w := by
  unfold eqGuard
  cases op <;> rfl
theorem fastInt_ok {op : BinOp} {k k' : IntKind} {a b : Int} {v : Value} (h : fastInt op k k' a b = some v) (t : TypeId) (w : World) : (binOp op t (.int k a) (.int k' b)).run P w = .ok v w := by
  unfold fastInt at h
  cases op <;> simp only [forceI_eq, forceN_eq] at h
  case shl =>
    split at h
    · cases h
    · rename_i hb _
      injection h with h; subst h
      simp [binOp, Op.shift, hb]
  case shr =>
    split at h
    · cases h
    · rename_i hb _
      injection h with h; subst h
      simp [binOp, Op.shift, hb]
  all_goals
    split at h
    · cases h
    rename_i hk _
    subst hk
  all_goals first
    | (injection h with h; subst h; simp [binOp, Op.intArith, Op.intCmp, Op.intBits, BitVec.toNat_and, BitVec.toNat_or]; done)
    | (cases h; done)
    | (split at h
       · cases h
       · rename_i hb
         injection h with h; subst h
         have : ¬ b = 0 := fun e => hb e
         simp [binOp, Op.intDiv, this])
/-- One value, in whatever world. -/
def WlOk (P : Program) (R : Rho) (v : AV) (a : Act) (o : Oper) : Prop := ∃ x, VRel R v x ∧ ∀ w, (execOp a.eval o).run P w = .ok (.value x) w
theorem fastWl_ok {f : Fr} {a : Act} {o : Oper} {v : AV} (h : fastWl P f o = some v) (hf : FRel R f a.tmps) : WlOk P R v a o := by
  unfold fastWl at h
  obtain ⟨dst, op, type, pos, after, guard⟩ := o
  simp only at h
  split at h
  · rename_i op t x y yt
    unfold fwBin at h
    split at h
    · rename_i k p k' q e1 e2
      have r1 := opnd_ok hf x
      have r2 := opnd_ok hf y
      rw [e1] at r1
      rw [e2] at r2
      have r1 := VRel.lit_eq r1
      have r2 := VRel.lit_eq r2
      split at h
      · rename_i v' hv
        injection h with h; subst h
        refine ⟨v', VRel.lit_ _, fun w => ?_⟩
        simp [execOp, r1, r2, eqGuard_int, fastInt_ok hv]
      · cases h
    · cases h
  · rename_i src dst x
    unfold fwConv at h
    split at h
    · rename_i k n e1
      have r1 := opnd_ok hf x
      rw [e1] at r1
      have r1 := VRel.lit_eq r1
      split at h
      · rename_i d k' e2 e3
        rw [forceI_eq] at h
        injection h with h; subst h
        refine ⟨_, VRel.lit_ _, fun w => ?_⟩
        simp [execOp, r1, convert, run_underlying e2, run_underlying e3, Conv.intToInt]
      · cases h
    · cases h
  · rename_i t x ix
    unfold fwIndex at h
    split at h
    · rename_i s k i e1 e2
      have r1 := opnd_ok hf x
      rw [e1] at r1
      have r1 := VRel.lit_eq r1
      have r2 := opnd_ok hf ix
      rw [e2] at r2
      have r2 := VRel.lit_eq r2
      split at h
      · rename_i hu
        split at h
        · rename_i b hb
          rw [getO_eq] at hb
          rw [forceN_eq] at h
          injection h with h; subst h
          refine ⟨_, VRel.lit_ _, fun w => ?_⟩
          have hb' : s[i]? = some b := by
            have hi : i < s.data.toList.length := (List.getElem?_eq_some_iff.1 hb).1
            have hi' : i < s.size := by simpa using hi
            rw [getElem?_pos s i hi']
            rw [List.getElem?_eq_getElem hi] at hb
            have hb2 : s.data[i] = b := by simpa using hb
            show some (s.data[i]) = some b
            rw [hb2]
          simp [execOp, r1, r2, Instr.index, asIntOf, run_underlying hu, hb']
        · cases h
      · cases h
    · cases h
  · rename_i args argTypes
    unfold fwLen at h
    split at h
    · rename_i x t ea et
      split at h
      · rename_i s e1 hu
        rw [forceN_eq] at h
        injection h with h; subst h
        have r1 := opnd_ok hf x
        rw [e1] at r1
        have r1 := VRel.lit_eq r1
        have ea' : args = #[x] := by apply Array.ext'; simpa using ea
        have et' : argTypes = #[t] := by apply Array.ext'; simpa using et
        subst ea' et'
        refine ⟨_, VRel.lit_ _, fun w => ?_⟩
        simp [execOp, resolve, invoke, builtin, Builtin.len_, r1, run_underlying hu, goInt]
      · cases h
    · cases h
  · cases h
end
end Go.Proofs.YtjkonfopajihdaaDoor
set_option linter.unusedVariables false
set_option linter.unusedSectionVars false
set_option linter.unusedSimpArgs false
namespace Go.Proofs.YtjkonfopajihdaaDoor
open Go Go.RowKit
variable [Env]

section
variable {P : Program} {R : Rho}
theorem foldl_put (off : Nat) : ∀ (vs : List Value) (k : Nat) (C : Array Value), off + k + vs.length ≤ C.size →
    ((vs.zipIdx k).foldl (fun cs (p : Value × Nat) => cs.setIfInBounds (off + p.2) p.1) C).toList = C.toList.take (off + k) ++ vs ++ C.toList.drop (off + k + vs.length) ∧
    ((vs.zipIdx k).foldl (fun cs (p : Value × Nat) => cs.setIfInBounds (off + p.2) p.1) C).size = C.size
  | [], k, C, h => by simp
  | v :: vs, k, C, h => by
    have h' : off + k + (vs.length + 1) ≤ C.size := h
    obtain ⟨h1, h2⟩ := foldl_put off vs (k + 1) (C.setIfInBounds (off + k) v) (by simp; omega)
    rw [List.zipIdx_cons, List.foldl_cons]
    refine ⟨?_, by rw [h2]; simp⟩
    rw [h1, Array.toList_setIfInBounds, List.length_cons]
    apply List.ext_getElem?
    intro i
    simp only [List.getElem?_append, List.length_append, List.length_take, List.length_set, List.length_cons, List.getElem?_take, List.getElem?_set, List.getElem?_drop, Array.length_toList]
    rcases Nat.lt_trichotomy i (off + k) with hi | hi | hi
    · rw [if_pos (by omega), if_pos (by omega), if_pos (by omega), if_neg (by omega), if_pos (by omega), if_pos (by omega), if_pos (by omega)]
    · subst hi
      rw [if_pos (by omega), if_pos (by omega), if_pos (by omega), if_pos rfl, if_pos (by omega), if_pos (by omega), if_neg (by omega)]
      simp [Nat.min_eq_left (show off + k ≤ C.size by omega)]
    · by_cases hi2 : i < off + k + 1 + vs.length
      · rw [if_pos (by omega), if_neg (by omega), if_pos (by omega), if_neg (by omega)]
        rw [Nat.min_eq_left (by omega), Nat.min_eq_left (by omega), show i - (off + k) = (i - (off + (k + 1))) + 1 by omega, List.getElem?_cons_succ]
      · rw [if_neg (by omega), if_neg (by omega)]
        rw [if_neg (by omega)]
        congr 1
        omega
theorem fill_ok {place : Nat → Option (Nat × Nat)} {f : Fr} {a : Act} (hf : FRel R f a.tmps) : ∀ (ps : List (Nat × Operand)) {cs r : List AV} {C : Array Value},
    fillA place cs (ps.map fun p => (p.1, opnd f p.2)) = some r → VRels R cs C.toList → ∃ C', Instr.fill place C (ps.map fun p => (p.1, a.eval p.2)) = some C' ∧ VRels R r C'.toList ∧ C'.size = C.size
  | [], cs, r, C, h, hr => by
    simp only [List.map_nil, fillA] at h
    injection h with h; subst h
    exact ⟨C, rfl, hr, rfl⟩
  | (i, x) :: ps, cs, r, C, h, hr => by
    simp only [List.map_cons, fillA] at h
    simp only [List.map_cons, Instr.fill]
    split at h
    · cases h
    · rename_i off size hp
      rw [hp]
      split at h
      · rename_i hb
        simp only [Bool.and_eq_true, lenL_eq] at hb
        have hb1 := Nat.eq_of_beq_eq_true hb.1
        have hb2 := Nat.le_of_ble_eq_true hb.2
        have rc := (opnd_ok hf x).cells_
        have hl := rc.length
        have hC := hr.length
        have hsz : (a.eval x).cells.size = size := by rw [← hb1, ← hl]; simp
        have hCs : C.size = cs.length := by rw [← hC]; simp
        rw [appL_eq, appL_eq, takeL_eq, dropL_eq, lenL_eq] at h
        have hz : (a.eval x).cells.zipIdx.foldl (fun cs (p : Value × Nat) => cs.setIfInBounds (off + p.2) p.1) C = ((a.eval x).cells.toList.zipIdx 0).foldl (fun cs (p : Value × Nat) => cs.setIfInBounds (off + p.2) p.1) C := by
          rw [← Array.foldl_toList]
          simp
        have hlen : (a.eval x).cells.toList.length = (opnd f x).cells.length := hl
        obtain ⟨h1, h2⟩ := foldl_put off (a.eval x).cells.toList 0 C (by omega)
        have hn : ¬ ((a.eval x).cells.size ≠ size ∨ off + (a.eval x).cells.size > C.size) := by
          intro hh
          rcases hh with hh | hh
          · exact hh hsz
          · have : (a.eval x).cells.size = (opnd f x).cells.length := by rw [← hl]; simp
            omega
        obtain ⟨C', h3, h4, h5⟩ := fill_ok hf ps (C := ((a.eval x).cells.toList.zipIdx 0).foldl (fun cs (p : Value × Nat) => cs.setIfInBounds (off + p.2) p.1) C) h (by
          rw [h1, Nat.add_zero, hlen, List.append_assoc]
          exact (hr.take off).append (rc.append (hr.drop _)))
        refine ⟨C', ?_, h4, by rw [h5, h2]⟩
        simp only [ne_eq, hsz, not_true_eq_false, false_or]
        rw [if_neg (by
          intro hh
          apply hn
          right
          simpa [hsz] using hh)]
        rw [hz]
        exact h3
      · cases h
theorem zeros_ok (z : Array Value) (n : Nat) : VRels R (zeros z n) ((Array.range n).map (z[· % z.size]!)).toList := by
  unfold zeros
  rw [mapL_eq, Array.toList_map, Array.toList_range]
  exact VRels.map_ _ _ (fun i => VRel.lit_ _) _
theorem zeros_length (z : Array Value) (n : Nat) : (zeros z n).length = n := by
  unfold zeros
  rw [mapL_eq]; simp
theorem lits_cells (z : Array Value) : VRels R (mapL .lit z.toList) z.toList := by
  rw [mapL_eq]; exact VRels.lits_ _
theorem mapEval {f : Fr} {a : Act} (hf : FRel R f a.tmps) : ∀ (l : List Operand), VRels R (mapL (opnd f) l) (l.map a.eval)
  | [] => VRels.nil
  | x :: l => VRels.cons (opnd_ok hf x) (mapEval hf l)
theorem equal_ptr {t e : TypeId} (hu : P.underlying t = some (.pointer e)) (x : Addr) (w : World) :
    (Op.equal t (.pointer (some x)) (.pointer none)).run P w = .ok false w ∧ (Op.equal t (.pointer none) (.pointer (some x))).run P w = .ok false w := by
  have e : ∀ y z, Op.equal t y z = Op.equalIn (9999 + 1) t y z := fun _ _ => rfl
  rw [e, e]
  generalize 9999 = d
  constructor <;> simp [Op.equalIn, run_underlying hu]
theorem equal_sl {t e : TypeId} (hu : P.underlying t = some (.slice e)) (x : Addr) (n c n' c' : Nat) (w : World) :
    (Op.equal t (.slice (some x) n c) (.slice none n' c')).run P w = .ok false w ∧ (Op.equal t (.slice none n' c') (.slice (some x) n c)).run P w = .ok false w := by
  have e : ∀ y z, Op.equal t y z = Op.equalIn (9999 + 1) t y z := fun _ _ => rfl
  rw [e, e]
  generalize 9999 = d
  constructor <;> simp [Op.equalIn, run_underlying hu]
theorem equal_fn {t : TypeId} {ps rs : Array TypeId} {vd : Bool} (hu : P.underlying t = some (.func ps rs vd)) (g : Fn) (p q : Array Value) (w : World) :
    (Op.equal t (.func g p q) .nilFunc).run P w = .ok false w ∧ (Op.equal t .nilFunc (.func g p q)).run P w = .ok false w := by
  have e : ∀ y z, Op.equal t y z = Op.equalIn (9999 + 1) t y z := fun _ _ => rfl
  rw [e, e]
  generalize 9999 = d
  constructor <;> simp [Op.equalIn, run_underlying hu]
theorem eqGuard_none (op : BinOp) (t : TypeId) (x y : Operand) (a b : Value) (h1 : a ≠ .nilIface) (h2 : ∀ l, a ≠ .agg l) (w : World) : (eqGuard op t x y a b).run P w = .ok () w := by
  unfold eqGuard
  cases op <;> first
    | rfl
    | (cases a <;> cases b <;> first | rfl | exact absurd rfl h1 | exact absurd rfl (h2 _))
end
end Go.Proofs.YtjkonfopajihdaaDoor
set_option linter.unusedVariables false
set_option linter.unusedSectionVars false
set_option linter.unusedSimpArgs false
namespace Go.Proofs.YtjkonfopajihdaaDoor
open Go Go.RowKit
variable [Env]

section
variable {P : Program} {R : Rho}
theorem array_two {α : Type} {a : Array α} {x y : α} (h : a.toList = [x, y]) : a = #[x, y] := by apply Array.ext'; simpa using h
theorem array_one {α : Type} {a : Array α} {x : α} (h : a.toList = [x]) : a = #[x] := by apply Array.ext'; simpa using h
theorem cutSl_ok {k off n l h m b T : Nat} (r : R k b T) : VRel R (cutSl k off n l h m) (.slice (some (if m = l then ⟨b, off, none⟩ else ⟨b, off + l * n, none⟩)) (h - l) (m - l)) := by
  unfold cutSl
  cases hb : Nat.beq m l with
  | true => rw [if_pos (Nat.eq_of_beq_eq_true hb)]; simp only [VRel]; exact ⟨b, T, r, rfl⟩
  | false => rw [if_neg (Nat.ne_of_beq_eq_false hb)]; simp only [VRel]; exact ⟨b, T, r, rfl⟩
theorem ptr_inv {k off : Nat} {x : Value} (h : VRel R (.ptr k off) x) : ∃ b T, R k b T ∧ x = .pointer (some ⟨b, off, none⟩) := by simpa only [VRel] using h
theorem sl_inv {k off len sz : Nat} {c : Option Nat} {x : Value} (h : VRel R (.sl k off len c sz) x) : ∃ b T c', R k b T ∧ x = .slice (some ⟨b, off, none⟩) len c' ∧ (∀ c0, c = some c0 → c' = c0) ∧ (c = none → len ≤ c' ∧ off + c' * sz ≤ T) := by
  cases c with
  | none =>
    simp only [VRel] at h
    obtain ⟨b, T, c, r, h1, h2, e⟩ := h
    exact ⟨b, T, c, r, e, (fun _ e => by cases e), (fun _ => ⟨h1, h2⟩)⟩
  | some c =>
    simp only [VRel] at h
    obtain ⟨b, T, r, e⟩ := h
    exact ⟨b, T, c, r, e, (fun _ e => by injection e), (fun e => by cases e)⟩
theorem lit_inv {v x : Value} (h : VRel R (.lit v) x) : x = v := VRel.lit_eq h
theorem pair_map (a : Act) (ps : Array (Nat × Operand)) : (ps.map fun (i, x) => (i, a.eval x)).toList = ps.toList.map fun p => (p.1, a.eval p.2) := by
  rw [Array.toList_map]
theorem places_ok : ∀ (l : List Field), (∀ fd ∈ l, (sizeT P fd.type).isSome = true) → ∀ w, ∃ pl, (l.mapM fun (f : Field) => (do pure (f.offset, ← sizeOf f.type) : Sem (Nat × Nat))).run P w = .ok pl w ∧
    ∀ j : Nat, pl[j]? = (l[j]?).bind fun (fd : Field) => (sizeT P fd.type).map fun n => (fd.offset, n)
  | [], _, w => ⟨[], by simp, fun j => by simp⟩
  | fd :: l, h, w => by
    obtain ⟨pl, h1, h2⟩ := places_ok l (fun x hx => h x (List.mem_cons_of_mem _ hx)) w
    obtain ⟨n, hn⟩ := Option.isSome_iff_exists.1 (h fd List.mem_cons_self)
    refine ⟨(fd.offset, n) :: pl, ?_, fun j => ?_⟩
    · rw [List.mapM_cons]
      simp only [Sem.run_bind, sizeT_run hn, Result.andThen_ok, Sem.run_pure, h1]
    · cases j with
      | zero => simp [hn]
      | succ j => simpa using h2 j
set_option maxHeartbeats 1600000 in
theorem evalWl0_ok {f : Fr} {a : Act} {o : Oper} {v : AV} (h : evalWl0 P f o = some v) (hf : FRel R f a.tmps) : WlOk P R v a o := by
  unfold evalWl0 at h
  obtain ⟨dst, op, type, pos, after, guard⟩ := o
  simp only at h
  split at h
  · rename_i x
    injection h with h; subst h
    exact ⟨_, opnd_ok hf x, fun w => rfl⟩
  · rename_i x
    injection h with h; subst h
    exact ⟨_, opnd_ok hf x, fun w => rfl⟩
  · rename_i c x y
    unfold wlPick at h
    split at h
    · rename_i e
      have r := opnd_ok hf c
      rw [e] at r
      have r := lit_inv r
      injection h with h; subst h
      exact ⟨_, opnd_ok hf x, fun w => by simp [execOp, r, asBool]⟩
    · rename_i e
      have r := opnd_ok hf c
      rw [e] at r
      have r := lit_inv r
      injection h with h; subst h
      exact ⟨_, opnd_ok hf y, fun w => by simp [execOp, r, asBool]⟩
    · cases h
  · rename_i t i
    unfold wlExtract at h
    split at h
    · rename_i vs e
      have r := opnd_ok hf t
      rw [e] at r
      simp only [VRel] at r
      obtain ⟨cs, r, er⟩ := r
      obtain ⟨x, hx, hr⟩ := r.get h
      refine ⟨x, hr, fun w => ?_⟩
      simp [execOp, Instr.extract, er, hx]
    · rename_i vs e
      have r := opnd_ok hf t
      rw [e] at r
      have r := lit_inv r
      cases hv : vs[i]? with
      | none => rw [hv] at h; cases h
      | some u =>
        rw [hv] at h
        injection h with h; subst h
        refine ⟨u, VRel.lit_ _, fun w => ?_⟩
        simp [execOp, Instr.extract, r, hv]
    · cases h
  · rename_i x
    unfold wlNil at h
    split at h
    · rename_i k off e
      have r := opnd_ok hf x
      rw [e] at r
      injection h with h; subst h
      obtain ⟨b, T, r1, r2⟩ := ptr_inv r
      refine ⟨_, r, fun w => ?_⟩
      simp [execOp, r2]
    · cases h
  · rename_i t x i
    unfold wlFieldAddr at h
    split at h
    · rename_i k off e
      have r := opnd_ok hf x
      rw [e] at r
      obtain ⟨b, T, r1, r2⟩ := ptr_inv r
      split at h
      · rename_i fs hu
        split at h
        · rename_i fd hfd
          split at h
          · rename_i n hn
            injection h with h; subst h
            refine ⟨.pointer (some ⟨b, off + fd.offset, none⟩), by simp only [VRel]; exact ⟨b, T, r1, rfl⟩, fun w => ?_⟩
            simp [execOp, Instr.fieldAt, run_underlying hu, hfd, r2, Instr.sureAddr, fieldPlace_ok hn]
          · cases h
        · cases h
      · cases h
    · cases h
  · rename_i t x i
    unfold wlField at h
    split at h
    · rename_i vs e
      have r := opnd_ok hf x
      rw [e] at r
      simp only [VRel] at r
      obtain ⟨cs, r, er⟩ := r
      split at h
      · rename_i fs hu
        split at h
        · rename_i fd hfd
          obtain ⟨y, hy, hrun⟩ := part_ok h r
          refine ⟨y, hy, fun w => ?_⟩
          simp [execOp, Instr.field, run_underlying hu, hfd, er, asAgg, hrun w]
        · cases h
      · cases h
    · cases h
  · rename_i t x ix
    unfold wlIndexAddr at h
    split at h
    · rename_i k i k2 off len c sz e1 e2
      have r1 := opnd_ok hf ix
      rw [e1] at r1
      have r1 := lit_inv r1
      have r2 := opnd_ok hf x
      rw [e2] at r2
      obtain ⟨b, T, c', r3, r4, _, _⟩ := sl_inv r2
      split at h
      · rename_i e hu
        split at h
        · rename_i n hlt hn
          injection h with h; subst h
          have hlt : i < len := Nat.lt_of_succ_le (Nat.le_of_ble_eq_true hlt)
          refine ⟨.pointer (some ⟨b, off + i * n, none⟩), by simp only [VRel]; exact ⟨b, T, r3, rfl⟩, fun w => ?_⟩
          simp [execOp, Instr.indexAt, asIntOf, r1, r4, run_underlying hu, hlt, sizeT_run hn, Addr.add_mid]
        · cases h
      · cases h
    · rename_i k i k2 off e1 e2
      have r1 := opnd_ok hf ix
      rw [e1] at r1
      have r1 := lit_inv r1
      have r2 := opnd_ok hf x
      rw [e2] at r2
      obtain ⟨b, T, r3, r4⟩ := ptr_inv r2
      split at h
      · rename_i len e hu
        split at h
        · rename_i n hlt hn
          injection h with h; subst h
          have hlt : i < len := Nat.lt_of_succ_le (Nat.le_of_ble_eq_true hlt)
          refine ⟨.pointer (some ⟨b, off + i * n, none⟩), by simp only [VRel]; exact ⟨b, T, r3, rfl⟩, fun w => ?_⟩
          simp [execOp, Instr.indexAt, asIntOf, r1, r4, run_underlying hu, hlt, sizeT_run hn, Addr.add_mid, Instr.sureAddr]
        · cases h
      · cases h
    · cases h
  · rename_i t x lo hi mx
    unfold wlSlice at h
    split at h
    · rename_i k off len cap sz e1
      have r1 := opnd_ok hf x
      rw [e1] at r1
      obtain ⟨b, T, c', r3, r4, hc1, hc2⟩ := sl_inv r1
      split at h
      · rename_i e hu
        split at h
        · rename_i n c hn
          split at h
          · rename_i l hh m hb
            injection h with h; subst h
            obtain ⟨b1, b2, b3, b4, b5, b6, b7⟩ := bounds3_ok hf hb
            have hcc := hc1 c rfl
            subst hcc
            refine ⟨_, cutSl_ok r3, fun w => ?_⟩
            simp only [execOp, Instr.sliceAt, Instr.slice, r4, Sem.run_bind, run_underlying hu, Result.andThen_ok, sliceBounds_ok b1 b2 b3 b4 b5 b6 b7, sizeT_run hn, Sem.run_pure]
            congr 5
            by_cases hml : m = l
            · simp [hml]
            · simp [hml, Addr.add_mid]
          · cases h
        · rename_i n hn
          split at h
          · cases h
          · split at h
            · rename_i l hh m hb
              obtain ⟨b1, b2, b3, b4, b5, b6, b7⟩ := bounds3_ok (mx := none) hf (by simpa using hb)
              obtain ⟨hc3, hc4⟩ := hc2 rfl
              have b3' : BV c' (Option.map a.eval none) c' := .inl ⟨rfl, rfl⟩
              have hrun : ∀ w, (execOp a.eval ⟨dst, .slice t x lo hi none, type, pos, after, guard⟩).run P w = .ok (.value (.slice (some (if c' = l then ⟨b, off, none⟩ else ⟨b, off + l * n, none⟩)) (hh - l) (c' - l))) w := by
                intro w
                simp only [execOp, Instr.sliceAt, Instr.slice, r4, Sem.run_bind, run_underlying hu, Result.andThen_ok, sliceBounds_ok b1 b2 b3' (by simp) b5 (by omega) (Nat.le_refl _), sizeT_run hn, Sem.run_pure]
                congr 5
                by_cases hml : c' = l
                · simp [hml]
                · simp [hml, Addr.add_mid]
              split at h
              · rename_i hl0
                have hl0 := Nat.eq_of_beq_eq_true hl0
                subst hl0
                injection h with h; subst h
                refine ⟨_, ?_, hrun⟩
                simp only [VRel]
                refine ⟨b, T, c', r3, by omega, hc4, ?_⟩
                split <;> simp
              · split at h
                · rename_i hlt
                  simp only [Bool.and_eq_true] at hlt
                  have hlt1 : l < len := Nat.lt_of_succ_le (Nat.le_of_ble_eq_true hlt.1)
                  have hsz := Nat.eq_of_beq_eq_true hlt.2
                  subst hsz
                  injection h with h; subst h
                  refine ⟨_, ?_, hrun⟩
                  simp only [VRel]
                  refine ⟨b, T, c' - l, r3, by omega, ?_, ?_⟩
                  · have : l * sz + (c' - l) * sz = c' * sz := by rw [← Nat.add_mul]; congr 1; omega
                    omega
                  · rw [if_neg (by omega)]
                · cases h
            · cases h
        · cases h
      · cases h
    · rename_i k off e1
      have r1 := opnd_ok hf x
      rw [e1] at r1
      obtain ⟨b, T, r3, r4⟩ := ptr_inv r1
      split at h
      · rename_i c e hu
        split at h
        · rename_i n l hh m hn hb
          injection h with h; subst h
          obtain ⟨b1, b2, b3, b4, b5, b6, b7⟩ := bounds3_ok hf hb
          refine ⟨_, cutSl_ok r3, fun w => ?_⟩
          simp only [execOp, Instr.sliceAt, r4, Instr.sureAddr, Sem.run_bind, run_underlying hu, Result.andThen_ok, sliceBounds_ok b1 b2 b3 b4 b5 b6 b7, sizeT_run hn, Sem.run_pure]
          rw [Addr.add_mid]
        · cases h
      · cases h
    · cases h
  · rename_i fn p q
    unfold wlMakeFunc at h
    split at h
    · cases h
    · injection h with h; subst h
      refine ⟨.func fn (p.toList.map a.eval).toArray (q.toList.map a.eval).toArray, ?_, fun w => ?_⟩
      · simp only [VRel]
        exact ⟨_, _, mapEval hf _, mapEval hf _, rfl⟩
      · simp [execOp, Instr.makeFunc, ← Array.toList_map]
  · rename_i t x
    unfold wlIface at h
    split at h
    · cases h
    · rename_i v0 hne
      split at h
      · cases h
      · rename_i d hd hu
        injection h with h; subst h
        refine ⟨.iface t (a.eval x), ?_, fun w => ?_⟩
        · simp only [VRel]
          exact ⟨_, opnd_ok hf x, rfl⟩
        · simp only [execOp, Instr.makeInterface, Sem.run_bind, run_underlying hu, Result.andThen_ok]
          cases d <;> first | rfl | (exfalso; exact hd _ rfl)
      · cases h
  · rename_i op t x y yt
    unfold wlBin at h
    split at h
    · rename_i k off e1 e2
      have r1 := opnd_ok hf x
      rw [e1] at r1
      obtain ⟨b, T, r3, r4⟩ := ptr_inv r1
      have r2 := opnd_ok hf y
      rw [e2] at r2
      have r2 := lit_inv r2
      split at h
      · rename_i e hu
        injection h with h; subst h
        refine ⟨_, VRel.lit_ _, fun w => ?_⟩
        simp [execOp, r4, r2, eqGuard_none, binOp, equal_ptr hu]
      · rename_i e hu
        injection h with h; subst h
        refine ⟨_, VRel.lit_ _, fun w => ?_⟩
        simp [execOp, r4, r2, eqGuard_none, binOp, equal_ptr hu]
      · cases h
    · rename_i k off e1 e2
      have r1 := opnd_ok hf y
      rw [e2] at r1
      obtain ⟨b, T, r3, r4⟩ := ptr_inv r1
      have r2 := opnd_ok hf x
      rw [e1] at r2
      have r2 := lit_inv r2
      split at h
      · rename_i e hu
        injection h with h; subst h
        refine ⟨_, VRel.lit_ _, fun w => ?_⟩
        simp [execOp, r4, r2, eqGuard_none, binOp, equal_ptr hu]
      · rename_i e hu
        injection h with h; subst h
        refine ⟨_, VRel.lit_ _, fun w => ?_⟩
        simp [execOp, r4, r2, eqGuard_none, binOp, equal_ptr hu]
      · cases h
    · rename_i k off len c sz n' c0 e1 e2
      have r1 := opnd_ok hf x
      rw [e1] at r1
      obtain ⟨b, T, c', r3, r4, _, _⟩ := sl_inv r1
      have r2 := opnd_ok hf y
      rw [e2] at r2
      have r2 := lit_inv r2
      split at h
      · rename_i e hu
        injection h with h; subst h
        refine ⟨_, VRel.lit_ _, fun w => ?_⟩
        simp [execOp, r4, r2, eqGuard_none, binOp, equal_sl hu]
      · rename_i e hu
        injection h with h; subst h
        refine ⟨_, VRel.lit_ _, fun w => ?_⟩
        simp [execOp, r4, r2, eqGuard_none, binOp, equal_sl hu]
      · cases h
    · rename_i n' c0 k off len c sz e1 e2
      have r1 := opnd_ok hf y
      rw [e2] at r1
      obtain ⟨b, T, c', r3, r4, _, _⟩ := sl_inv r1
      have r2 := opnd_ok hf x
      rw [e1] at r2
      have r2 := lit_inv r2
      split at h
      · rename_i e hu
        injection h with h; subst h
        refine ⟨_, VRel.lit_ _, fun w => ?_⟩
        simp [execOp, r4, r2, eqGuard_none, binOp, equal_sl hu]
      · rename_i e hu
        injection h with h; subst h
        refine ⟨_, VRel.lit_ _, fun w => ?_⟩
        simp [execOp, r4, r2, eqGuard_none, binOp, equal_sl hu]
      · cases h
    · rename_i g p q e1 e2
      have r1 := opnd_ok hf x
      rw [e1] at r1
      simp only [VRel] at r1
      obtain ⟨as, bs, _, _, r4⟩ := r1
      have r2 := opnd_ok hf y
      rw [e2] at r2
      have r2 := lit_inv r2
      split at h
      · rename_i ps rs vd hu
        injection h with h; subst h
        refine ⟨_, VRel.lit_ _, fun w => ?_⟩
        simp [execOp, r4, r2, eqGuard_none, binOp, equal_fn hu]
      · rename_i ps rs vd hu
        injection h with h; subst h
        refine ⟨_, VRel.lit_ _, fun w => ?_⟩
        simp [execOp, r4, r2, eqGuard_none, binOp, equal_fn hu]
      · cases h
    · rename_i g p q e1 e2
      have r1 := opnd_ok hf y
      rw [e2] at r1
      simp only [VRel] at r1
      obtain ⟨as, bs, _, _, r4⟩ := r1
      have r2 := opnd_ok hf x
      rw [e1] at r2
      have r2 := lit_inv r2
      split at h
      · rename_i ps rs vd hu
        injection h with h; subst h
        refine ⟨_, VRel.lit_ _, fun w => ?_⟩
        simp [execOp, r4, r2, eqGuard_none, binOp, equal_fn hu]
      · rename_i ps rs vd hu
        injection h with h; subst h
        refine ⟨_, VRel.lit_ _, fun w => ?_⟩
        simp [execOp, r4, r2, eqGuard_none, binOp, equal_fn hu]
      · cases h
    · cases h
  · rename_i t ps
    unfold wlBuild at h
    split at h
    · cases h
    · split at h
      · rename_i i hi
        have hti : ∀ w, (typeInfo t).run P w = .ok i w := fun w => by simp [typeInfo, hi]
        split at h
        · rename_i z fs hz hu
          split at h
          · rename_i hall
            rw [allL_eq, List.all_eq_true] at hall
            rw [mapL_eq (fun p => (p.1, opnd f p.2)) ps.toList] at h
            generalize hfl : fillA _ _ _ = r0 at h
            cases r0 with
            | none => cases h
            | some r =>
              injection h with h; subst h
              obtain ⟨C', h1, h2, h3⟩ := fill_ok hf ps.toList (C := z.cells) hfl (lits_cells _)
              refine ⟨.agg C', by have := VRel.mkAgg h2; simpa using this, fun w => ?_⟩
              obtain ⟨pl, hpl, hpe⟩ := places_ok (P := P) fs.toList (fun fd hfd => hall fd hfd) w
              have hp2 : (fun j => pl.toArray[j]?) = placeF P fs := by
                funext j
                unfold placeF
                simp only [List.getElem?_toArray, hpe, Array.getElem?_toList]
                cases fs[j]? <;> rfl
              simp only [execOp, Instr.build, Sem.run_bind, zeroValue, hti w, Result.andThen_ok, hz, run_underlying hu, Sem.run_pure, Array.mapM_eq_mapM_toList, Sem.run_map, hpl]
              rw [pair_map, hp2, h1]
              rfl
          · cases h
        · rename_i z n e hz hu
          split at h
          · rename_i sz hn
            rw [mapL_eq (fun p => (p.1, opnd f p.2)) ps.toList] at h
            generalize hfl : fillA _ _ _ = r0 at h
            cases r0 with
            | none => cases h
            | some r =>
              injection h with h; subst h
              obtain ⟨C', h1, h2, h3⟩ := fill_ok hf ps.toList (C := z.cells) hfl (lits_cells _)
              refine ⟨.agg C', by have := VRel.mkAgg h2; simpa using this, fun w => ?_⟩
              simp only [execOp, Instr.build, Sem.run_bind, zeroValue, hti w, Result.andThen_ok, hz, run_underlying hu, Sem.run_pure, sizeT_run hn]
              rw [pair_map, h1]
              rfl
          · cases h
        · cases h
      · cases h
  · rename_i args argTypes
    unfold wlLen at h
    split at h
    · rename_i x t ea et
      have ea' := array_one ea
      have et' := array_one et
      subst ea' et'
      split at h
      · rename_i k off len c sz e hu he
        have r1 := opnd_ok hf x
        rw [hu] at r1
        obtain ⟨b, T, c', r3, r4, _, _⟩ := sl_inv r1
        injection h with h; subst h
        refine ⟨_, VRel.lit_ _, fun w => ?_⟩
        simp [execOp, resolve, invoke, builtin, Builtin.len_, r4, run_underlying he]
      · rename_i e hu he
        have r1 := opnd_ok hf x
        rw [hu] at r1
        simp only [VRel] at r1
        obtain ⟨a0, c0, r4⟩ := r1
        injection h with h; subst h
        refine ⟨_, VRel.lit_ _, fun w => ?_⟩
        simp [execOp, resolve, invoke, builtin, Builtin.len_, r4, run_underlying he]
      · cases h
    · cases h
  · cases h
end
end Go.Proofs.YtjkonfopajihdaaDoor
