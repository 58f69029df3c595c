/- A closed run, reckoned: all that asks nothing of the world. -/
import Derived.Test.YtjkonfopajihdaaDoorEv5
set_option linter.unusedVariables false
set_option linter.unusedSimpArgs false
namespace Go.Proofs.YtjkonfopajihdaaDoor
open Go Go.RowKit

section
variable {P : Program} {R : Rho}
theorem array_two {α : Type} {a : Array α} {x y : α} (h : a.toList = [x, y]) : a = #[x, y] := by apply Array.ext'; simpa using h
theorem array_one {α : Type} {a : Array α} {x : α} (h : a.toList = [x]) : a = #[x] := by apply Array.ext'; simpa using h
theorem cutSl_ok {k off n l h m b T : Nat} (r : R k b T) : VRel R (cutSl k off n l h m) (.slice (some (if m = l then ⟨b, off, none⟩ else ⟨b, off + l * n, none⟩)) (h - l) (m - l)) := by
  unfold cutSl
  cases hb : Nat.beq m l with
  | true => rw [if_pos (Nat.eq_of_beq_eq_true hb)]; simp only [VRel]; exact ⟨b, T, r, rfl⟩
  | false => rw [if_neg (Nat.ne_of_beq_eq_false hb)]; simp only [VRel]; exact ⟨b, T, r, rfl⟩
theorem ptr_inv {k off : Nat} {x : Value} (h : VRel R (.ptr k off) x) : ∃ b T, R k b T ∧ x = .pointer (some ⟨b, off, none⟩) := by simpa only [VRel] using h
theorem sl_inv {k off len sz : Nat} {c : Option Nat} {x : Value} (h : VRel R (.sl k off len c sz) x) : ∃ b T c', R k b T ∧ x = .slice (some ⟨b, off, none⟩) len c' ∧ (∀ c0, c = some c0 → c' = c0) ∧ (c = none → len ≤ c' ∧ off + c' * sz ≤ T) := by
  cases c with
  | none =>
    simp only [VRel] at h
    obtain ⟨b, T, c, r, h1, h2, e⟩ := h
    exact ⟨b, T, c, r, e, (fun _ e => by cases e), (fun _ => ⟨h1, h2⟩)⟩
  | some c =>
    simp only [VRel] at h
    obtain ⟨b, T, r, e⟩ := h
    exact ⟨b, T, c, r, e, (fun _ e => by injection e), (fun e => by cases e)⟩
theorem lit_inv {v x : Value} (h : VRel R (.lit v) x) : x = v := VRel.lit_eq h
theorem pair_map (a : Act) (ps : Array (Nat × Operand)) : (ps.map fun (i, x) => (i, a.eval x)).toList = ps.toList.map fun p => (p.1, a.eval p.2) := by
  rw [Array.toList_map]
theorem places_ok : ∀ (l : List Field), (∀ fd ∈ l, (sizeT P fd.type).isSome = true) → ∀ w, ∃ pl, (l.mapM fun (f : Field) => (do pure (f.offset, ← sizeOf f.type) : Sem (Nat × Nat))).run P w = .ok pl w ∧
    ∀ j : Nat, pl[j]? = (l[j]?).bind fun (fd : Field) => (sizeT P fd.type).map fun n => (fd.offset, n)
  | [], _, w => ⟨[], by simp, fun j => by simp⟩
  | fd :: l, h, w => by
    obtain ⟨pl, h1, h2⟩ := places_ok l (fun x hx => h x (List.mem_cons_of_mem _ hx)) w
    obtain ⟨n, hn⟩ := Option.isSome_iff_exists.1 (h fd List.mem_cons_self)
    refine ⟨(fd.offset, n) :: pl, ?_, fun j => ?_⟩
    · rw [List.mapM_cons]
      simp only [Sem.run_bind, sizeT_run hn, Result.andThen_ok, Sem.run_pure, h1]
    · cases j with
      | zero => simp [hn]
      | succ j => simpa using h2 j
set_option maxHeartbeats 1600000 in
theorem evalWl0_ok {f : Fr} {a : Act} {o : Oper} {v : AV} (h : evalWl0 P f o = some v) (hf : FRel R f a.tmps) : WlOk P R v a o := by
  unfold evalWl0 at h
  obtain ⟨dst, op, type, pos, after, guard⟩ := o
  simp only at h
  split at h
  · rename_i x
    injection h with h; subst h
    exact ⟨_, opnd_ok hf x, fun w => rfl⟩
  · rename_i x
    injection h with h; subst h
    exact ⟨_, opnd_ok hf x, fun w => rfl⟩
  · rename_i c x y
    unfold wlPick at h
    split at h
    · rename_i e
      have r := opnd_ok hf c
      rw [e] at r
      have r := lit_inv r
      injection h with h; subst h
      exact ⟨_, opnd_ok hf x, fun w => by simp [execOp, r, asBool]⟩
    · rename_i e
      have r := opnd_ok hf c
      rw [e] at r
      have r := lit_inv r
      injection h with h; subst h
      exact ⟨_, opnd_ok hf y, fun w => by simp [execOp, r, asBool]⟩
    · cases h
  · rename_i t i
    unfold wlExtract at h
    split at h
    · rename_i vs e
      have r := opnd_ok hf t
      rw [e] at r
      simp only [VRel] at r
      obtain ⟨cs, r, er⟩ := r
      obtain ⟨x, hx, hr⟩ := r.get h
      refine ⟨x, hr, fun w => ?_⟩
      simp [execOp, Instr.extract, er, hx]
    · rename_i vs e
      have r := opnd_ok hf t
      rw [e] at r
      have r := lit_inv r
      cases hv : vs[i]? with
      | none => rw [hv] at h; cases h
      | some u =>
        rw [hv] at h
        injection h with h; subst h
        refine ⟨u, VRel.lit_ _, fun w => ?_⟩
        simp [execOp, Instr.extract, r, hv]
    · cases h
  · rename_i x
    unfold wlNil at h
    split at h
    · rename_i k off e
      have r := opnd_ok hf x
      rw [e] at r
      injection h with h; subst h
      obtain ⟨b, T, r1, r2⟩ := ptr_inv r
      refine ⟨_, r, fun w => ?_⟩
      simp [execOp, r2]
    · cases h
  · rename_i t x i
    unfold wlFieldAddr at h
    split at h
    · rename_i k off e
      have r := opnd_ok hf x
      rw [e] at r
      obtain ⟨b, T, r1, r2⟩ := ptr_inv r
      split at h
      · rename_i fs hu
        split at h
        · rename_i fd hfd
          split at h
          · rename_i n hn
            injection h with h; subst h
            refine ⟨.pointer (some ⟨b, off + fd.offset, none⟩), by simp only [VRel]; exact ⟨b, T, r1, rfl⟩, fun w => ?_⟩
            simp [execOp, Instr.fieldAt, run_underlying hu, hfd, r2, Instr.sureAddr, fieldPlace_ok hn]
          · cases h
        · cases h
      · cases h
    · cases h
  · rename_i t x i
    unfold wlField at h
    split at h
    · rename_i vs e
      have r := opnd_ok hf x
      rw [e] at r
      simp only [VRel] at r
      obtain ⟨cs, r, er⟩ := r
      split at h
      · rename_i fs hu
        split at h
        · rename_i fd hfd
          obtain ⟨y, hy, hrun⟩ := part_ok h r
          refine ⟨y, hy, fun w => ?_⟩
          simp [execOp, Instr.field, run_underlying hu, hfd, er, asAgg, hrun w]
        · cases h
      · cases h
    · cases h
  · rename_i t x ix
    unfold wlIndexAddr at h
    split at h
    · rename_i k i k2 off len c sz e1 e2
      have r1 := opnd_ok hf ix
      rw [e1] at r1
      have r1 := lit_inv r1
      have r2 := opnd_ok hf x
      rw [e2] at r2
      obtain ⟨b, T, c', r3, r4, _, _⟩ := sl_inv r2
      split at h
      · rename_i e hu
        split at h
        · rename_i n hlt hn
          injection h with h; subst h
          have hlt : i < len := Nat.lt_of_succ_le (Nat.le_of_ble_eq_true hlt)
          refine ⟨.pointer (some ⟨b, off + i * n, none⟩), by simp only [VRel]; exact ⟨b, T, r3, rfl⟩, fun w => ?_⟩
          simp [execOp, Instr.indexAt, asIntOf, r1, r4, run_underlying hu, hlt, sizeT_run hn, Addr.add_mid]
        · cases h
      · cases h
    · rename_i k i k2 off e1 e2
      have r1 := opnd_ok hf ix
      rw [e1] at r1
      have r1 := lit_inv r1
      have r2 := opnd_ok hf x
      rw [e2] at r2
      obtain ⟨b, T, r3, r4⟩ := ptr_inv r2
      split at h
      · rename_i len e hu
        split at h
        · rename_i n hlt hn
          injection h with h; subst h
          have hlt : i < len := Nat.lt_of_succ_le (Nat.le_of_ble_eq_true hlt)
          refine ⟨.pointer (some ⟨b, off + i * n, none⟩), by simp only [VRel]; exact ⟨b, T, r3, rfl⟩, fun w => ?_⟩
          simp [execOp, Instr.indexAt, asIntOf, r1, r4, run_underlying hu, hlt, sizeT_run hn, Addr.add_mid, Instr.sureAddr]
        · cases h
      · cases h
    · cases h
  · rename_i t x lo hi mx
    unfold wlSlice at h
    split at h
    · rename_i k off len cap sz e1
      have r1 := opnd_ok hf x
      rw [e1] at r1
      obtain ⟨b, T, c', r3, r4, hc1, hc2⟩ := sl_inv r1
      split at h
      · rename_i e hu
        split at h
        · rename_i n c hn
          split at h
          · rename_i l hh m hb
            injection h with h; subst h
            obtain ⟨b1, b2, b3, b4, b5, b6, b7⟩ := bounds3_ok hf hb
            have hcc := hc1 c rfl
            subst hcc
            refine ⟨_, cutSl_ok r3, fun w => ?_⟩
            simp only [execOp, Instr.sliceAt, Instr.slice, r4, Sem.run_bind, run_underlying hu, Result.andThen_ok, sliceBounds_ok b1 b2 b3 b4 b5 b6 b7, sizeT_run hn, Sem.run_pure]
            congr 5
            by_cases hml : m = l
            · simp [hml]
            · simp [hml, Addr.add_mid]
          · cases h
        · rename_i n hn
          split at h
          · cases h
          · split at h
            · rename_i l hh m hb
              obtain ⟨b1, b2, b3, b4, b5, b6, b7⟩ := bounds3_ok (mx := none) hf (by simpa using hb)
              obtain ⟨hc3, hc4⟩ := hc2 rfl
              have b3' : BV c' (Option.map a.eval none) c' := .inl ⟨rfl, rfl⟩
              have hrun : ∀ w, (execOp a.eval ⟨dst, .slice t x lo hi none, type, pos, after, guard⟩).run P w = .ok (.value (.slice (some (if c' = l then ⟨b, off, none⟩ else ⟨b, off + l * n, none⟩)) (hh - l) (c' - l))) w := by
                intro w
                simp only [execOp, Instr.sliceAt, Instr.slice, r4, Sem.run_bind, run_underlying hu, Result.andThen_ok, sliceBounds_ok b1 b2 b3' (by simp) b5 (by omega) (Nat.le_refl _), sizeT_run hn, Sem.run_pure]
                congr 5
                by_cases hml : c' = l
                · simp [hml]
                · simp [hml, Addr.add_mid]
              split at h
              · rename_i hl0
                have hl0 := Nat.eq_of_beq_eq_true hl0
                subst hl0
                injection h with h; subst h
                refine ⟨_, ?_, hrun⟩
                simp only [VRel]
                refine ⟨b, T, c', r3, by omega, hc4, ?_⟩
                split <;> simp
              · split at h
                · rename_i hlt
                  simp only [Bool.and_eq_true] at hlt
                  have hlt1 : l < len := Nat.lt_of_succ_le (Nat.le_of_ble_eq_true hlt.1)
                  have hsz := Nat.eq_of_beq_eq_true hlt.2
                  subst hsz
                  injection h with h; subst h
                  refine ⟨_, ?_, hrun⟩
                  simp only [VRel]
                  refine ⟨b, T, c' - l, r3, by omega, ?_, ?_⟩
                  · have : l * sz + (c' - l) * sz = c' * sz := by rw [← Nat.add_mul]; congr 1; omega
                    omega
                  · rw [if_neg (by omega)]
                · cases h
            · cases h
        · cases h
      · cases h
    · rename_i k off e1
      have r1 := opnd_ok hf x
      rw [e1] at r1
      obtain ⟨b, T, r3, r4⟩ := ptr_inv r1
      split at h
      · rename_i c e hu
        split at h
        · rename_i n l hh m hn hb
          injection h with h; subst h
          obtain ⟨b1, b2, b3, b4, b5, b6, b7⟩ := bounds3_ok hf hb
          refine ⟨_, cutSl_ok r3, fun w => ?_⟩
          simp only [execOp, Instr.sliceAt, r4, Instr.sureAddr, Sem.run_bind, run_underlying hu, Result.andThen_ok, sliceBounds_ok b1 b2 b3 b4 b5 b6 b7, sizeT_run hn, Sem.run_pure]
          rw [Addr.add_mid]
        · cases h
      · cases h
    · cases h
  · rename_i fn p q
    unfold wlMakeFunc at h
    split at h
    · cases h
    · injection h with h; subst h
      refine ⟨.func fn (p.toList.map a.eval).toArray (q.toList.map a.eval).toArray, ?_, fun w => ?_⟩
      · simp only [VRel]
        exact ⟨_, _, mapEval hf _, mapEval hf _, rfl⟩
      · simp [execOp, Instr.makeFunc, ← Array.toList_map]
  · rename_i t x
    unfold wlIface at h
    split at h
    · cases h
    · rename_i v0 hne
      split at h
      · cases h
      · rename_i d hd hu
        injection h with h; subst h
        refine ⟨.iface t (a.eval x), ?_, fun w => ?_⟩
        · simp only [VRel]
          exact ⟨_, opnd_ok hf x, rfl⟩
        · simp only [execOp, Instr.makeInterface, Sem.run_bind, run_underlying hu, Result.andThen_ok]
          cases d <;> first | rfl | (exfalso; exact hd _ rfl)
      · cases h
  · rename_i op t x y yt
    unfold wlBin at h
    split at h
    · rename_i k off e1 e2
      have r1 := opnd_ok hf x
      rw [e1] at r1
      obtain ⟨b, T, r3, r4⟩ := ptr_inv r1
      have r2 := opnd_ok hf y
      rw [e2] at r2
      have r2 := lit_inv r2
      split at h
      · rename_i e hu
        injection h with h; subst h
        refine ⟨_, VRel.lit_ _, fun w => ?_⟩
        simp [execOp, r4, r2, eqGuard_none, binOp, equal_ptr hu]
      · rename_i e hu
        injection h with h; subst h
        refine ⟨_, VRel.lit_ _, fun w => ?_⟩
        simp [execOp, r4, r2, eqGuard_none, binOp, equal_ptr hu]
      · cases h
    · rename_i k off e1 e2
      have r1 := opnd_ok hf y
      rw [e2] at r1
      obtain ⟨b, T, r3, r4⟩ := ptr_inv r1
      have r2 := opnd_ok hf x
      rw [e1] at r2
      have r2 := lit_inv r2
      split at h
      · rename_i e hu
        injection h with h; subst h
        refine ⟨_, VRel.lit_ _, fun w => ?_⟩
        simp [execOp, r4, r2, eqGuard_none, binOp, equal_ptr hu]
      · rename_i e hu
        injection h with h; subst h
        refine ⟨_, VRel.lit_ _, fun w => ?_⟩
        simp [execOp, r4, r2, eqGuard_none, binOp, equal_ptr hu]
      · cases h
    · rename_i k off len c sz n' c0 e1 e2
      have r1 := opnd_ok hf x
      rw [e1] at r1
      obtain ⟨b, T, c', r3, r4, _, _⟩ := sl_inv r1
      have r2 := opnd_ok hf y
      rw [e2] at r2
      have r2 := lit_inv r2
      split at h
      · rename_i e hu
        injection h with h; subst h
        refine ⟨_, VRel.lit_ _, fun w => ?_⟩
        simp [execOp, r4, r2, eqGuard_none, binOp, equal_sl hu]
      · rename_i e hu
        injection h with h; subst h
        refine ⟨_, VRel.lit_ _, fun w => ?_⟩
        simp [execOp, r4, r2, eqGuard_none, binOp, equal_sl hu]
      · cases h
    · rename_i n' c0 k off len c sz e1 e2
      have r1 := opnd_ok hf y
      rw [e2] at r1
      obtain ⟨b, T, c', r3, r4, _, _⟩ := sl_inv r1
      have r2 := opnd_ok hf x
      rw [e1] at r2
      have r2 := lit_inv r2
      split at h
      · rename_i e hu
        injection h with h; subst h
        refine ⟨_, VRel.lit_ _, fun w => ?_⟩
        simp [execOp, r4, r2, eqGuard_none, binOp, equal_sl hu]
      · rename_i e hu
        injection h with h; subst h
        refine ⟨_, VRel.lit_ _, fun w => ?_⟩
        simp [execOp, r4, r2, eqGuard_none, binOp, equal_sl hu]
      · cases h
    · rename_i g p q e1 e2
      have r1 := opnd_ok hf x
      rw [e1] at r1
      simp only [VRel] at r1
      obtain ⟨as, bs, _, _, r4⟩ := r1
      have r2 := opnd_ok hf y
      rw [e2] at r2
      have r2 := lit_inv r2
      split at h
      · rename_i ps rs vd hu
        injection h with h; subst h
        refine ⟨_, VRel.lit_ _, fun w => ?_⟩
        simp [execOp, r4, r2, eqGuard_none, binOp, equal_fn hu]
      · rename_i ps rs vd hu
        injection h with h; subst h
        refine ⟨_, VRel.lit_ _, fun w => ?_⟩
        simp [execOp, r4, r2, eqGuard_none, binOp, equal_fn hu]
      · cases h
    · rename_i g p q e1 e2
      have r1 := opnd_ok hf y
      rw [e2] at r1
      simp only [VRel] at r1
      obtain ⟨as, bs, _, _, r4⟩ := r1
      have r2 := opnd_ok hf x
      rw [e1] at r2
      have r2 := lit_inv r2
      split at h
      · rename_i ps rs vd hu
        injection h with h; subst h
        refine ⟨_, VRel.lit_ _, fun w => ?_⟩
        simp [execOp, r4, r2, eqGuard_none, binOp, equal_fn hu]
      · rename_i ps rs vd hu
        injection h with h; subst h
        refine ⟨_, VRel.lit_ _, fun w => ?_⟩
        simp [execOp, r4, r2, eqGuard_none, binOp, equal_fn hu]
      · cases h
    · cases h
  · rename_i t ps
    unfold wlBuild at h
    split at h
    · cases h
    · split at h
      · rename_i i hi
        have hti : ∀ w, (typeInfo t).run P w = .ok i w := fun w => by simp [typeInfo, hi]
        split at h
        · rename_i z fs hz hu
          split at h
          · rename_i hall
            rw [allL_eq, List.all_eq_true] at hall
            rw [mapL_eq (fun p => (p.1, opnd f p.2)) ps.toList] at h
            generalize hfl : fillA _ _ _ = r0 at h
            cases r0 with
            | none => cases h
            | some r =>
              injection h with h; subst h
              obtain ⟨C', h1, h2, h3⟩ := fill_ok hf ps.toList (C := z.cells) hfl (lits_cells _)
              refine ⟨.agg C', by have := VRel.mkAgg h2; simpa using this, fun w => ?_⟩
              obtain ⟨pl, hpl, hpe⟩ := places_ok (P := P) fs.toList (fun fd hfd => hall fd hfd) w
              have hp2 : (fun j => pl.toArray[j]?) = placeF P fs := by
                funext j
                unfold placeF
                simp only [List.getElem?_toArray, hpe, Array.getElem?_toList]
                cases fs[j]? <;> rfl
              simp only [execOp, Instr.build, Sem.run_bind, zeroValue, hti w, Result.andThen_ok, hz, run_underlying hu, Sem.run_pure, Array.mapM_eq_mapM_toList, Sem.run_map, hpl]
              rw [pair_map, hp2, h1]
              rfl
          · cases h
        · rename_i z n e hz hu
          split at h
          · rename_i sz hn
            rw [mapL_eq (fun p => (p.1, opnd f p.2)) ps.toList] at h
            generalize hfl : fillA _ _ _ = r0 at h
            cases r0 with
            | none => cases h
            | some r =>
              injection h with h; subst h
              obtain ⟨C', h1, h2, h3⟩ := fill_ok hf ps.toList (C := z.cells) hfl (lits_cells _)
              refine ⟨.agg C', by have := VRel.mkAgg h2; simpa using this, fun w => ?_⟩
              simp only [execOp, Instr.build, Sem.run_bind, zeroValue, hti w, Result.andThen_ok, hz, run_underlying hu, Sem.run_pure, sizeT_run hn]
              rw [pair_map, h1]
              rfl
          · cases h
        · cases h
      · cases h
  · rename_i args argTypes
    unfold wlLen at h
    split at h
    · rename_i x t ea et
      have ea' := array_one ea
      have et' := array_one et
      subst ea' et'
      split at h
      · rename_i k off len c sz e hu he
        have r1 := opnd_ok hf x
        rw [hu] at r1
        obtain ⟨b, T, c', r3, r4, _, _⟩ := sl_inv r1
        injection h with h; subst h
        refine ⟨_, VRel.lit_ _, fun w => ?_⟩
        simp [execOp, resolve, invoke, builtin, Builtin.len_, r4, run_underlying he]
      · rename_i e hu he
        have r1 := opnd_ok hf x
        rw [hu] at r1
        simp only [VRel] at r1
        obtain ⟨a0, c0, r4⟩ := r1
        injection h with h; subst h
        refine ⟨_, VRel.lit_ _, fun w => ?_⟩
        simp [execOp, resolve, invoke, builtin, Builtin.len_, r4, run_underlying he]
      · cases h
    · cases h
  · cases h
end
end Go.Proofs.YtjkonfopajihdaaDoor
