/- A closed run, reckoned: the operations that ask nothing of the world. -/
import Derived.Test.YtjkonfopajihdaaDoorEv3
set_option linter.unusedVariables false
set_option linter.unusedSimpArgs false
namespace Go.Proofs.YtjkonfopajihdaaDoor
open Go Go.RowKit

section
variable {P : Program} {R : Rho}
theorem eqGuard_int (op : BinOp) (t : TypeId) (x y : Operand) (k k' : IntKind) (a b : Int) (w : World) : (eqGuard op t x y (.int k a) (.int k' b)).run P w = .ok () w := by
  unfold eqGuard
  cases op <;> rfl
theorem fastInt_ok {op : BinOp} {k k' : IntKind} {a b : Int} {v : Value} (h : fastInt op k k' a b = some v) (t : TypeId) (w : World) : (binOp op t (.int k a) (.int k' b)).run P w = .ok v w := by
  unfold fastInt at h
  cases op <;> simp only [forceI_eq, forceN_eq] at h
  case shl =>
    split at h
    · cases h
    · rename_i hb _
      injection h with h; subst h
      simp [binOp, Op.shift, hb]
  case shr =>
    split at h
    · cases h
    · rename_i hb _
      injection h with h; subst h
      simp [binOp, Op.shift, hb]
  all_goals
    split at h
    · cases h
    rename_i hk _
    subst hk
  all_goals first
    | (injection h with h; subst h; simp [binOp, Op.intArith, Op.intCmp, Op.intBits, BitVec.toNat_and, BitVec.toNat_or]; done)
    | (cases h; done)
    | (split at h
       · cases h
       · rename_i hb
         injection h with h; subst h
         have : ¬ b = 0 := fun e => hb e
         simp [binOp, Op.intDiv, this])
/-- One value, in whatever world. -/
def WlOk (P : Program) (R : Rho) (v : AV) (a : Act) (o : Oper) : Prop := ∃ x, VRel R v x ∧ ∀ w, (execOp a.eval o).run P w = .ok (.value x) w
theorem fastWl_ok {f : Fr} {a : Act} {o : Oper} {v : AV} (h : fastWl P f o = some v) (hf : FRel R f a.tmps) : WlOk P R v a o := by
  unfold fastWl at h
  obtain ⟨dst, op, type, pos, after, guard⟩ := o
  simp only at h
  split at h
  · rename_i op t x y yt
    unfold fwBin at h
    split at h
    · rename_i k p k' q e1 e2
      have r1 := opnd_ok hf x
      have r2 := opnd_ok hf y
      rw [e1] at r1
      rw [e2] at r2
      have r1 := VRel.lit_eq r1
      have r2 := VRel.lit_eq r2
      split at h
      · rename_i v' hv
        injection h with h; subst h
        refine ⟨v', VRel.lit_ _, fun w => ?_⟩
        simp [execOp, r1, r2, eqGuard_int, fastInt_ok hv]
      · cases h
    · cases h
  · rename_i src dst x
    unfold fwConv at h
    split at h
    · rename_i k n e1
      have r1 := opnd_ok hf x
      rw [e1] at r1
      have r1 := VRel.lit_eq r1
      split at h
      · rename_i d k' e2 e3
        rw [forceI_eq] at h
        injection h with h; subst h
        refine ⟨_, VRel.lit_ _, fun w => ?_⟩
        simp [execOp, r1, convert, run_underlying e2, run_underlying e3, Conv.intToInt]
      · cases h
    · cases h
  · rename_i t x ix
    unfold fwIndex at h
    split at h
    · rename_i s k i e1 e2
      have r1 := opnd_ok hf x
      rw [e1] at r1
      have r1 := VRel.lit_eq r1
      have r2 := opnd_ok hf ix
      rw [e2] at r2
      have r2 := VRel.lit_eq r2
      split at h
      · rename_i hu
        split at h
        · rename_i b hb
          rw [getO_eq] at hb
          rw [forceN_eq] at h
          injection h with h; subst h
          refine ⟨_, VRel.lit_ _, fun w => ?_⟩
          have hb' : s[i]? = some b := by
            have hi : i < s.data.toList.length := (List.getElem?_eq_some_iff.1 hb).1
            have hi' : i < s.size := by simpa using hi
            rw [getElem?_pos s i hi']
            rw [List.getElem?_eq_getElem hi] at hb
            have hb2 : s.data[i] = b := by simpa using hb
            show some (s.data[i]) = some b
            rw [hb2]
          simp [execOp, r1, r2, Instr.index, asIntOf, run_underlying hu, hb']
        · cases h
      · cases h
    · cases h
  · rename_i args argTypes
    unfold fwLen at h
    split at h
    · rename_i x t ea et
      split at h
      · rename_i s e1 hu
        rw [forceN_eq] at h
        injection h with h; subst h
        have r1 := opnd_ok hf x
        rw [e1] at r1
        have r1 := VRel.lit_eq r1
        have ea' : args = #[x] := by apply Array.ext'; simpa using ea
        have et' : argTypes = #[t] := by apply Array.ext'; simpa using et
        subst ea' et'
        refine ⟨_, VRel.lit_ _, fun w => ?_⟩
        simp [execOp, resolve, invoke, builtin, Builtin.len_, r1, run_underlying hu, goInt]
      · cases h
    · cases h
  · cases h
end
end Go.Proofs.YtjkonfopajihdaaDoor
