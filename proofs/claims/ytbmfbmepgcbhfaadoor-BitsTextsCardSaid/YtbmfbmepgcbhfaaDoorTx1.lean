/- Layer 1 (bits): a text cut at one byte. -/
import Derived.Test.YtbmfbmepgcbhfaaDoorR5
set_option linter.unusedSimpArgs false
set_option linter.unusedVariables false
namespace Go.Proofs.YtbmfbmepgcbhfaaDoor
open Go Go.RowKit Go.Sort Ff

/-- The place of the first byte c, or the length. -/
def cutI (c : UInt8) (l : List UInt8) : Nat := (l.takeWhile (· != c)).length
theorem cutI_nil (c : UInt8) : cutI c [] = 0 := rfl
theorem cutI_cons (c b : UInt8) (l : List UInt8) : cutI c (b :: l) = if b = c then 0 else cutI c l + 1 := by
  unfold cutI
  rw [List.takeWhile_cons]
  by_cases h : b = c
  · rw [if_pos h, if_neg (by simp [h])]; rfl
  · rw [if_neg h, if_pos (by simp [h])]; rfl
theorem cutI_le (c : UInt8) (l : List UInt8) : cutI c l ≤ l.length := by
  induction l with
  | nil => exact Nat.le_refl _
  | cons b l ih => rw [cutI_cons, List.length_cons]; split <;> omega
theorem cut_index (c : UInt8) (l : List UInt8) : Lib.indexByte l c = if cutI c l < l.length then (cutI c l : Int) else -1 := by
  induction l with
  | nil => rfl
  | cons b l ih =>
    rw [cutI_cons, List.length_cons]
    show (if b == c then 0 else if Lib.indexByte l c == -1 then -1 else Lib.indexByte l c + 1) = _
    by_cases h : b = c
    · rw [if_pos (by simp [h]), if_pos h, if_pos (by omega)]; rfl
    · rw [if_neg (by simp [h]), if_neg h, ih]
      by_cases k : cutI c l < l.length
      · rw [if_pos k, if_neg (by rw [beq_iff_eq]; omega), if_pos (Nat.succ_lt_succ k)]; omega
      · rw [if_neg k, if_pos (by simp), if_neg (fun c => k (Nat.lt_of_succ_lt_succ c))]
theorem cutI_get (c : UInt8) (l : List UInt8) (k : Nat) (hk : k < l.length) : (k < cutI c l → l[k] ≠ c) ∧ (k = cutI c l → l[k] = c) := by
  induction l generalizing k with
  | nil => exact absurd hk (Nat.not_lt_zero _)
  | cons b l ih =>
    rw [cutI_cons]
    cases k with
    | zero => by_cases h : b = c <;> simp [h]
    | succ k =>
      have := ih k (by simpa using hk)
      by_cases h : b = c
      · simp [h]
      · simp only [if_neg h, List.getElem_cons_succ]
        exact ⟨fun k' => this.1 (by omega), fun k' => this.2 (by omega)⟩
@[irreducible] def cutX (c : UInt8) (s : ByteArray) : Nat := cutI c s.data.toList
theorem cutX_le (c : UInt8) (s : ByteArray) : cutX c s ≤ s.size := by unfold cutX; exact cutI_le c _
theorem cutX_get (c : UInt8) (s : ByteArray) (k : Nat) (hk : k < s.size) : (k < cutX c s → s[k] ≠ c) ∧ (k = cutX c s → s[k] = c) := by
  unfold cutX; exact cutI_get c s.data.toList k hk
@[irreducible] def cutH (c : UInt8) (s : ByteArray) : Bool := decide (cutX c s < s.size)
/-- What stands ahead of the first byte c, and behind it. -/
@[irreducible] def cutA (c : UInt8) (s : ByteArray) : ByteArray := if cutH c s = true then s.extract 0 (cutX c s) else s
@[irreducible] def cutT (c : UInt8) (s : ByteArray) : ByteArray := if cutH c s = true then s.extract (cutX c s + 1) s.size else ⟨#[]⟩
theorem cutH_iff {c : UInt8} {s : ByteArray} : cutH c s = true ↔ cutX c s < s.size := by unfold cutH; exact decide_eq_true_iff
theorem cut_ix (c : UInt8) (s : ByteArray) : Lib.indexByte s.data.toList c = if cutH c s = true then (cutX c s : Int) else -1 := by
  rw [cut_index]
  unfold cutH cutX
  simp only [decide_eq_true_iff]
  rfl
set_option maxRecDepth 100000 in
theorem BIndex_c (c : UInt8) (s : ByteArray) (w : World) : Calls Tryd.prog 55 #[.string s, .string ⟨#[c]⟩] w fun e w' => e = .returned (.int .i64 (if cutH c s = true then (cutX c s : Int) else -1)) ∧ w' = w := by
  have hc : ((c.toNat : Int)).toNat.toUInt8 = c := by rw [Int.toNat_natCast]; exact UInt8.ofNat_toNat
  have K := Lib.hid (Tryd.stringslite_IndexByte s (c.toNat : Int))
  rw [hc, cut_ix] at K
  clear hc
  by_cases hs : s = ⟨#[c]⟩
  · have h0 : cutX c s = 0 := by subst hs; unfold cutX; show cutI c [c] = 0; rw [cutI_cons, if_pos rfl]
    have h1 : cutH c s = true := cutH_iff.2 (by rw [h0, hs]; show 0 < 1; omega)
    have hq : ([c] == s.toList) = true := by rw [hs, Go.ByteArray.toList_eq]; simp
    rw [if_pos h1, h0]
    clear K h0 h1 hs
    go_enter Tryd.func55, Tryd.ntmps55
    go_wp2_with fail
    go_ret
    exact ⟨rfl, rfl⟩
  · have hq : ([c] == s.toList) = false := by
      rw [Go.ByteArray.toList_eq, beq_eq_false_iff_ne]
      intro h
      refine hs (ByteArray.ext (Array.ext' ?_))
      exact h.symm
    clear hs
    generalize (if cutH c s = true then (cutX c s : Int) else -1) = z at *
    go_enter Tryd.func55, Tryd.ntmps55
    go_wp2_with (first | (go_at_call 67; go_loud (refine (K.out _).mono ?_; rintro ee w1 ⟨rfl, rfl⟩)))
    go_ret
    exact ⟨rfl, rfl⟩
set_option maxRecDepth 100000 in
theorem BCut1_c (c : UInt8) (s : ByteArray) (w : World) (hz : s.size ≤ 9223372036854775807) : Calls Tryd.prog 45 #[.string s, .string ⟨#[c]⟩] w fun e w' => e = .returned (.tuple #[.string (cutA c s), .string (cutT c s), .bool (cutH c s)]) ∧ Below w.heap.size w w' := by
  have K := Lib.hid (BIndex_c c s)
  by_cases h : cutH c s = true
  · have hi := cutH_iff.1 h
    have e1 : cutA c s = s.extract 0 (cutX c s) := by unfold cutA; rw [if_pos h]
    have e2 : cutT c s = s.extract (cutX c s + 1) s.size := by unfold cutT; rw [if_pos h]
    rw [if_pos h] at K
    rw [h, e1, e2]
    clear h e1 e2
    generalize cutX c s = i at *
    have r1 : ∀ w, (Instr.slice 9 (.string s) none (some (.int .i64 (i : Int))) none).run Tryd.prog w = .ok (.string (s.extract 0 i)) w := fun w => by
      have h := run_slice_string_h (P := Tryd.prog) w 9 s Tryd.underlying9 .i64 (i : Int) (by omega) (by omega)
      rwa [Int.toNat_natCast] at h
    have r2 : ∀ w, (Instr.slice 9 (.string s) (some (.int .i64 ((i : Int) + 1))) none none).run Tryd.prog w = .ok (.string (s.extract (i + 1) s.size)) w := fun w => by
      have h := run_slice_string_l (P := Tryd.prog) w 9 s Tryd.underlying9 .i64 ((i : Int) + 1) (by omega) (by omega)
      rwa [show ((i : Int) + 1).toNat = i + 1 by omega] at h
    go_enter Tryd.func45, Tryd.ntmps45
    go_upto_region 3 with (first | (go_at_call 55; (with_reducible refine (K.out _).mono ?_); rintro ee w1 ⟨rfl, rfl⟩))
    go_region
    go_wp2_with fail
    go_ret3
    exact ⟨rfl, (Below.refl _ _).drew⟩
  · have e1 : cutA c s = s := by unfold cutA; rw [if_neg h]
    have e2 : cutT c s = ⟨#[]⟩ := by unfold cutT; rw [if_neg h]
    rw [if_neg h] at K
    rw [Bool.eq_false_iff.2 h, e1, e2]
    clear h e1 e2
    go_enter Tryd.func45, Tryd.ntmps45
    go_wp2_with (first | (go_at_call 55; (with_reducible refine (K.out _).mono ?_); rintro ee w1 ⟨rfl, rfl⟩))
    go_ret3
    exact ⟨rfl, Below.refl _ _⟩
set_option maxRecDepth 100000 in
theorem BCut_c (c : UInt8) (s : ByteArray) (w : World) (hz : s.size ≤ 9223372036854775807) : Calls Tryd.prog 33 #[.string s, .string ⟨#[c]⟩] w fun e w' => e = .returned (.tuple #[.string (cutA c s), .string (cutT c s), .bool (cutH c s)]) ∧ Below w.heap.size w w' := by
  have K := Lib.hid (fun w => BCut1_c c s w hz)
  generalize cutA c s = a at *
  generalize cutT c s = b at *
  generalize cutH c s = z at *
  go_enter Tryd.func33, Tryd.ntmps33
  go_wp2_with (first | (go_at_call 45; (with_reducible refine (K.out _).mono ?_); rintro ee w1 ⟨rfl, hb⟩))
  go_ret3
  exact ⟨rfl, hb⟩
end Go.Proofs.YtbmfbmepgcbhfaaDoor
