/- Texts put together: SyD It0 It2 It3 It4 D29 It5 It6 It7 It8 N40 It8b It9 It10 It11 Post DP ItT SyE D46 G1 G2 G3 ItG1. -/
import Derived.Test.YtdfnejpfpkaplaaGreatDoorV4
import Derived.Test.YtdfnejpfpkaplaaGreatDoorV2
import Derived.Test.YtdfnejpfpkaplaaGreatDoorV1
import Derived.Lib.ConvBytes
import Derived.Lib.AtoiErrMem
import Derived.Deep.RegionHeld3
import Derived.Below
import Derived.ChangeSame
import Derived.Test.YtdfnejpfpkaplaaGreatDoorRows
import Derived.ProofKit
import Derived.Lib.SmallJoins
import Derived.OpenShut
import Derived.ShutString
import Derived.LaidSub
import Derived.Lib.LaidTab
import Derived.Stop.LaidErr
import Derived.LaidLaws
set_option linter.unusedVariables false
set_option linter.unusedSimpArgs false
set_option linter.unusedSectionVars false
namespace Go.Proofs.YtdfnejpfpkaplaaGreatDoor
open Go Go.RowKit Nt
theorem natS_inj {m n : Nat} : natS m = natS n ↔ m = n := by
  constructor
  · intro h
    have : (natS m).toList = (natS n).toList := by rw [h]
    exact (natS_list_eq m n).1 this
  · rintro rfl; rfl
theorem Dy.ext_iff' {a b : Dy} : (a.g = b.g ∧ natS a.n = natS b.n ∧ a.x = b.x) ↔ a = b := by
  obtain ⟨g, n, x⟩ := a
  obtain ⟨g', n', x'⟩ := b
  simp [natS_inj]
theorem str_inj {s s' : ByteArray} (h : s.toList = s'.toList) : s = s' := by
  rw [ByteArray.toList_eq, ByteArray.toList_eq] at h
  obtain ⟨a⟩ := s
  obtain ⟨b⟩ := s'
  have : a = b := Array.ext' h
  rw [this]
section
variable [Env]
end
def Dy.one : Dy := ⟨false, 1, 0⟩
end Go.Proofs.YtdfnejpfpkaplaaGreatDoor
namespace Go.Proofs.YtdfnejpfpkaplaaGreatDoor
open Go Go.RowKit Nt
def atB (c : UInt8) (l : List UInt8) : Nat := (l.takeWhile (· != c)).length
theorem atB_cons (c b : UInt8) (l : List UInt8) : atB c (b :: l) = if b = c then 0 else atB c l + 1 := by
  unfold atB
  rw [List.takeWhile_cons]
  by_cases h : b = c
  · rw [if_pos h, if_neg (by simp [h])]; rfl
  · rw [if_neg h, if_pos (by simp [h])]; rfl
theorem atB_le (c : UInt8) (l : List UInt8) : atB c l ≤ l.length := by
  induction l with
  | nil => exact Nat.le_refl _
  | cons b l ih => rw [atB_cons, List.length_cons]; split <;> omega
theorem index_at (c : UInt8) (l : List UInt8) : Lib.indexByte l c = if atB c l < l.length then (atB c l : Int) else -1 := by
  induction l with
  | nil => rfl
  | cons b l ih =>
    rw [atB_cons, List.length_cons]
    show (if b == c then 0 else if Lib.indexByte l c == -1 then -1 else Lib.indexByte l c + 1) = _
    by_cases h : b = c
    · rw [if_pos (by simp [h]), if_pos h, if_pos (by omega)]; rfl
    · rw [if_neg (by simp [h]), if_neg h, ih]
      by_cases k : atB c l < l.length
      · rw [if_pos k, if_neg (by rw [beq_iff_eq]; omega), if_pos (Nat.succ_lt_succ k)]; omega
      · rw [if_neg k, if_pos (by simp), if_neg (fun c => k (Nat.lt_of_succ_lt_succ c))]
theorem atB_get (c : UInt8) (l : List UInt8) (k : Nat) (hk : k < l.length) : (k < atB c l → l[k] ≠ c) ∧ (k = atB c l → l[k] = c) := by
  induction l generalizing k with
  | nil => exact absurd hk (Nat.not_lt_zero _)
  | cons b l ih =>
    rw [atB_cons]
    cases k with
    | zero => by_cases h : b = c <;> simp [h]
    | succ k =>
      have := ih k (by simpa using hk)
      by_cases h : b = c
      · simp [h]
      · simp only [if_neg h, List.getElem_cons_succ]
        exact ⟨fun k' => this.1 (by omega), fun k' => this.2 (by omega)⟩
@[irreducible] def ixB (c : UInt8) (s : ByteArray) : Nat := atB c s.data.toList
theorem ixB_le (c : UInt8) (s : ByteArray) : ixB c s ≤ s.size := by unfold ixB; exact atB_le c _
theorem ixB_get (c : UInt8) (s : ByteArray) (k : Nat) (hk : k < s.size) : (k < ixB c s → s[k] ≠ c) ∧ (k = ixB c s → s[k] = c) := by
  unfold ixB; exact atB_get c s.data.toList k hk
@[irreducible] def hasB (c : UInt8) (s : ByteArray) : Bool := decide (ixB c s < s.size)
@[irreducible] def headB (c : UInt8) (s : ByteArray) : ByteArray := if hasB c s = true then s.extract 0 (ixB c s) else s
@[irreducible] def tailB (c : UInt8) (s : ByteArray) : ByteArray := if hasB c s = true then s.extract (ixB c s + 1) s.size else ⟨#[]⟩
theorem hasB_iff {c : UInt8} {s : ByteArray} : hasB c s = true ↔ ixB c s < s.size := by unfold hasB; exact decide_eq_true_iff
theorem index_ix (c : UInt8) (s : ByteArray) : Lib.indexByte s.data.toList c = if hasB c s = true then (ixB c s : Int) else -1 := by
  rw [index_at]
  unfold hasB ixB
  simp only [decide_eq_true_iff]
  rfl
set_option maxRecDepth 100000 in
theorem PIndex_c (c : UInt8) (s : ByteArray) (w : World) : Calls Tryz.prog 79 #[.string s, .string ⟨#[c]⟩] w fun e w' => e = .returned (.int .i64 (if hasB c s = true then (ixB c s : Int) else -1)) ∧ w' = w := by
  have hc : ((c.toNat : Int)).toNat.toUInt8 = c := by rw [Int.toNat_natCast]; exact UInt8.ofNat_toNat
  have K := Lib.hid (Tryz.stringslite_IndexByte s (c.toNat : Int))
  rw [hc, index_ix] at K
  clear hc
  by_cases hs : s = ⟨#[c]⟩
  · have h0 : ixB c s = 0 := by subst hs; unfold ixB; show atB c [c] = 0; rw [atB_cons, if_pos rfl]
    have h1 : hasB c s = true := hasB_iff.2 (by rw [h0, hs]; show 0 < 1; omega)
    have hq : ([c] == s.toList) = true := by rw [hs, ba_toList]; simp
    rw [if_pos h1, h0]
    clear K h0 h1 hs
    go_enter Tryz.func79, Tryz.ntmps79
    go_wp2_with fail
    go_ret
    exact ⟨rfl, rfl⟩
  · have hq : ([c] == s.toList) = false := by
      rw [ba_toList, beq_eq_false_iff_ne]
      intro h
      refine hs (ByteArray.ext (Array.ext' ?_))
      exact h.symm
    clear hs
    generalize (if hasB c s = true then (ixB c s : Int) else -1) = z at *
    go_enter Tryz.func79, Tryz.ntmps79
    go_wp2_with (first | (go_at_call 113; go_loud (refine (K.out _).mono ?_; rintro ee w1 ⟨rfl, rfl⟩)))
    go_ret
    exact ⟨rfl, rfl⟩
set_option maxRecDepth 100000 in
theorem PCut1_c (c : UInt8) (s : ByteArray) (w : World) (hz : s.size ≤ 9223372036854775807) : Calls Tryz.prog 45 #[.string s, .string ⟨#[c]⟩] w fun e w' => e = .returned (.tuple #[.string (headB c s), .string (tailB c s), .bool (hasB c s)]) ∧ Below w.heap.size w w' := by
  have K := Lib.hid (PIndex_c c s)
  by_cases h : hasB c s = true
  · have hi := hasB_iff.1 h
    have e1 : headB c s = s.extract 0 (ixB c s) := by unfold headB; rw [if_pos h]
    have e2 : tailB c s = s.extract (ixB c s + 1) s.size := by unfold tailB; rw [if_pos h]
    rw [if_pos h] at K
    rw [h, e1, e2]
    clear h e1 e2
    generalize ixB c s = i at *
    have r1 : ∀ w, (Instr.slice 9 (.string s) none (some (.int .i64 (i : Int))) none).run Tryz.prog w = .ok (.string (s.extract 0 i)) w := fun w => by
      have h := run_slice_string_h (P := Tryz.prog) w 9 s Tryz.underlying9 .i64 (i : Int) (by omega) (by omega)
      rwa [Int.toNat_natCast] at h
    have r2 : ∀ w, (Instr.slice 9 (.string s) (some (.int .i64 ((i : Int) + 1))) none none).run Tryz.prog w = .ok (.string (s.extract (i + 1) s.size)) w := fun w => by
      have h := run_slice_string_l (P := Tryz.prog) w 9 s Tryz.underlying9 .i64 ((i : Int) + 1) (by omega) (by omega)
      rwa [show ((i : Int) + 1).toNat = i + 1 by omega] at h
    go_enter Tryz.func45, Tryz.ntmps45
    go_upto_region 3 with (first | (go_at_call 79; (with_reducible refine (K.out _).mono ?_); rintro ee w1 ⟨rfl, rfl⟩))
    go_region
    go_wp2_with fail
    go_ret3
    exact ⟨rfl, (Below.refl _ _).drew⟩
  · have e1 : headB c s = s := by unfold headB; rw [if_neg h]
    have e2 : tailB c s = ⟨#[]⟩ := by unfold tailB; rw [if_neg h]
    rw [if_neg h] at K
    rw [Bool.eq_false_iff.2 h, e1, e2]
    clear h e1 e2
    go_enter Tryz.func45, Tryz.ntmps45
    go_wp2_with (first | (go_at_call 79; (with_reducible refine (K.out _).mono ?_); rintro ee w1 ⟨rfl, rfl⟩))
    go_ret3
    exact ⟨rfl, Below.refl _ _⟩
set_option maxRecDepth 100000 in
theorem PCut_c (c : UInt8) (s : ByteArray) (w : World) (hz : s.size ≤ 9223372036854775807) : Calls Tryz.prog 26 #[.string s, .string ⟨#[c]⟩] w fun e w' => e = .returned (.tuple #[.string (headB c s), .string (tailB c s), .bool (hasB c s)]) ∧ Below w.heap.size w w' := by
  have K := Lib.hid (fun w => PCut1_c c s w hz)
  generalize headB c s = a at *
  generalize tailB c s = b at *
  generalize hasB c s = z at *
  go_enter Tryz.func26, Tryz.ntmps26
  go_wp2_with (first | (go_at_call 45; (with_reducible refine (K.out _).mono ?_); rintro ee w1 ⟨rfl, hb⟩))
  go_ret3
  exact ⟨rfl, hb⟩
@[irreducible] def begB (c : UInt8) (s : ByteArray) : Bool := decide (∃ h : 0 < s.size, s[0] = c)
@[irreducible] def offB (c : UInt8) (s : ByteArray) : ByteArray := if begB c s = true then s.extract 1 s.size else s
theorem begB_iff {c : UInt8} {s : ByteArray} : begB c s = true ↔ ∃ h : 0 < s.size, s[0] = c := by unfold begB; exact decide_eq_true_iff
theorem has_pre (c : UInt8) (s : ByteArray) : Lib.hasPrefix s.data.toList [c] = begB c s := by
  obtain ⟨⟨l⟩⟩ := s
  cases l with
  | nil =>
    have h : begB c ⟨⟨[]⟩⟩ = false := Bool.eq_false_iff.2 fun k => by obtain ⟨h, _⟩ := begB_iff.1 k; exact absurd h (by decide)
    rw [h]; rfl
  | cons b l =>
    rw [Bool.eq_iff_iff, begB_iff]
    have e : Lib.hasPrefix (b :: l) [c] = (c == b) := by simp [Lib.hasPrefix, List.isPrefixOf]
    show Lib.hasPrefix (b :: l) [c] = true ↔ _
    rw [e, beq_iff_eq]
    exact ⟨fun h => ⟨Nat.succ_pos _, h.symm⟩, fun ⟨_, h⟩ => h.symm⟩
theorem trim_pre (c : UInt8) (s : ByteArray) : (⟨(Lib.trimPrefix s.data.toList [c]).toArray⟩ : ByteArray) = offB c s := by
  unfold Lib.trimPrefix offB
  rw [has_pre]
  by_cases h : begB c s = true
  · rw [if_pos h, if_pos h]
    apply ByteArray.ext
    apply Array.ext'
    rw [ByteArray.data_extract, Array.toList_extract]
    show s.data.toList.drop 1 = _
    rw [List.extract_eq_take_drop, List.take_of_length_le]
    rw [List.length_drop]
    exact Nat.le_refl _
  · rw [if_neg h, if_neg h]
theorem PCutPrefix_c (c : UInt8) (s : ByteArray) (w : World) : Calls Tryz.prog 25 #[.string s, .string ⟨#[c]⟩] w fun e w' => e = .returned (.tuple #[.string (offB c s), .bool (begB c s)]) ∧ Below w.heap.size w w' := by
  have h := Tryz.strings_CutPrefix s ⟨#[c]⟩ w
  rw [show (ByteArray.mk #[c]).data.toList = [c] from rfl, has_pre, trim_pre] at h
  exact h.mono fun e w' h => ⟨h.1, by rw [h.2]; exact Below.refl _ _⟩
section
variable [Env]
end
theorem dec_sz {n : Nat} (h : fits n) : (decS n).size ≤ 40000 := by
  rw [decS_size]
  unfold dlen
  split
  · omega
  · refine Nat.le_trans (nd_le (k := E39) (by omega) ?_) (by rw [E39_eq]; omega)
    have h1 := lt_nd (b := 256) (n := n) (by omega)
    have h2 : 256 ^ nd 256 n ≤ 256 ^ E16 := Nat.pow_le_pow_right (by omega) (by rw [E16_eq]; exact h)
    exact Nat.lt_of_lt_of_le h1 (Nat.le_trans h2 big_ten)
theorem PNText_c (n : Nat) (w : World) (hf : fits n) : Calls Tryz.prog 23 #[.string (natS n)] w fun e w' => e = .returned (.tuple #[.string (decS n), .int .i64 0]) ∧ Below w.heap.size w w' := NText_any n w hf
theorem rText_any (n : Nat) (w : World) (hf : fits n) : Calls Tryz.prog 34 #[.string (natS n)] w fun e w' => e = .returned (.string (decS n)) ∧ Below w.heap.size w w' := by
  by_cases h0 : n = 0
  · subst h0; exact rText_zero w
  · exact rText_c n w hf h0
open Classical in
@[irreducible] noncomputable def rtS (s : ByteArray) : ByteArray := if Valid s then resS (preV s s.size) else ⟨#[]⟩
open Classical in
@[irreducible] noncomputable def rtE (s : ByteArray) : Int := if Valid s then resE (preV s s.size) else 22
theorem PNRead_c (s : ByteArray) (w : World) (hs : s.size ≤ 9223372036854775807) : Calls Tryz.prog 27 #[.string s] w fun e w' => e = .returned (.tuple #[.string (rtS s), .int .i64 (rtE s)]) ∧ Below w.heap.size w w' := by
  unfold rtS rtE
  by_cases h : Valid s
  · rw [if_pos h, if_pos h]; exact NRead_c s w hs h
  · rw [if_neg h, if_neg h]; exact NRead_no s w hs h
theorem headB_size (c : UInt8) (s : ByteArray) : (headB c s).size ≤ s.size := by
  unfold headB; split
  · rw [ByteArray.size_extract]; omega
  · exact Nat.le_refl _
theorem tailB_size (c : UInt8) (s : ByteArray) : (tailB c s).size ≤ s.size := by
  unfold tailB; split
  · rw [ByteArray.size_extract]; omega
  · exact Nat.zero_le _
theorem offB_size (c : UInt8) (s : ByteArray) : (offB c s).size ≤ s.size := by
  unfold offB; split
  · rw [ByteArray.size_extract]; omega
  · exact Nat.le_refl _
theorem offB_t {c : UInt8} {s : ByteArray} (h : begB c s = true) : offB c s = s.extract 1 s.size := by unfold offB; rw [if_pos h]
theorem offB_f {c : UInt8} {s : ByteArray} (h : ¬ begB c s = true) : offB c s = s := by unfold offB; rw [if_neg h]
theorem beg_ways (c : UInt8) (s : ByteArray) : (¬ 0 < s.size ∧ begB c s = false) ∨ (0 < s.size ∧ begB c s = false ∧ ∀ h : 0 < s.size, ((s[0].toNat : Int) == (c.toNat : Int)) = false) ∨ (0 < s.size ∧ begB c s = true ∧ ∀ h : 0 < s.size, ((s[0].toNat : Int) == (c.toNat : Int)) = true) := by
  by_cases h : 0 < s.size
  · right
    by_cases k : s[0] = c
    · right
      exact ⟨h, begB_iff.2 ⟨h, k⟩, fun _ => by rw [k]; simp⟩
    · left
      refine ⟨h, Bool.eq_false_iff.2 (fun d => by obtain ⟨_, e⟩ := begB_iff.1 d; exact k e), fun _ => ?_⟩
      rw [beq_eq_false_iff_ne]
      intro e
      exact k (UInt8.toNat_inj.1 (by omega))
  · left
    exact ⟨h, Bool.eq_false_iff.2 (fun d => by obtain ⟨e, _⟩ := begB_iff.1 d; exact h e)⟩
theorem ba_eq {a b : ByteArray} (h : a.data.toList = b.data.toList) : a = b := ByteArray.ext (Array.ext' h)
theorem ba_app (a b : ByteArray) : (a ++ b).data.toList = a.data.toList ++ b.data.toList := by rw [ByteArray.data_append, Array.toList_append]
theorem ba_ext (s : ByteArray) (i j : Nat) : (s.extract i j).data.toList = (s.data.toList.drop i).take (j - i) := by rw [ByteArray.data_extract, Array.toList_extract, List.extract_eq_take_drop]
theorem ba_from (s : ByteArray) (i : Nat) : (s.extract i s.size).data.toList = s.data.toList.drop i := by
  rw [ba_ext, List.take_of_length_le]
  rw [List.length_drop]; exact Nat.le_refl _
theorem ba_upto (s : ByteArray) (i : Nat) : (s.extract 0 i).data.toList = s.data.toList.take i := by rw [ba_ext, List.drop_zero, Nat.sub_zero]
theorem ba_one (c : UInt8) : (ByteArray.mk #[c]).data.toList = [c] := rfl
theorem ba_get (s : ByteArray) (i : Nat) (h : i < s.size) : s.data.toList.drop i = s[i] :: s.data.toList.drop (i + 1) := List.drop_eq_getElem_cons (l := s.data.toList) h
theorem sign_split (c : UInt8) (s : ByteArray) : (begB c s = true → ⟨#[c]⟩ ++ offB c s = s) ∧ (¬ begB c s = true → offB c s = s) := by
  refine ⟨fun h => ?_, offB_f⟩
  obtain ⟨h0, h1⟩ := begB_iff.1 h
  rw [offB_t h]
  apply ba_eq
  rw [ba_app, ba_from, ba_one]
  have := ba_get s 0 h0
  rw [List.drop_zero, h1] at this
  exact this.symm
theorem cut_split (c : UInt8) (u : ByteArray) : (hasB c u = true → headB c u ++ (⟨#[c]⟩ ++ tailB c u) = u) ∧ (¬ hasB c u = true → headB c u = u) := by
  refine ⟨fun h => ?_, fun h => by unfold headB; rw [if_neg h]⟩
  have hi := hasB_iff.1 h
  have e := (ixB_get c u _ hi).2 rfl
  unfold headB tailB
  rw [if_pos h, if_pos h]
  apply ba_eq
  rw [ba_app, ba_app, ba_from, ba_upto, ba_one]
  have h2 := ba_get u _ hi
  rw [e] at h2
  show u.data.toList.take _ ++ (c :: u.data.toList.drop _) = _
  rw [← h2, List.take_append_drop]
theorem rt_ok {s : ByteArray} (h : rtE s = 0) : ∃ n, fits n ∧ rtS s = natS n ∧ decS n = s := by
  unfold rtE at h
  by_cases hv : Valid s
  · rw [if_pos hv] at h
    by_cases hf : fits (preV s s.size)
    · exact ⟨_, hf, by unfold rtS; rw [if_pos hv, resS_ok hf], dec_of_pre hv⟩
    · rw [resE_no hf] at h; exact absurd h (by decide)
  · rw [if_neg hv] at h; exact absurd h (by decide)
theorem rtS_size (s : ByteArray) : (rtS s).size ≤ s.size := by
  unfold rtS
  split
  · rename_i hv
    by_cases hf : fits (preV s s.size)
    · rw [resS_ok hf, natS_size]
      refine nd_le (by omega) (Nat.lt_of_lt_of_le (dig_pre hv.2.1 s.size (Nat.le_refl _)) (Nat.pow_le_pow_left (by omega) _))
    · rw [resS_no hf]; exact Nat.zero_le _
  · exact Nat.zero_le _
theorem rRead2_c (s : ByteArray) (w : World) (hs : s.size ≤ 9223372036854775807) : Calls Tryz.prog 29 #[.string s] w fun e w' => e = .returned (.tuple #[.string (rtS s), .int .i64 (rtE s)]) ∧ Below w.heap.size w w' := by
  unfold rtS rtE
  by_cases hv : Valid s
  · rw [if_pos hv, if_pos hv]
    exact rRead_ok s w hs hv (fun hl => long_dec hv.2.1 hv.1 (fun c => hv.2.2 ⟨by omega, fun _ => c⟩) hl)
  · rw [if_neg hv, if_neg hv]
    by_cases h0 : s.size = 0
    · exact rRead_empty s w h0
    · have hp : 0 < s.size := by omega
      by_cases hn : 1 < s.size ∧ ∀ h : 0 < s.size, s[0].toNat = 48
      · exact rRead_nought s w hn.1 (hn.2 hp) hs
      · exact rRead_bad s w hs hp hn (fun hd => hv ⟨hp, hd, hn⟩)
theorem tl_eq {x s : ByteArray} : (x.toList == s.toList) = true ↔ x = s := by
  rw [beq_iff_eq, ba_toList, ba_toList]
  exact ⟨ba_eq, fun h => by rw [h]⟩
theorem tl_ne {x s : ByteArray} (h : ¬ x = s) : (x.toList == s.toList) = false := Bool.eq_false_iff.2 (fun c => h (tl_eq.1 c))
theorem sign_way (s : ByteArray) : (¬ 0 < s.size ∧ begB 45 s = false ∧ offB 45 s = s) ∨ (0 < s.size ∧ begB 45 s = false ∧ offB 45 s = s ∧ ∀ h : 0 < s.size, ((s[0].toNat : Int) == 45) = false) ∨ (0 < s.size ∧ begB 45 s = true ∧ (∀ w, (Instr.slice 9 (.string s) (some (.int .i64 1)) none none).run Tryz.prog w = .ok (.string (offB 45 s)) w) ∧ ∀ h : 0 < s.size, ((s[0].toNat : Int) == 45) = true) := by
  rcases beg_ways 45 s with ⟨a, b⟩ | ⟨a, b, c⟩ | ⟨a, b, c⟩
  · exact Or.inl ⟨a, b, offB_f (by rw [b]; exact Bool.false_ne_true)⟩
  · exact Or.inr (Or.inl ⟨a, b, offB_f (by rw [b]; exact Bool.false_ne_true), c⟩)
  · refine Or.inr (Or.inr ⟨a, b, fun w => ?_, c⟩)
    rw [offB_t b]
    exact run_slice_string_l (P := Tryz.prog) w 9 s Tryz.underlying9 .i64 1 (by omega) (by omega)
theorem begB_own (c : UInt8) (u : ByteArray) : begB c (⟨#[c]⟩ ++ u) = true ∧ offB c (⟨#[c]⟩ ++ u) = u := by
  have hs : (ByteArray.mk #[c]).size = 1 := rfl
  have hb : begB c (⟨#[c]⟩ ++ u) = true := by
    refine begB_iff.2 ⟨by rw [ByteArray.size_append]; omega, ?_⟩
    rw [ByteArray.getElem_append_left (by rw [hs]; decide)]
    rfl
  refine ⟨hb, ?_⟩
  rw [offB_t hb]
  apply ba_eq
  rw [ba_from, ba_app, ba_one]
  rfl
def NoB (c : UInt8) (u : ByteArray) : Prop := ∀ k (h : k < u.size), u[k] ≠ c
theorem begB_no {c : UInt8} {u : ByteArray} (h : ∀ h0 : 0 < u.size, u[0] ≠ c) : begB c u = false ∧ offB c u = u := by
  have hb : begB c u = false := Bool.eq_false_iff.2 (fun k => by
    obtain ⟨a, b⟩ := begB_iff.1 k
    exact h a b)
  exact ⟨hb, offB_f (by rw [hb]; exact Bool.false_ne_true)⟩
theorem ixB_eq {c : UInt8} {s : ByteArray} {n : Nat} (hn : n ≤ s.size) (h1 : ∀ k (h : k < s.size), k < n → s[k] ≠ c) (h2 : ∀ h : n < s.size, s[n] = c) : ixB c s = n := by
  have hl := ixB_le c s
  rcases Nat.lt_trichotomy (ixB c s) n with h | h | h
  · have := (ixB_get c s (ixB c s) (by omega)).2 rfl
    exact absurd this (h1 _ (by omega) h)
  · exact h
  · exact absurd (h2 (by omega)) ((ixB_get c s n (by omega)).1 h)
theorem hasB_mid {c : UInt8} {u v : ByteArray} (h : NoB c u) : hasB c (u ++ (⟨#[c]⟩ ++ v)) = true ∧ headB c (u ++ (⟨#[c]⟩ ++ v)) = u ∧ tailB c (u ++ (⟨#[c]⟩ ++ v)) = v := by
  have h1 : (ByteArray.mk #[c]).size = 1 := rfl
  have hs : (u ++ (⟨#[c]⟩ ++ v)).size = u.size + (1 + v.size) := by rw [ByteArray.size_append, ByteArray.size_append, h1]
  have e : ixB c (u ++ (⟨#[c]⟩ ++ v)) = u.size := ixB_eq (by omega) (fun k hk hku => by rw [ByteArray.getElem_append_left hku]; exact h k hku) (fun hh => by
    rw [ByteArray.getElem_append_right (Nat.le_refl _), ByteArray.getElem_append_left (by rw [h1]; omega)]
    have this : ∀ i (hi : i = 0) (h : i < (ByteArray.mk #[c]).size), (ByteArray.mk #[c])[i] = c := by
      intro i hi h
      subst hi
      rfl
    exact this _ (by omega) _)
  have hb : hasB c (u ++ (⟨#[c]⟩ ++ v)) = true := hasB_iff.2 (by rw [e, hs]; omega)
  have hl : u.data.toList.length = u.size := rfl
  refine ⟨hb, ?_, ?_⟩
  · unfold headB
    rw [if_pos hb, e]
    apply ba_eq
    rw [ba_upto, ba_app, List.take_append_of_le_length (by rw [hl]; exact Nat.le_refl _), List.take_of_length_le (by rw [hl]; exact Nat.le_refl _)]
  · unfold tailB
    rw [if_pos hb, e]
    apply ba_eq
    rw [ba_from, ba_app, ba_app, ba_one, List.drop_append, hl, List.drop_of_length_le (by rw [hl]; omega), show u.size + 1 - u.size = 1 by omega]
    rfl
theorem dig_no {c : UInt8} {u : ByteArray} (h : Digits u) (hc : c.toNat < 48 ∨ 57 < c.toNat) : NoB c u := fun k hk e => by
  have := h k hk
  unfold isDig at this
  rw [e] at this
  omega
theorem rt_dec (n : Nat) (hf : fits n) : rtS (decS n) = natS n ∧ rtE (decS n) = 0 := by
  obtain ⟨hv, hp⟩ := pre_of_dec n
  unfold rtS rtE
  rw [if_pos hv, if_pos hv, hp, resS_ok hf, resE_ok hf]
  exact ⟨rfl, rfl⟩
theorem dec_first (n : Nat) (v : ByteArray) (c : UInt8) (hc : c.toNat < 48 ∨ 57 < c.toNat) : ∀ h0 : 0 < (decS n ++ v).size, (decS n ++ v)[0] ≠ c := fun h0 => by
  have hv := (pre_of_dec n).1
  rw [ByteArray.getElem_append_left hv.1]
  exact dig_no hv.2.1 hc 0 hv.1
end Go.Proofs.YtdfnejpfpkaplaaGreatDoor
namespace Go.Proofs.YtdfnejpfpkaplaaGreatDoor
open Go Go.RowKit Nt
def isInt (t : ByteArray) : Prop := Valid (offB 45 t) ∧ (begB 45 t = true → preV (offB 45 t) (offB 45 t).size ≠ 0)
noncomputable def intV (t : ByteArray) : Int := if begB 45 t = true then -(preV (offB 45 t) (offB 45 t).size : Int) else (preV (offB 45 t) (offB 45 t).size : Int)
theorem iS_beg (x : Int) : begB 45 (iS x) = decide (x < 0) ∧ offB 45 (iS x) = decS x.natAbs := by
  by_cases h : x < 0
  · rw [iS_neg h, decide_eq_true h]
    exact begB_own 45 _
  · rw [iS_pos (by omega), decide_eq_false h]
    have hv := (pre_of_dec x.natAbs).1
    exact begB_no (fun h0 => dig_no hv.2.1 (by decide) 0 h0)
theorem int_iS (x : Int) : isInt (iS x) ∧ intV (iS x) = x := by
  obtain ⟨b1, b2⟩ := iS_beg x
  obtain ⟨p1, p2⟩ := pre_of_dec x.natAbs
  unfold isInt intV
  rw [b1, b2, p2]
  refine ⟨⟨p1, fun h => ?_⟩, ?_⟩
  · have := of_decide_eq_true h; omega
  · by_cases h : x < 0
    · rw [if_pos (decide_eq_true h)]; omega
    · rw [if_neg (by rw [decide_eq_false h]; exact Bool.false_ne_true)]; omega
theorem iS_int {t : ByteArray} (h : isInt t) : iS (intV t) = t := by
  obtain ⟨h1, h2⟩ := h
  have hd := dec_of_pre h1
  unfold intV
  cases hb : begB 45 t with
  | true =>
    have hn := h2 hb
    rw [if_pos rfl, iS_neg (by omega), Int.natAbs_neg, Int.natAbs_natCast, hd]
    exact (sign_split 45 t).1 hb
  | false =>
    rw [if_neg Bool.false_ne_true, iS_pos (by omega), Int.natAbs_natCast, hd]
    exact (sign_split 45 t).2 (by rw [hb]; exact Bool.false_ne_true)
theorem iS_size (x : Int) (h1 : -9223372036854775808 ≤ x) (h2 : x ≤ 9223372036854775807) : (iS x).size ≤ 21 := by
  have hd : (decS x.natAbs).size ≤ 20 := by
    rw [decS_size]
    unfold dlen
    split
    · omega
    · refine nd_le (by omega) ?_
      have : (10 : Nat) ^ 20 = 100000000000000000000 := by decide
      omega
  have h45 : (ByteArray.mk #[45]).size = 1 := rfl
  by_cases h : x < 0
  · rw [iS_neg h, ByteArray.size_append]; omega
  · rw [iS_pos (by omega)]; omega
end Go.Proofs.YtdfnejpfpkaplaaGreatDoor
namespace Go.Proofs.YtdfnejpfpkaplaaGreatDoor
open Go Go.RowKit Nt
@[irreducible] def txD (g : Bool) (n : Nat) (x : Int) : ByteArray := (if g = true then ⟨#[45]⟩ ++ decS n else decS n) ++ (⟨#[112]⟩ ++ iS x)
theorem txD_t {g : Bool} (h : g = true) (n : Nat) (x : Int) : txD g n x = (⟨#[45]⟩ ++ decS n) ++ (⟨#[112]⟩ ++ iS x) := by unfold txD; rw [if_pos h]
theorem txD_f {g : Bool} (h : ¬ g = true) (n : Nat) (x : Int) : txD g n x = decS n ++ (⟨#[112]⟩ ++ iS x) := by unfold txD; rw [if_neg h]
@[irreducible] def ryA (s : ByteArray) : ByteArray := headB 112 (offB 45 s)
@[irreducible] def ryB (s : ByteArray) : ByteArray := tailB 112 (offB 45 s)
def ryOk (s : ByteArray) : Prop := rtE (ryA s) = 0 ∧ isInt (ryB s) ∧ DOk (begB 45 s) (rtS (ryA s)) (intV (ryB s)) ∧ rtS (ryA s) ≠ ⟨#[]⟩
theorem txD_parts (g : Bool) (n : Nat) (x : Int) : begB 45 (txD g n x) = g ∧ ryA (txD g n x) = decS n ∧ ryB (txD g n x) = iS x := by
  have hv := (pre_of_dec n).1
  obtain ⟨e1, e2, e3⟩ := hasB_mid (c := 112) (v := iS x) (dig_no hv.2.1 (c := 112) (by decide))
  unfold ryA ryB
  by_cases hg : g = true
  · obtain ⟨b1, b2⟩ := begB_own 45 (decS n ++ (⟨#[112]⟩ ++ iS x))
    rw [txD_t hg, ByteArray.append_assoc, b1, b2, e2, e3, hg]
    exact ⟨rfl, rfl, rfl⟩
  · have hg' : g = false := by cases g with
      | false => rfl
      | true => exact absurd rfl hg
    obtain ⟨b1, b2⟩ := begB_no (dec_first n (⟨#[112]⟩ ++ iS x) 45 (by decide))
    rw [txD_f hg, b1, b2, e2, e3, hg']
    exact ⟨rfl, rfl, rfl⟩
theorem ry_txD (g : Bool) (n : Nat) (x : Int) (hf : fits n) (h : DOk g (natS n) x) (hn : n ≠ 0) : ryOk (txD g n x) ∧ begB 45 (txD g n x) = g ∧ rtS (ryA (txD g n x)) = natS n ∧ intV (ryB (txD g n x)) = x := by
  obtain ⟨p1, p2, p3⟩ := txD_parts g n x
  obtain ⟨r1, r2⟩ := rt_dec n hf
  obtain ⟨i1, i2⟩ := int_iS x
  unfold ryOk
  rw [p1, p2, p3, r1, r2, i2]
  refine ⟨⟨rfl, i1, h, fun c => hn ?_⟩, rfl, rfl, rfl⟩
  have := congrArg bytesN c
  rwa [bytesN_natS] at this
theorem txD_ry {s : ByteArray} (h : ryOk s) : ∃ n, fits n ∧ n ≠ 0 ∧ rtS (ryA s) = natS n ∧ txD (begB 45 s) n (intV (ryB s)) = s := by
  obtain ⟨h1, h2, h3, h4⟩ := h
  obtain ⟨n, hf, e1, e2⟩ := rt_ok h1
  have hi := iS_int h2
  have hh : hasB 112 (offB 45 s) = true := by
    cases hb : hasB 112 (offB 45 s) with
    | true => rfl
    | false =>
      have e : ryB s = ⟨#[]⟩ := by unfold ryB tailB; rw [if_neg (by rw [hb]; exact Bool.false_ne_true)]
      rw [e] at h2
      have hv := h2.1.1
      have ho : (offB 45 (ByteArray.mk #[])).size ≤ 0 := offB_size 45 _
      omega
  have hc := (cut_split 112 (offB 45 s)).1 hh
  have eA : ryA s = headB 112 (offB 45 s) := by unfold ryA; rfl
  have eB : ryB s = tailB 112 (offB 45 s) := by unfold ryB; rfl
  rw [← eA, ← eB, ← e2, ← hi] at hc
  refine ⟨n, hf, fun c => h4 (by rw [e1, c, natS_zero]), e1, ?_⟩
  cases hb : begB 45 s with
  | true =>
    rw [txD_t rfl, ByteArray.append_assoc, hc]
    exact (sign_split 45 s).1 hb
  | false =>
    rw [txD_f Bool.false_ne_true, hc]
    exact (sign_split 45 s).2 (by rw [hb]; exact Bool.false_ne_true)
theorem txD_ne_zero (g : Bool) (n : Nat) (x : Int) : txD g n x ≠ ⟨#[48]⟩ := fun h => by
  have h1 := congrArg ByteArray.size h
  have e : (ByteArray.mk #[48]).size = 1 := rfl
  have e2 : (ByteArray.mk #[112]).size = 1 := rfl
  have e3 : (ByteArray.mk #[45]).size = 1 := rfl
  have hv := (pre_of_dec n).1.1
  by_cases hg : g = true
  · rw [txD_t hg, ByteArray.size_append, ByteArray.size_append, ByteArray.size_append] at h1; omega
  · rw [txD_f hg, ByteArray.size_append, ByteArray.size_append] at h1; omega
end Go.Proofs.YtdfnejpfpkaplaaGreatDoor
namespace Go.Proofs.YtdfnejpfpkaplaaGreatDoor
open Go Go.RowKit Nt Go.Sort
theorem gPow10 : Tryz.prog.globalNamed "internal/strconv.uint64pow10" = some 5 := by kernel_rfl
theorem gErrS : Tryz.prog.globalNamed "strconv.ErrSyntax" = some 3 := by kernel_rfl
theorem gErrR : Tryz.prog.globalNamed "strconv.ErrRange" = some 4 := by kernel_rfl
def TabT (w : World) : Prop := Globs glT w ∧ (Lib.TabIs Tryz.prog w "internal/strconv.uint64pow10" .u64 Lib.pow10Tab ∧ 5 < w.heap.size) ∧
  ((∃ te pe, w.var? Tryz.prog "strconv.ErrSyntax" = some #[.iface te pe]) ∧ 3 < w.heap.size) ∧ ((∃ te pe, w.var? Tryz.prog "strconv.ErrRange" = some #[.iface te pe]) ∧ 4 < w.heap.size)
theorem TabT.below {w w' : World} (h : TabT w) (hb : Below w.heap.size w w') : TabT w' := by
  obtain ⟨h1, ⟨h2, h3⟩, ⟨⟨te, pe, h4⟩, h5⟩, ⟨tr, pr, h6⟩, h7⟩ := h
  exact ⟨h1.below hb (Nat.le_refl _), ⟨var?_below hb gPow10 h3 h2, Nat.lt_of_lt_of_le h3 hb.size⟩, ⟨⟨te, pe, var?_below hb gErrS h5 h4⟩, Nat.lt_of_lt_of_le h5 hb.size⟩, ⟨tr, pr, var?_below hb gErrR h7 h6⟩, Nat.lt_of_lt_of_le h7 hb.size⟩
theorem below_bytesI {w w' : World} {s : ByteArray} (h : w' = w ∨ w' = Lib.bytesWorld w 5 s) : Below w.heap.size w w' := by
  rcases h with rfl | rfl
  · exact Below.refl _ _
  · exact Lib.bytesWorld_below _ _ _
theorem below_grow (w : World) (k : Nat) (os : Array Obj) : Below w.heap.size w (grow (w.drewN k) os) :=
  ⟨rfl, rfl, rfl, by simp [grow], fun j hj => by simp [grow]; rw [Array.getElem?_append_left hj]⟩
theorem PItoa_c (x : Int) (h0 : -9223372036854775808 ≤ x) (h1 : x ≤ 9223372036854775807) (w : World) (hT : TabT w) : Calls Tryz.prog 24 #[.int .i64 x] w fun e w' => e = .returned (.string (iS x)) ∧ Below w.heap.size w w' := by
  refine (Tryz.strconv_Itoa x h0 h1 w hT.2.1.1).mono ?_
  rintro e w' ⟨rfl, k, os, rfl⟩
  exact ⟨by rw [iS_def], below_grow _ _ _⟩
end Go.Proofs.YtdfnejpfpkaplaaGreatDoor
namespace Go.Proofs.YtdfnejpfpkaplaaGreatDoor
open Go Go.RowKit Nt
end Go.Proofs.YtdfnejpfpkaplaaGreatDoor
namespace Go.Proofs.YtdfnejpfpkaplaaGreatDoor
open Go Go.RowKit Nt
set_option maxRecDepth 100000 in
set_option maxHeartbeats 2000000 in
theorem DShow_bad (a : Dt) (w : World) (ha : a.s.size ≤ 9223372036854775807) (hn : ¬ a.Ok) :
    Calls Tryz.prog 7 #[.agg #[.bool a.g, .string a.s, .int .i64 a.x]] w fun e w' => e = .returned (.tuple #[.string ⟨#[]⟩, .int .i64 2]) ∧ Below w.heap.size w w' := by
  have K := Lib.hid (fun w => DCheck_c a w ha)
  rw [dE_no (List.mem_singleton.2 rfl) hn] at K
  have T0 := OB.start w a
  clear hn ha
  obtain ⟨r0, r1, r2, r3, r4, r5, r6⟩ := T0.2.facts
  go_enter Tryz.func7, Tryz.ntmps7
  go_wp2_with (first | (go_at_call 13; (with_reducible refine (K.out _).mono ?_); rintro ee w1 ⟨rfl, hb⟩; replace T0 := T0.step hb; clear hb r0 r1 r2 r3 r4 r5 r6; obtain ⟨r0, r1, r2, r3, r4, r5, r6⟩ := T0.2.facts))
  go_ret2
  exact ⟨rfl, T0.1⟩
set_option maxRecDepth 100000 in
set_option maxHeartbeats 2000000 in
theorem DShow_zero (w : World) :
    Calls Tryz.prog 7 #[.agg #[.bool false, .string ⟨#[]⟩, .int .i64 0]] w fun e w' => e = .returned (.tuple #[.string ⟨#[48]⟩, .int .i64 0]) ∧ Below w.heap.size w w' := by
  have K := Lib.hid (fun w => DCheck_zero w)
  have T0 := OB.start w ⟨false, ⟨#[]⟩, 0⟩
  obtain ⟨r0, r1, r2, r3, r4, r5, r6⟩ := T0.2.facts
  go_enter Tryz.func7, Tryz.ntmps7
  go_wp2_with (first | (go_at_call 13; (with_reducible refine (K.out _).mono ?_); rintro ee w1 ⟨rfl, hb⟩; replace T0 := T0.step hb; clear hb r0 r1 r2 r3 r4 r5 r6; obtain ⟨r0, r1, r2, r3, r4, r5, r6⟩ := T0.2.facts))
  go_ret2
  exact ⟨rfl, T0.1⟩
@[irreducible] noncomputable def shT (a : Dt) : ByteArray := if a.s = ⟨#[]⟩ then ⟨#[48]⟩ else txD a.g (bytesN a.s) a.x
theorem shT_zero : shT ⟨false, ⟨#[]⟩, 0⟩ = ⟨#[48]⟩ := by unfold shT; rw [if_pos rfl]
theorem natS_ne {n : Nat} (h : n ≠ 0) : natS n ≠ ⟨#[]⟩ := fun c => h (by
  have := congrArg bytesN c
  rwa [bytesN_natS] at this)
theorem shT_num {g : Bool} {n : Nat} {x : Int} (h : n ≠ 0) : shT ⟨g, natS n, x⟩ = txD g n x := by
  unfold shT
  rw [if_neg (natS_ne h)]
  simp only [bytesN_natS]
set_option maxRecDepth 100000 in
set_option maxHeartbeats 2000000 in
theorem DShow_num (g : Bool) (n : Nat) (x : Int) (w : World) (hf : fits n) (ho : n % 2 = 1) (h1 : -1048576 ≤ x) (h2 : x ≤ 1048576) (hT : TabT w) :
    Calls Tryz.prog 7 #[.agg #[.bool g, .string (natS n), .int .i64 x]] w fun e w' => e = .returned (.tuple #[.string (txD g n x), .int .i64 0]) ∧ Below w.heap.size w w' := by
  have K := Lib.hid (fun w => DCheck_c ⟨g, natS n, x⟩ w (by have := natS_size n; have : nd 256 n ≤ 16384 := hf; show (natS n).size ≤ _; omega))
  rw [dE_ok (l := [⟨g, natS n, x⟩]) (fun t ht => by rw [List.mem_singleton.1 ht]; exact Or.inr ⟨n, hf, ho, rfl, h1, h2⟩)] at K
  have KN := Lib.hid (fun w => PNText_c n w hf)
  have KI := Lib.hid (fun w hT => PItoa_c x (by omega) (by omega) w hT)
  have T0 := OB.start w ⟨g, natS n, x⟩
  obtain ⟨r0, r1, r2, r3, r4, r5, r6⟩ := T0.2.facts
  have hE := natS_full (odd_ne ho)
  have hE2 := natS_full2 (odd_ne ho)
  have HT := Lib.hid hT
  clear hT
  have s1 := dec_sz hf
  have s2 := iS_size x (by omega) (by omega)
  have e45 : (ByteArray.mk #[45]).size = 1 := rfl
  have e112 : (ByteArray.mk #[112]).size = 1 := rfl
  have s3 : (⟨#[45]⟩ ++ decS n).size ≤ 40001 := by rw [ByteArray.size_append]; omega
  have s4 : (decS n ++ ⟨#[112]⟩).size ≤ 40001 := by rw [ByteArray.size_append]; omega
  have s5 : (⟨#[45]⟩ ++ decS n ++ ⟨#[112]⟩).size ≤ 40002 := by rw [ByteArray.size_append, ByteArray.size_append]; omega
  have S1 := Lib.hid s1
  clear ho hf
  by_cases hg : g = true
  · subst hg
    rw [txD_t rfl, ← ByteArray.append_assoc]
    generalize natS n = N at *
    generalize decS n = D at *
    generalize iS x = X at *
    go_enter Tryz.func7, Tryz.ntmps7
    go_wp2_with (first | (go_at_call 13; (with_reducible refine (K.out _).mono ?_); rintro ee w1 ⟨rfl, hb⟩; replace T0 := T0.step hb; clear hb r0 r1 r2 r3 r4 r5 r6; obtain ⟨r0, r1, r2, r3, r4, r5, r6⟩ := T0.2.facts) | (go_at_call 23; (with_reducible refine (KN.out _).mono ?_); rintro ee w1 ⟨rfl, hb⟩; replace T0 := T0.step hb; clear hb r0 r1 r2 r3 r4 r5 r6; obtain ⟨r0, r1, r2, r3, r4, r5, r6⟩ := T0.2.facts) | (go_at_call 24; (refine (KI.out _ (HT.out.below T0.1)).mono ?_); rintro ee w1 ⟨rfl, hb⟩; replace T0 := T0.step hb; clear hb r0 r1 r2 r3 r4 r5 r6; obtain ⟨r0, r1, r2, r3, r4, r5, r6⟩ := T0.2.facts))
    go_ret2
    exact ⟨rfl, T0.1⟩
  · have hg' : g = false := Bool.eq_false_iff.2 hg
    subst hg'
    rw [txD_f Bool.false_ne_true, ← ByteArray.append_assoc]
    generalize natS n = N at *
    generalize decS n = D at *
    generalize iS x = X at *
    go_enter Tryz.func7, Tryz.ntmps7
    go_wp2_with (first | (go_at_call 13; (with_reducible refine (K.out _).mono ?_); rintro ee w1 ⟨rfl, hb⟩; replace T0 := T0.step hb; clear hb r0 r1 r2 r3 r4 r5 r6; obtain ⟨r0, r1, r2, r3, r4, r5, r6⟩ := T0.2.facts) | (go_at_call 23; (with_reducible refine (KN.out _).mono ?_); rintro ee w1 ⟨rfl, hb⟩; replace T0 := T0.step hb; clear hb r0 r1 r2 r3 r4 r5 r6; obtain ⟨r0, r1, r2, r3, r4, r5, r6⟩ := T0.2.facts) | (go_at_call 24; (refine (KI.out _ (HT.out.below T0.1)).mono ?_); rintro ee w1 ⟨rfl, hb⟩; replace T0 := T0.step hb; clear hb r0 r1 r2 r3 r4 r5 r6; obtain ⟨r0, r1, r2, r3, r4, r5, r6⟩ := T0.2.facts))
    go_ret2
    exact ⟨rfl, T0.1⟩
theorem DShow_ok (a : Dt) (w : World) (ha : a.Ok) (hT : TabT w) :
    Calls Tryz.prog 7 #[.agg #[.bool a.g, .string a.s, .int .i64 a.x]] w fun e w' => e = .returned (.tuple #[.string (shT a), .int .i64 0]) ∧ Below w.heap.size w w' := by
  obtain ⟨g, s, x⟩ := a
  rcases ha with ⟨rfl, rfl, rfl⟩ | ⟨n, hf, ho, rfl, h1, h2⟩
  · rw [shT_zero]; exact DShow_zero w
  · rw [shT_num (odd_ne ho)]; exact DShow_num g n x w hf ho h1 h2 hT
end Go.Proofs.YtdfnejpfpkaplaaGreatDoor
namespace Go.Proofs.YtdfnejpfpkaplaaGreatDoor
open Go Go.RowKit Nt
set_option maxRecDepth 100000 in
set_option maxHeartbeats 2000000 in
theorem DRead_zero (w : World) :
    Calls Tryz.prog 8 #[.string ⟨#[48]⟩] w fun e w' => e = .returned (.tuple #[.agg #[.bool false, .string ⟨#[]⟩, .int .i64 0], .int .i64 0]) ∧ Below w.heap.size w w' := by
  have T0 := OB.start w ⟨false, ⟨#[]⟩, 0⟩
  obtain ⟨r0, r1, r2, r3, r4, r5, r6⟩ := T0.2.facts
  go_enter Tryz.func8, Tryz.ntmps8
  go_wp2_with fail
  refine bodyPost_ret (v := .tuple #[.agg #[.bool false, .string ⟨#[]⟩, .int .i64 0], .int .i64 0]) (by simp [results, Tryz.results8, go_sem, r0, r1, r2, r3]) rfl ⟨rfl, T0.1⟩
theorem list48 : (ByteArray.mk #[48]).toList = [48] := by rw [ba_toList]
theorem str_ne48 {x : ByteArray} (h : ¬ x = ⟨#[48]⟩) : (x.toList == [48]) = false ∧ ¬ x.toList = [48] := by
  rw [← list48]; exact ⟨tl_ne h, fun c => h (tl_eq.1 (beq_iff_eq.2 c))⟩
theorem str_ne0 {x : ByteArray} (h : ¬ x = ⟨#[]⟩) : x.toList.isEmpty = false ∧ ¬ x.toList = [] := by
  have hp : 0 < x.size := Nat.pos_of_ne_zero fun c => h (ba_nil c)
  exact ⟨dFull2 hp, dFull hp⟩
theorem str_ne {x y : ByteArray} (h : ¬ x = y) : (x.toList == y.toList) = false ∧ ¬ x.toList = y.toList := ⟨tl_ne h, fun c => h (tl_eq.1 (beq_iff_eq.2 c))⟩
set_option maxRecDepth 100000 in
set_option maxHeartbeats 4000000 in
theorem DRead_n1 (s u A B n : ByteArray) (g has : Bool) (e : Int) (w : World) (hT : TabT w) (hs : ¬ s = ⟨#[48]⟩)
    (KP : ∀ w, Calls Tryz.prog 25 #[.string s, .string ⟨#[45]⟩] w fun e w' => e = .returned (.tuple #[.string u, .bool g]) ∧ Below w.heap.size w w')
    (KC : ∀ w, Calls Tryz.prog 26 #[.string u, .string ⟨#[112]⟩] w fun e w' => e = .returned (.tuple #[.string A, .string B, .bool has]) ∧ Below w.heap.size w w')
    (KN : ∀ w, Calls Tryz.prog 27 #[.string A] w fun r w' => r = .returned (.tuple #[.string n, .int .i64 e]) ∧ Below w.heap.size w w')
    (KA : ∀ w, TabT w → Calls Tryz.prog 28 #[.string B] w fun e w' => (∃ x er, e = .returned (.tuple #[.int .i64 x, er])) ∧ Below w.heap.size w w')
    (hc : ¬ e = 0) :
    Calls Tryz.prog 8 #[.string s] w fun e w' => e = .returned (.tuple #[.agg #[.bool false, .string ⟨#[]⟩, .int .i64 0], .int .i64 30]) ∧ Below w.heap.size w w' := by
  have K1 := Lib.hid KP
  have K2 := Lib.hid KC
  have K3 := Lib.hid KN
  have K4 := Lib.hid KA
  have HT := Lib.hid hT
  obtain ⟨z1, z2⟩ := str_ne48 hs
  clear KP KC KN KA hT hs
  have q1 : (e == 0) = false := beq_eq_false_iff_ne.2 hc
  have q2 : (e != 0) = true := by rw [bne, q1]; rfl
  have T0 := OB.start w ⟨false, ⟨#[]⟩, 0⟩
  obtain ⟨r0, r1, r2, r3, r4, r5, r6⟩ := T0.2.facts
  go_enter Tryz.func8, Tryz.ntmps8
  go_wp2_with (first | (go_at_call 25; (with_reducible refine (K1.out _).mono ?_); rintro ee w1 ⟨rfl, hb⟩; replace T0 := T0.step hb; clear hb r0 r1 r2 r3 r4 r5 r6; obtain ⟨r0, r1, r2, r3, r4, r5, r6⟩ := T0.2.facts) | (go_at_call 26; (with_reducible refine (K2.out _).mono ?_); rintro ee w1 ⟨rfl, hb⟩; replace T0 := T0.step hb; clear hb r0 r1 r2 r3 r4 r5 r6; obtain ⟨r0, r1, r2, r3, r4, r5, r6⟩ := T0.2.facts) | (go_at_call 27; (with_reducible refine (K3.out _).mono ?_); rintro ee w1 ⟨rfl, hb⟩; replace T0 := T0.step hb; clear hb r0 r1 r2 r3 r4 r5 r6; obtain ⟨r0, r1, r2, r3, r4, r5, r6⟩ := T0.2.facts) | (go_at_call 28; (refine (K4.out _ (HT.out.below T0.1)).mono ?_); rintro ee w1 ⟨⟨x2, er, rfl⟩, hb⟩; replace T0 := T0.step hb; clear hb r0 r1 r2 r3 r4 r5 r6; obtain ⟨r0, r1, r2, r3, r4, r5, r6⟩ := T0.2.facts))
  have T1 := T0.more (.cells #[.bool g, .string n, .int .i64 x2] 24)
  obtain ⟨y0, y1, y2, y3, y4, y5, y6⟩ := T1.2.facts
  refine bodyPost_ret (v := .tuple #[.agg #[.bool false, .string ⟨#[]⟩, .int .i64 0], .int .i64 30]) (by simp [results, Tryz.results8, go_sem, r0, r1, r2, r3, y0, y1, y2, y3]) rfl ⟨rfl, ?_⟩
  exact Below.alloc (below_put T0.1 (Nat.le_refl _) _ _ _) (by simpa using T0.1.size) _
set_option maxRecDepth 100000 in
set_option maxHeartbeats 4000000 in
theorem DRead_n2 (s u A B n : ByteArray) (g has : Bool) (e : Int) (w : World) (hT : TabT w) (hs : ¬ s = ⟨#[48]⟩)
    (KP : ∀ w, Calls Tryz.prog 25 #[.string s, .string ⟨#[45]⟩] w fun e w' => e = .returned (.tuple #[.string u, .bool g]) ∧ Below w.heap.size w w')
    (KC : ∀ w, Calls Tryz.prog 26 #[.string u, .string ⟨#[112]⟩] w fun e w' => e = .returned (.tuple #[.string A, .string B, .bool has]) ∧ Below w.heap.size w w')
    (KN : ∀ w, Calls Tryz.prog 27 #[.string A] w fun r w' => r = .returned (.tuple #[.string ⟨#[]⟩, .int .i64 0]) ∧ Below w.heap.size w w')
    (KA : ∀ w, TabT w → Calls Tryz.prog 28 #[.string B] w fun e w' => (∃ x er, e = .returned (.tuple #[.int .i64 x, er])) ∧ Below w.heap.size w w')
    (hc : True) :
    Calls Tryz.prog 8 #[.string s] w fun e w' => e = .returned (.tuple #[.agg #[.bool false, .string ⟨#[]⟩, .int .i64 0], .int .i64 30]) ∧ Below w.heap.size w w' := by
  have K1 := Lib.hid KP
  have K2 := Lib.hid KC
  have K3 := Lib.hid KN
  have K4 := Lib.hid KA
  have HT := Lib.hid hT
  obtain ⟨z1, z2⟩ := str_ne48 hs
  clear KP KC KN KA hT hs
  have T0 := OB.start w ⟨false, ⟨#[]⟩, 0⟩
  obtain ⟨r0, r1, r2, r3, r4, r5, r6⟩ := T0.2.facts
  go_enter Tryz.func8, Tryz.ntmps8
  go_wp2_with (first | (go_at_call 25; (with_reducible refine (K1.out _).mono ?_); rintro ee w1 ⟨rfl, hb⟩; replace T0 := T0.step hb; clear hb r0 r1 r2 r3 r4 r5 r6; obtain ⟨r0, r1, r2, r3, r4, r5, r6⟩ := T0.2.facts) | (go_at_call 26; (with_reducible refine (K2.out _).mono ?_); rintro ee w1 ⟨rfl, hb⟩; replace T0 := T0.step hb; clear hb r0 r1 r2 r3 r4 r5 r6; obtain ⟨r0, r1, r2, r3, r4, r5, r6⟩ := T0.2.facts) | (go_at_call 27; (with_reducible refine (K3.out _).mono ?_); rintro ee w1 ⟨rfl, hb⟩; replace T0 := T0.step hb; clear hb r0 r1 r2 r3 r4 r5 r6; obtain ⟨r0, r1, r2, r3, r4, r5, r6⟩ := T0.2.facts) | (go_at_call 28; (refine (K4.out _ (HT.out.below T0.1)).mono ?_); rintro ee w1 ⟨⟨x2, er, rfl⟩, hb⟩; replace T0 := T0.step hb; clear hb r0 r1 r2 r3 r4 r5 r6; obtain ⟨r0, r1, r2, r3, r4, r5, r6⟩ := T0.2.facts))
  have T1 := T0.more (.cells #[.bool g, .string ⟨#[]⟩, .int .i64 x2] 24)
  obtain ⟨y0, y1, y2, y3, y4, y5, y6⟩ := T1.2.facts
  refine bodyPost_ret (v := .tuple #[.agg #[.bool false, .string ⟨#[]⟩, .int .i64 0], .int .i64 30]) (by simp [results, Tryz.results8, go_sem, r0, r1, r2, r3, y0, y1, y2, y3]) rfl ⟨rfl, ?_⟩
  exact Below.alloc (below_put T0.1 (Nat.le_refl _) _ _ _) (by simpa using T0.1.size) _
set_option maxRecDepth 100000 in
set_option maxHeartbeats 4000000 in
theorem DRead_n3 (s u A B n : ByteArray) (g has : Bool) (e : Int) (w : World) (hT : TabT w) (hs : ¬ s = ⟨#[48]⟩)
    (KP : ∀ w, Calls Tryz.prog 25 #[.string s, .string ⟨#[45]⟩] w fun e w' => e = .returned (.tuple #[.string u, .bool g]) ∧ Below w.heap.size w w')
    (KC : ∀ w, Calls Tryz.prog 26 #[.string u, .string ⟨#[112]⟩] w fun e w' => e = .returned (.tuple #[.string A, .string B, .bool has]) ∧ Below w.heap.size w w')
    (KN : ∀ w, Calls Tryz.prog 27 #[.string A] w fun r w' => r = .returned (.tuple #[.string n, .int .i64 0]) ∧ Below w.heap.size w w')
    (KA : ∀ w, TabT w → Calls Tryz.prog 28 #[.string B] w fun e w' => (∃ x te pe, e = .returned (.tuple #[.int .i64 x, .iface te pe])) ∧ Below w.heap.size w w')
    (hc : ¬ n = ⟨#[]⟩) :
    Calls Tryz.prog 8 #[.string s] w fun e w' => e = .returned (.tuple #[.agg #[.bool false, .string ⟨#[]⟩, .int .i64 0], .int .i64 30]) ∧ Below w.heap.size w w' := by
  have K1 := Lib.hid KP
  have K2 := Lib.hid KC
  have K3 := Lib.hid KN
  have K4 := Lib.hid KA
  have HT := Lib.hid hT
  obtain ⟨z1, z2⟩ := str_ne48 hs
  clear KP KC KN KA hT hs
  obtain ⟨q1, q2⟩ := str_ne0 hc
  clear hc
  have T0 := OB.start w ⟨false, ⟨#[]⟩, 0⟩
  obtain ⟨r0, r1, r2, r3, r4, r5, r6⟩ := T0.2.facts
  go_enter Tryz.func8, Tryz.ntmps8
  go_wp2_with (first | (go_at_call 25; (with_reducible refine (K1.out _).mono ?_); rintro ee w1 ⟨rfl, hb⟩; replace T0 := T0.step hb; clear hb r0 r1 r2 r3 r4 r5 r6; obtain ⟨r0, r1, r2, r3, r4, r5, r6⟩ := T0.2.facts) | (go_at_call 26; (with_reducible refine (K2.out _).mono ?_); rintro ee w1 ⟨rfl, hb⟩; replace T0 := T0.step hb; clear hb r0 r1 r2 r3 r4 r5 r6; obtain ⟨r0, r1, r2, r3, r4, r5, r6⟩ := T0.2.facts) | (go_at_call 27; (with_reducible refine (K3.out _).mono ?_); rintro ee w1 ⟨rfl, hb⟩; replace T0 := T0.step hb; clear hb r0 r1 r2 r3 r4 r5 r6; obtain ⟨r0, r1, r2, r3, r4, r5, r6⟩ := T0.2.facts) | (go_at_call 28; (refine (K4.out _ (HT.out.below T0.1)).mono ?_); rintro ee w1 ⟨⟨x2, te, pe, rfl⟩, hb⟩; replace T0 := T0.step hb; clear hb r0 r1 r2 r3 r4 r5 r6; obtain ⟨r0, r1, r2, r3, r4, r5, r6⟩ := T0.2.facts))
  have T1 := T0.more (.cells #[.bool g, .string n, .int .i64 x2] 24)
  obtain ⟨y0, y1, y2, y3, y4, y5, y6⟩ := T1.2.facts
  refine bodyPost_ret (v := .tuple #[.agg #[.bool false, .string ⟨#[]⟩, .int .i64 0], .int .i64 30]) (by simp [results, Tryz.results8, go_sem, r0, r1, r2, r3, y0, y1, y2, y3]) rfl ⟨rfl, ?_⟩
  exact Below.alloc (below_put T0.1 (Nat.le_refl _) _ _ _) (by simpa using T0.1.size) _
set_option maxRecDepth 100000 in
set_option maxHeartbeats 4000000 in
theorem DRead_n4 (s u A B n : ByteArray) (g has : Bool) (e x c : Int) (w : World) (hT : TabT w) (hs : ¬ s = ⟨#[48]⟩) (hx : -9223372036854775808 ≤ x ∧ x ≤ 9223372036854775807)
    (KP : ∀ w, Calls Tryz.prog 25 #[.string s, .string ⟨#[45]⟩] w fun e w' => e = .returned (.tuple #[.string u, .bool g]) ∧ Below w.heap.size w w')
    (KC : ∀ w, Calls Tryz.prog 26 #[.string u, .string ⟨#[112]⟩] w fun e w' => e = .returned (.tuple #[.string A, .string B, .bool has]) ∧ Below w.heap.size w w')
    (KN : ∀ w, Calls Tryz.prog 27 #[.string A] w fun r w' => r = .returned (.tuple #[.string n, .int .i64 0]) ∧ Below w.heap.size w w')
    (KA : ∀ w, TabT w → Calls Tryz.prog 28 #[.string B] w fun e w' => e = .returned (.tuple #[.int .i64 x, .nilIface]) ∧ Below w.heap.size w w')
    (KK : ∀ w, Calls Tryz.prog 13 #[.agg #[.bool g, .string n, .int .i64 x]] w fun e w' => e = .returned (.int .i64 c) ∧ Below w.heap.size w w')
    (hc : ¬ n = ⟨#[]⟩ ∧ ¬ iS x = B) :
    Calls Tryz.prog 8 #[.string s] w fun e w' => e = .returned (.tuple #[.agg #[.bool false, .string ⟨#[]⟩, .int .i64 0], .int .i64 30]) ∧ Below w.heap.size w w' := by
  have K1 := Lib.hid KP
  have K2 := Lib.hid KC
  have K3 := Lib.hid KN
  have K4 := Lib.hid KA
  have K5 := Lib.hid KK
  have HT := Lib.hid hT
  have K6 := Lib.hid (fun w hT => PItoa_c x hx.1 hx.2 w hT)
  obtain ⟨z1, z2⟩ := str_ne48 hs
  clear KP KC KN KA hT hs KK hx
  obtain ⟨q1, q2⟩ := str_ne0 hc.1
  obtain ⟨q3, q4⟩ := str_ne hc.2
  clear hc
  generalize iS x = t at *
  have T0 := OB.start w ⟨false, ⟨#[]⟩, 0⟩
  obtain ⟨r0, r1, r2, r3, r4, r5, r6⟩ := T0.2.facts
  go_enter Tryz.func8, Tryz.ntmps8
  go_wp2_with (first | (go_at_call 25; (with_reducible refine (K1.out _).mono ?_); rintro ee w1 ⟨rfl, hb⟩; replace T0 := T0.step hb; clear hb r0 r1 r2 r3 r4 r5 r6; obtain ⟨r0, r1, r2, r3, r4, r5, r6⟩ := T0.2.facts) | (go_at_call 26; (with_reducible refine (K2.out _).mono ?_); rintro ee w1 ⟨rfl, hb⟩; replace T0 := T0.step hb; clear hb r0 r1 r2 r3 r4 r5 r6; obtain ⟨r0, r1, r2, r3, r4, r5, r6⟩ := T0.2.facts) | (go_at_call 27; (with_reducible refine (K3.out _).mono ?_); rintro ee w1 ⟨rfl, hb⟩; replace T0 := T0.step hb; clear hb r0 r1 r2 r3 r4 r5 r6; obtain ⟨r0, r1, r2, r3, r4, r5, r6⟩ := T0.2.facts) | (go_at_call 28; (refine (K4.out _ (HT.out.below T0.1)).mono ?_); rintro ee w1 ⟨rfl, hb⟩; replace T0 := T0.step hb; clear hb r0 r1 r2 r3 r4 r5 r6; obtain ⟨r0, r1, r2, r3, r4, r5, r6⟩ := T0.2.facts) | (go_at_call 24; have TX := OB.start w1 ⟨g, n, x⟩; replace T0 := T0.more (.cells #[.bool g, .string n, .int .i64 x] 24); (refine (K6.out _ (HT.out.below T0.1)).mono ?_); rintro ee w2 ⟨rfl, hb⟩; replace TX := TX.step hb; replace T0 := T0.step hb; clear hb r0 r1 r2 r3 r4 r5 r6; obtain ⟨r0, r1, r2, r3, r4, r5, r6⟩ := T0.2.facts; obtain ⟨p0, p1, p2, p3, p4, p5, p6⟩ := TX.2.facts) | (go_at_call 13; (with_reducible refine (K5.out _).mono ?_); rintro ee w3 ⟨rfl, hb⟩; replace TX := TX.step hb; clear p0 p1 p2 p3 p4 p5 p6; replace T0 := T0.step hb; clear hb r0 r1 r2 r3 r4 r5 r6; obtain ⟨r0, r1, r2, r3, r4, r5, r6⟩ := T0.2.facts; obtain ⟨p0, p1, p2, p3, p4, p5, p6⟩ := TX.2.facts))
  refine bodyPost_ret (v := .tuple #[.agg #[.bool false, .string ⟨#[]⟩, .int .i64 0], .int .i64 30]) (by simp [results, Tryz.results8, go_sem, r0, r1, r2, r3]) rfl ⟨rfl, ?_⟩
  exact below_put T0.1 (Nat.le_refl _) _ _ _
set_option maxRecDepth 100000 in
set_option maxHeartbeats 4000000 in
theorem DRead_n5 (s u A B n : ByteArray) (g has : Bool) (e x c : Int) (w : World) (hT : TabT w) (hs : ¬ s = ⟨#[48]⟩) (hx : -9223372036854775808 ≤ x ∧ x ≤ 9223372036854775807)
    (KP : ∀ w, Calls Tryz.prog 25 #[.string s, .string ⟨#[45]⟩] w fun e w' => e = .returned (.tuple #[.string u, .bool g]) ∧ Below w.heap.size w w')
    (KC : ∀ w, Calls Tryz.prog 26 #[.string u, .string ⟨#[112]⟩] w fun e w' => e = .returned (.tuple #[.string A, .string B, .bool has]) ∧ Below w.heap.size w w')
    (KN : ∀ w, Calls Tryz.prog 27 #[.string A] w fun r w' => r = .returned (.tuple #[.string n, .int .i64 0]) ∧ Below w.heap.size w w')
    (KA : ∀ w, TabT w → Calls Tryz.prog 28 #[.string B] w fun e w' => e = .returned (.tuple #[.int .i64 x, .nilIface]) ∧ Below w.heap.size w w')
    (KK : ∀ w, Calls Tryz.prog 13 #[.agg #[.bool g, .string n, .int .i64 x]] w fun e w' => e = .returned (.int .i64 c) ∧ Below w.heap.size w w')
    (hc : ¬ n = ⟨#[]⟩ ∧ iS x = B ∧ ¬ c = 0) :
    Calls Tryz.prog 8 #[.string s] w fun e w' => e = .returned (.tuple #[.agg #[.bool false, .string ⟨#[]⟩, .int .i64 0], .int .i64 30]) ∧ Below w.heap.size w w' := by
  have K1 := Lib.hid KP
  have K2 := Lib.hid KC
  have K3 := Lib.hid KN
  have K4 := Lib.hid KA
  have K5 := Lib.hid KK
  have HT := Lib.hid hT
  have K6 := Lib.hid (fun w hT => PItoa_c x hx.1 hx.2 w hT)
  obtain ⟨z1, z2⟩ := str_ne48 hs
  clear KP KC KN KA hT hs KK hx
  obtain ⟨q1, q2⟩ := str_ne0 hc.1
  obtain ⟨-, q3, q4⟩ := hc
  rw [q3] at K6
  clear q3
  have q5 : (c == 0) = false := beq_eq_false_iff_ne.2 q4
  have q6 : (c != 0) = true := by rw [bne, q5]; rfl
  have T0 := OB.start w ⟨false, ⟨#[]⟩, 0⟩
  obtain ⟨r0, r1, r2, r3, r4, r5, r6⟩ := T0.2.facts
  go_enter Tryz.func8, Tryz.ntmps8
  go_wp2_with (first | (go_at_call 25; (with_reducible refine (K1.out _).mono ?_); rintro ee w1 ⟨rfl, hb⟩; replace T0 := T0.step hb; clear hb r0 r1 r2 r3 r4 r5 r6; obtain ⟨r0, r1, r2, r3, r4, r5, r6⟩ := T0.2.facts) | (go_at_call 26; (with_reducible refine (K2.out _).mono ?_); rintro ee w1 ⟨rfl, hb⟩; replace T0 := T0.step hb; clear hb r0 r1 r2 r3 r4 r5 r6; obtain ⟨r0, r1, r2, r3, r4, r5, r6⟩ := T0.2.facts) | (go_at_call 27; (with_reducible refine (K3.out _).mono ?_); rintro ee w1 ⟨rfl, hb⟩; replace T0 := T0.step hb; clear hb r0 r1 r2 r3 r4 r5 r6; obtain ⟨r0, r1, r2, r3, r4, r5, r6⟩ := T0.2.facts) | (go_at_call 28; (refine (K4.out _ (HT.out.below T0.1)).mono ?_); rintro ee w1 ⟨rfl, hb⟩; replace T0 := T0.step hb; clear hb r0 r1 r2 r3 r4 r5 r6; obtain ⟨r0, r1, r2, r3, r4, r5, r6⟩ := T0.2.facts) | (go_at_call 24; have TX := OB.start w1 ⟨g, n, x⟩; replace T0 := T0.more (.cells #[.bool g, .string n, .int .i64 x] 24); (refine (K6.out _ (HT.out.below T0.1)).mono ?_); rintro ee w2 ⟨rfl, hb⟩; replace TX := TX.step hb; replace T0 := T0.step hb; clear hb r0 r1 r2 r3 r4 r5 r6; obtain ⟨r0, r1, r2, r3, r4, r5, r6⟩ := T0.2.facts; obtain ⟨p0, p1, p2, p3, p4, p5, p6⟩ := TX.2.facts) | (go_at_call 13; (with_reducible refine (K5.out _).mono ?_); rintro ee w3 ⟨rfl, hb⟩; replace TX := TX.step hb; clear p0 p1 p2 p3 p4 p5 p6; replace T0 := T0.step hb; clear hb r0 r1 r2 r3 r4 r5 r6; obtain ⟨r0, r1, r2, r3, r4, r5, r6⟩ := T0.2.facts; obtain ⟨p0, p1, p2, p3, p4, p5, p6⟩ := TX.2.facts))
  refine bodyPost_ret (v := .tuple #[.agg #[.bool false, .string ⟨#[]⟩, .int .i64 0], .int .i64 30]) (by simp [results, Tryz.results8, go_sem, r0, r1, r2, r3]) rfl ⟨rfl, ?_⟩
  exact below_put T0.1 (Nat.le_refl _) _ _ _
set_option maxRecDepth 100000 in
set_option maxHeartbeats 4000000 in
theorem DRead_y (s u A B n : ByteArray) (g has : Bool) (e x c : Int) (w : World) (hT : TabT w) (hs : ¬ s = ⟨#[48]⟩) (hx : -9223372036854775808 ≤ x ∧ x ≤ 9223372036854775807)
    (KP : ∀ w, Calls Tryz.prog 25 #[.string s, .string ⟨#[45]⟩] w fun e w' => e = .returned (.tuple #[.string u, .bool g]) ∧ Below w.heap.size w w')
    (KC : ∀ w, Calls Tryz.prog 26 #[.string u, .string ⟨#[112]⟩] w fun e w' => e = .returned (.tuple #[.string A, .string B, .bool has]) ∧ Below w.heap.size w w')
    (KN : ∀ w, Calls Tryz.prog 27 #[.string A] w fun r w' => r = .returned (.tuple #[.string n, .int .i64 0]) ∧ Below w.heap.size w w')
    (KA : ∀ w, TabT w → Calls Tryz.prog 28 #[.string B] w fun e w' => e = .returned (.tuple #[.int .i64 x, .nilIface]) ∧ Below w.heap.size w w')
    (KK : ∀ w, Calls Tryz.prog 13 #[.agg #[.bool g, .string n, .int .i64 x]] w fun e w' => e = .returned (.int .i64 c) ∧ Below w.heap.size w w')
    (hc : ¬ n = ⟨#[]⟩ ∧ iS x = B ∧ c = 0) :
    Calls Tryz.prog 8 #[.string s] w fun e w' => e = .returned (.tuple #[.agg #[.bool g, .string n, .int .i64 x], .int .i64 0]) ∧ Below w.heap.size w w' := by
  have K1 := Lib.hid KP
  have K2 := Lib.hid KC
  have K3 := Lib.hid KN
  have K4 := Lib.hid KA
  have K5 := Lib.hid KK
  have HT := Lib.hid hT
  have K6 := Lib.hid (fun w hT => PItoa_c x hx.1 hx.2 w hT)
  obtain ⟨z1, z2⟩ := str_ne48 hs
  clear KP KC KN KA hT hs KK hx
  obtain ⟨q1, q2⟩ := str_ne0 hc.1
  obtain ⟨-, q3, q4⟩ := hc
  rw [q3] at K6
  clear q3
  subst q4
  have T0 := OB.start w ⟨false, ⟨#[]⟩, 0⟩
  obtain ⟨r0, r1, r2, r3, r4, r5, r6⟩ := T0.2.facts
  go_enter Tryz.func8, Tryz.ntmps8
  go_wp2_with (first | (go_at_call 25; (with_reducible refine (K1.out _).mono ?_); rintro ee w1 ⟨rfl, hb⟩; replace T0 := T0.step hb; clear hb r0 r1 r2 r3 r4 r5 r6; obtain ⟨r0, r1, r2, r3, r4, r5, r6⟩ := T0.2.facts) | (go_at_call 26; (with_reducible refine (K2.out _).mono ?_); rintro ee w1 ⟨rfl, hb⟩; replace T0 := T0.step hb; clear hb r0 r1 r2 r3 r4 r5 r6; obtain ⟨r0, r1, r2, r3, r4, r5, r6⟩ := T0.2.facts) | (go_at_call 27; (with_reducible refine (K3.out _).mono ?_); rintro ee w1 ⟨rfl, hb⟩; replace T0 := T0.step hb; clear hb r0 r1 r2 r3 r4 r5 r6; obtain ⟨r0, r1, r2, r3, r4, r5, r6⟩ := T0.2.facts) | (go_at_call 28; (refine (K4.out _ (HT.out.below T0.1)).mono ?_); rintro ee w1 ⟨rfl, hb⟩; replace T0 := T0.step hb; clear hb r0 r1 r2 r3 r4 r5 r6; obtain ⟨r0, r1, r2, r3, r4, r5, r6⟩ := T0.2.facts) | (go_at_call 24; have TX := OB.start w1 ⟨g, n, x⟩; replace T0 := T0.more (.cells #[.bool g, .string n, .int .i64 x] 24); (refine (K6.out _ (HT.out.below T0.1)).mono ?_); rintro ee w2 ⟨rfl, hb⟩; replace TX := TX.step hb; replace T0 := T0.step hb; clear hb r0 r1 r2 r3 r4 r5 r6; obtain ⟨r0, r1, r2, r3, r4, r5, r6⟩ := T0.2.facts; obtain ⟨p0, p1, p2, p3, p4, p5, p6⟩ := TX.2.facts) | (go_at_call 13; (with_reducible refine (K5.out _).mono ?_); rintro ee w3 ⟨rfl, hb⟩; replace TX := TX.step hb; clear p0 p1 p2 p3 p4 p5 p6; replace T0 := T0.step hb; clear hb r0 r1 r2 r3 r4 r5 r6; obtain ⟨r0, r1, r2, r3, r4, r5, r6⟩ := T0.2.facts; obtain ⟨p0, p1, p2, p3, p4, p5, p6⟩ := TX.2.facts))
  refine bodyPost_ret (v := .tuple #[.agg #[.bool g, .string n, .int .i64 x], .int .i64 0]) (by simp [results, Tryz.results8, go_sem, r0, r1, r2, r3]) rfl ⟨rfl, ?_⟩
  exact below_put T0.1 (Nat.le_refl _) _ _ _
end Go.Proofs.YtdfnejpfpkaplaaGreatDoor
namespace Go.Proofs.YtdfnejpfpkaplaaGreatDoor
open Go Go.RowKit Nt
set_option maxRecDepth 100000 in
set_option maxHeartbeats 2000000 in
theorem rRead3_zero (w : World) :
    Calls Tryz.prog 9 #[.string ⟨#[48]⟩] w fun e w' => e = .returned (.tuple #[.agg #[.bool false, .string ⟨#[]⟩, .int .i64 0], .int .i64 0]) ∧ Below w.heap.size w w' := by
  have T0 := OB.start w ⟨false, ⟨#[]⟩, 0⟩
  obtain ⟨r0, r1, r2, r3, r4, r5, r6⟩ := T0.2.facts
  go_enter Tryz.func9, Tryz.ntmps9
  go_wp2_with fail
  refine bodyPost_ret (v := .tuple #[.agg #[.bool false, .string ⟨#[]⟩, .int .i64 0], .int .i64 0]) (by simp [results, Tryz.results9, go_sem, r0, r1, r2, r3]) rfl ⟨rfl, ?_⟩
  exact T0.1
def SignW (s u : ByteArray) (g : Bool) : Prop := (¬ 0 < s.size ∧ g = false ∧ u = s) ∨ (0 < s.size ∧ g = false ∧ u = s ∧ ∀ h : 0 < s.size, ((s[0].toNat : Int) == 45) = false) ∨ (0 < s.size ∧ g = true ∧ (∀ w, (Instr.slice 9 (.string s) (some (.int .i64 1)) none none).run Tryz.prog w = .ok (.string u) w) ∧ ∀ h : 0 < s.size, ((s[0].toNat : Int) == 45) = true)
def SignC (s u : ByteArray) (g : Bool) : Prop := (g = false ∧ u = s) ∨ (g = true ∧ (∀ w, (Instr.slice 9 (.string s) (some (.int .i64 1)) none none).run Tryz.prog w = .ok (.string u) w))
theorem SignW.c {s u : ByteArray} {g : Bool} (h : SignW s u g) : SignC s u g := by
  rcases h with ⟨h0, h1, h2⟩ | ⟨h0, h1, h2, h3⟩ | ⟨h0, h1, h2, h3⟩
  · exact Or.inl ⟨h1, h2⟩
  · exact Or.inl ⟨h1, h2⟩
  · exact Or.inr ⟨h1, h2⟩
theorem signW (s : ByteArray) : SignW s (offB 45 s) (begB 45 s) := sign_way s
def RdEnd (g : Bool) (a : ByteArray) (eb : Int) (y : Nat) (ok dn may : Bool) (rg : Bool) (rs : ByteArray) (rx re : Int) : Prop :=
  ((rg = false ∧ rs = ⟨#[]⟩ ∧ rx = 0 ∧ re = 30) ∧ (¬ eb = 0 ∨ (eb = 0 ∧ ok = false) ∨ (eb = 0 ∧ ok = true ∧ 1048576 < y) ∨ (eb = 0 ∧ ok = true ∧ dn = true ∧ y = 0) ∨ (eb = 0 ∧ ok = true ∧ y ≤ 1048576 ∧ ¬ (dn = true ∧ y = 0) ∧ a = ⟨#[]⟩) ∨ (eb = 0 ∧ ok = true ∧ y ≤ 1048576 ∧ ¬ (dn = true ∧ y = 0) ∧ ¬ a = ⟨#[]⟩ ∧ may = false))) ∨
  ((rg = g ∧ rs = a ∧ rx = (if dn = true then -(y : Int) else (y : Int)) ∧ re = 0) ∧ eb = 0 ∧ ok = true ∧ y ≤ 1048576 ∧ ¬ (dn = true ∧ y = 0) ∧ ¬ a = ⟨#[]⟩ ∧ may = true)
set_option maxRecDepth 100000 in
set_option maxHeartbeats 4000000 in
theorem rRead3_p (s u A B v a b : ByteArray) (g dn ok may : Bool) (ix y : Nat) (ea eb : Int) (rg : Bool) (rs : ByteArray) (rx re : Int) (w : World) (hs : ¬ s = ⟨#[48]⟩) (hz : s.size ≤ 9223372036854775000) (hu : u.size ≤ s.size)
    (way : SignW s u g) (hix : ix ≤ u.size) (hne : ∀ k (h : k < u.size), k < ix → ((u[k].toNat : Int) == 112) = false) (heq : ∀ h : ix < u.size, ((u[ix].toNat : Int) == 112) = true)
    (rA : ∀ w, (Instr.slice 9 (.string u) none (some (.int .i64 (ix : Int))) none).run Tryz.prog w = .ok (.string A) w) (rB : ix < u.size → ∀ w, (Instr.slice 9 (.string u) (some (.int .i64 ((ix : Int) + 1))) none none).run Tryz.prog w = .ok (.string B) w)
    (way2 : SignW B v dn)
    (KA : ∀ w, Calls Tryz.prog 29 #[.string A] w fun e w' => e = .returned (.tuple #[.string a, .int .i64 ea]) ∧ Below w.heap.size w w')
    (KV : ∀ w, Calls Tryz.prog 29 #[.string v] w fun e w' => e = .returned (.tuple #[.string b, .int .i64 eb]) ∧ Below w.heap.size w w')
    (KS : ∀ w, Calls Tryz.prog 30 #[.string b] w fun e w' => e = .returned (.tuple #[.int .u64 (y : Nat), .bool ok]) ∧ w = w')
    (KM : ∀ w, Calls Tryz.prog 10 #[.agg #[.bool g, .string a, .int .i64 (if dn = true then -(y : Int) else (y : Int))]] w fun e w' => e = .returned (.bool may) ∧ Below w.heap.size w w')
    (hend : ((ix = u.size ∨ ¬ ea = 0) ∧ rg = false ∧ rs = ⟨#[]⟩ ∧ rx = 0 ∧ re = 30) ∨ (ix < u.size ∧ ea = 0 ∧ RdEnd g a eb y ok dn may rg rs rx re)) :
    Calls Tryz.prog 9 #[.string s] w fun e w' => e = .returned (.tuple #[.agg #[.bool rg, .string rs, .int .i64 rx], .int .i64 re]) ∧ Below w.heap.size w w' := by
  have K1 := Lib.hid KA
  have K2 := Lib.hid KV
  have K3 := Lib.hid KS
  have K4 := Lib.hid KM
  have HN := Lib.hid hne
  have HE := Lib.hid heq
  have HF := Lib.hid hend
  have W1 := Lib.hid way
  have W2 := Lib.hid way2
  obtain ⟨z1, z2⟩ := str_ne48 hs
  clear KA KV KS KM hne heq hend way way2 hs
  have T0 := OB.start w ⟨false, ⟨#[]⟩, 0⟩
  go_enter Tryz.func9, Tryz.ntmps9
  go_upto_region 3 with fail
  go_cut [4] (fun a wc => a = .bool g ∧ OB w ⟨false, ⟨#[]⟩, 0⟩ wc)
  case first =>
    rcases W1.out with ⟨h0, rfl, rfl⟩ | ⟨h0, rfl, rfl, h1⟩ | ⟨h0, rfl, r1, h1⟩
    case' inr.inl => have h1 := h1 h0
    case' inr.inr => have h1 := h1 h0
    all_goals
      go_wp2_with fail
      go_meet
      exact ⟨rfl, T0⟩
  case rest =>
    clear T0
    obtain ⟨rfl, T0⟩ := hcut
    go_upto_if 27 with fail
    go_cut [5] (fun a wc => a = .string u ∧ OB w ⟨false, ⟨#[]⟩, 0⟩ wc)
    case first =>
      rcases W1.out.c with ⟨rfl, rfl⟩ | ⟨rfl, r1⟩
      all_goals
        go_wp2_with fail
        go_meet
        exact ⟨rfl, T0⟩
    case rest =>
      clear T0
      obtain ⟨rfl, T0⟩ := hcut
      go_wp2_with fail
      go_loop [6] (fun i => ∃ k : Nat, k ≤ ix ∧ i = .int .i64 k) (fun i => ix - (intOf i).toNat)
      case atStart => exact ⟨0, Nat.zero_le _, rfl⟩
      case round =>
        obtain ⟨k, hk, rfl⟩ := hrel
        by_cases hlt : k < ix
        · have hku : k < u.size := by omega
          have e1 := HN.out k hku hlt
          go_wp2_with fail
          go_round
          case rel => exact ⟨k + 1, by omega, by go_num⟩
          case measure => simp [intOf]; omega
        · obtain rfl : k = ix := by omega
          clear hlt hk
          by_cases hp : k = u.size
          · have e1 : ¬ k < u.size := by omega
            rcases HF.out with ⟨-, rfl, rfl, rfl, rfl⟩ | ⟨c, -⟩
            · have e2 : ((k : Int) == (u.size : Int)) = true := by rw [hp]; exact beq_self_eq_true _
              clear hp
              obtain ⟨p0, p1, p2, p3, p4, p5, p6⟩ := T0.2.facts
              go_wp2_with fail
              refine bodyPost_ret (v := .tuple #[.agg #[.bool false, .string ⟨#[]⟩, .int .i64 0], .int .i64 30]) (by simp [results, Tryz.results9, go_sem, p0, p1, p2, p3]) rfl ⟨rfl, ?_⟩
              exact below_put T0.1 (Nat.le_refl _) _ _ _
            · exact absurd c e1
          · have hlt : k < u.size := by omega
            have e1 := HE.out hlt
            have e2 : ((k : Int) == (u.size : Int)) = false := beq_eq_false_iff_ne.2 (by omega)
            have rB' := rB hlt
            clear rB
            by_cases hea : ea = 0
            · subst hea
              have HR := Lib.hid (show RdEnd g a eb y ok dn may rg rs rx re by
                rcases HF.out with ⟨c, -⟩ | ⟨-, -, c⟩
                · exact absurd c (fun c => c.elim hp (fun c => c rfl))
                · exact c)
              clear hp HF
              go_upto_region 16 with (first | (go_at_call 29; (with_reducible refine (K1.out _).mono ?_); rintro ee w1 ⟨rfl, hb⟩; replace T0 := T0.step hb; clear hb))
              go_cut [10] (fun a wc => a = .bool dn ∧ OB w ⟨false, ⟨#[]⟩, 0⟩ wc)
              case first =>
                rcases W2.out with ⟨h0, rfl, rfl⟩ | ⟨h0, rfl, rfl, h1⟩ | ⟨h0, rfl, r1, h1⟩
                case' inr.inl => have h1 := h1 h0
                case' inr.inr => have h1 := h1 h0
                all_goals
                  go_wp2_with fail
                  go_meet
                  exact ⟨rfl, T0⟩
              case rest =>
                clear T0
                obtain ⟨rfl, T0⟩ := hcut
                go_upto_if 69 with fail
                go_cut [9] (fun a wc => a = .string v ∧ OB w ⟨false, ⟨#[]⟩, 0⟩ wc)
                case first =>
                  rcases W2.out.c with ⟨rfl, rfl⟩ | ⟨rfl, r1⟩
                  all_goals
                    go_wp2_with fail
                    go_meet
                    exact ⟨rfl, T0⟩
                case rest =>
                  clear T0
                  obtain ⟨rfl, T0⟩ := hcut
                  clear rA rB'
                  go_upto_region 21 with (first | (go_at_call 29; (with_reducible refine (K2.out _).mono ?_); rintro ee wv ⟨rfl, hb⟩; replace T0 := T0.step hb; clear hb) | (go_at_call 30; (with_reducible refine (K3.out _).mono ?_); rintro ee wz ⟨rfl, hww⟩; rw [← hww]; clear hww wz))
                  rcases HR.out with ⟨⟨rfl, rfl, rfl, rfl⟩, c | ⟨rfl, rfl⟩ | ⟨rfl, rfl, c⟩ | ⟨rfl, rfl, rfl, rfl⟩ | ⟨rfl, rfl, h3, h4, rfl⟩ | ⟨rfl, rfl, h3, h4, h5, rfl⟩⟩ | ⟨⟨e5, e6, e7, e8⟩, rfl, rfl, h3, h4, h5, rfl⟩
                  · clear HR
                    have q1 : (eb == 0) = false := beq_eq_false_iff_ne.2 c
                    have q2 : (eb != 0) = true := by rw [bne, q1]; rfl
                    obtain ⟨p0, p1, p2, p3, p4, p5, p6⟩ := T0.2.facts
                    go_wp2_with fail
                    refine bodyPost_ret (v := .tuple #[.agg #[.bool false, .string ⟨#[]⟩, .int .i64 0], .int .i64 30]) (by simp [results, Tryz.results9, go_sem, p0, p1, p2, p3]) rfl ⟨rfl, ?_⟩
                    exact below_put T0.1 (Nat.le_refl _) _ _ _
                  · clear HR
                    obtain ⟨p0, p1, p2, p3, p4, p5, p6⟩ := T0.2.facts
                    go_wp2_with fail
                    refine bodyPost_ret (v := .tuple #[.agg #[.bool false, .string ⟨#[]⟩, .int .i64 0], .int .i64 30]) (by simp [results, Tryz.results9, go_sem, p0, p1, p2, p3]) rfl ⟨rfl, ?_⟩
                    exact below_put T0.1 (Nat.le_refl _) _ _ _
                  · clear HR
                    have q1 : (1048576 : Int) < (y : Int) := by omega
                    clear c
                    obtain ⟨p0, p1, p2, p3, p4, p5, p6⟩ := T0.2.facts
                    go_wp2_with fail
                    refine bodyPost_ret (v := .tuple #[.agg #[.bool false, .string ⟨#[]⟩, .int .i64 0], .int .i64 30]) (by simp [results, Tryz.results9, go_sem, p0, p1, p2, p3]) rfl ⟨rfl, ?_⟩
                    exact below_put T0.1 (Nat.le_refl _) _ _ _
                  · clear HR
                    obtain ⟨p0, p1, p2, p3, p4, p5, p6⟩ := T0.2.facts
                    go_wp2_with fail
                    refine bodyPost_ret (v := .tuple #[.agg #[.bool false, .string ⟨#[]⟩, .int .i64 0], .int .i64 30]) (by simp [results, Tryz.results9, go_sem, p0, p1, p2, p3]) rfl ⟨rfl, ?_⟩
                    exact below_put T0.1 (Nat.le_refl _) _ _ _
                  · clear HR
                    have w1 : IntKind.i64.wrap (y : Int) = (y : Int) := IntWalk.i64_in _ (by omega)
                    have w2 : wrap64 (y : Int) = (y : Int) := IntWalk.wrap64_in _ (by omega)
                    have w3 : wrap64 (-(y : Int)) = -(y : Int) := IntWalk.wrap64_in _ (by omega)
                    have w4 : IntKind.i64.wrap (-(y : Int)) = -(y : Int) := IntWalk.i64_in _ (by omega)
                    have q1 : decide ((1048576 : Int) < (y : Int)) = false := decide_eq_false (by omega)
                    have q2 : ¬ (1048576 : Int) < (y : Int) := by omega
                    have hy : dn = true → ¬ y = 0 := fun c d => h4 ⟨c, d⟩
                    clear h3 h4
                    cases dn with
                    | false =>
                      clear hy
                      have M4 := K4.out
                      simp only [if_true, Bool.false_eq_true, if_false] at M4
                      have K9 := Lib.hid M4
                      clear M4 K4
                      obtain ⟨p0, p1, p2, p3, p4, p5, p6⟩ := T0.2.facts
                      go_wp2_with fail
                      have T1 := T0.more (.cells #[.bool g, .string ⟨#[]⟩, .int .i64 ((y : Int))] 24)
                      obtain ⟨y0, y1, y2, y3, y4, y5, y6⟩ := T1.2.facts
                      refine bodyPost_ret (v := .tuple #[.agg #[.bool false, .string ⟨#[]⟩, .int .i64 0], .int .i64 30]) (by simp [results, Tryz.results9, go_sem, p0, p1, p2, p3, y0, y1, y2, y3]) rfl ⟨rfl, ?_⟩
                      exact Below.alloc (below_put T0.1 (Nat.le_refl _) _ _ _) (by simpa using T0.1.size) _
                    | true =>
                      have y1 := hy rfl
                      clear hy
                      have y2 : ((y : Int) == 0) = false := beq_eq_false_iff_ne.2 (by omega)
                      have y3 : ¬ (y : Int) = 0 := by omega
                      clear y1
                      have M4 := K4.out
                      simp only [if_true, Bool.false_eq_true, if_false] at M4
                      have K9 := Lib.hid M4
                      clear M4 K4
                      obtain ⟨p0, p1, p2, p3, p4, p5, p6⟩ := T0.2.facts
                      go_wp2_with fail
                      have T1 := T0.more (.cells #[.bool g, .string ⟨#[]⟩, .int .i64 (-(y : Int))] 24)
                      obtain ⟨y0, y1, y2, y3, y4, y5, y6⟩ := T1.2.facts
                      refine bodyPost_ret (v := .tuple #[.agg #[.bool false, .string ⟨#[]⟩, .int .i64 0], .int .i64 30]) (by simp [results, Tryz.results9, go_sem, p0, p1, p2, p3, y0, y1, y2, y3]) rfl ⟨rfl, ?_⟩
                      exact Below.alloc (below_put T0.1 (Nat.le_refl _) _ _ _) (by simpa using T0.1.size) _
                  · clear HR
                    have w1 : IntKind.i64.wrap (y : Int) = (y : Int) := IntWalk.i64_in _ (by omega)
                    have w2 : wrap64 (y : Int) = (y : Int) := IntWalk.wrap64_in _ (by omega)
                    have w3 : wrap64 (-(y : Int)) = -(y : Int) := IntWalk.wrap64_in _ (by omega)
                    have w4 : IntKind.i64.wrap (-(y : Int)) = -(y : Int) := IntWalk.i64_in _ (by omega)
                    have q1 : decide ((1048576 : Int) < (y : Int)) = false := decide_eq_false (by omega)
                    have q2 : ¬ (1048576 : Int) < (y : Int) := by omega
                    have hy : dn = true → ¬ y = 0 := fun c d => h4 ⟨c, d⟩
                    clear h3 h4
                    obtain ⟨z3, z4⟩ := str_ne0 h5
                    clear h5
                    cases dn with
                    | false =>
                      clear hy
                      have M4 := K4.out
                      simp only [if_true, Bool.false_eq_true, if_false] at M4
                      have K9 := Lib.hid M4
                      clear M4 K4
                      obtain ⟨p0, p1, p2, p3, p4, p5, p6⟩ := T0.2.facts
                      go_upto_region 26 with fail
                      have TX := OB.start wv ⟨g, a, (y : Int)⟩
                      replace T0 := T0.more (.cells #[.bool g, .string a, .int .i64 ((y : Int))] 24)
                      clear p0 p1 p2 p3 p4 p5 p6
                      generalize wv.alloc (.cells #[.bool g, .string a, .int .i64 ((y : Int))] 24) = wk at *
                      obtain ⟨x0, x1, x2, x3, x4, x5, x6⟩ := TX.2.facts
                      go_wp2_with (first | (go_at_call 10; (with_reducible refine (K9.out _).mono ?_); rintro ee wm ⟨rfl, hb⟩; replace T0 := T0.step hb; replace TX := TX.step hb; clear hb x0 x1 x2 x3 x4 x5 x6; obtain ⟨p0, p1, p2, p3, p4, p5, p6⟩ := T0.2.facts; obtain ⟨x0, x1, x2, x3, x4, x5, x6⟩ := TX.2.facts))
                      refine bodyPost_ret (v := .tuple #[.agg #[.bool false, .string ⟨#[]⟩, .int .i64 0], .int .i64 30]) (by simp [results, Tryz.results9, go_sem, p0, p1, p2, p3]) rfl ⟨rfl, ?_⟩
                      exact below_put T0.1 (Nat.le_refl _) _ _ _
                    | true =>
                      have y1 := hy rfl
                      clear hy
                      have y2 : ((y : Int) == 0) = false := beq_eq_false_iff_ne.2 (by omega)
                      have y3 : ¬ (y : Int) = 0 := by omega
                      clear y1
                      have M4 := K4.out
                      simp only [if_true, Bool.false_eq_true, if_false] at M4
                      have K9 := Lib.hid M4
                      clear M4 K4
                      obtain ⟨p0, p1, p2, p3, p4, p5, p6⟩ := T0.2.facts
                      go_upto_region 26 with fail
                      have TX := OB.start wv ⟨g, a, -(y : Int)⟩
                      replace T0 := T0.more (.cells #[.bool g, .string a, .int .i64 (-(y : Int))] 24)
                      clear p0 p1 p2 p3 p4 p5 p6
                      generalize wv.alloc (.cells #[.bool g, .string a, .int .i64 (-(y : Int))] 24) = wk at *
                      obtain ⟨x0, x1, x2, x3, x4, x5, x6⟩ := TX.2.facts
                      go_wp2_with (first | (go_at_call 10; (with_reducible refine (K9.out _).mono ?_); rintro ee wm ⟨rfl, hb⟩; replace T0 := T0.step hb; replace TX := TX.step hb; clear hb x0 x1 x2 x3 x4 x5 x6; obtain ⟨p0, p1, p2, p3, p4, p5, p6⟩ := T0.2.facts; obtain ⟨x0, x1, x2, x3, x4, x5, x6⟩ := TX.2.facts))
                      refine bodyPost_ret (v := .tuple #[.agg #[.bool false, .string ⟨#[]⟩, .int .i64 0], .int .i64 30]) (by simp [results, Tryz.results9, go_sem, p0, p1, p2, p3]) rfl ⟨rfl, ?_⟩
                      exact below_put T0.1 (Nat.le_refl _) _ _ _
                  · clear HR
                    have w1 : IntKind.i64.wrap (y : Int) = (y : Int) := IntWalk.i64_in _ (by omega)
                    have w2 : wrap64 (y : Int) = (y : Int) := IntWalk.wrap64_in _ (by omega)
                    have w3 : wrap64 (-(y : Int)) = -(y : Int) := IntWalk.wrap64_in _ (by omega)
                    have w4 : IntKind.i64.wrap (-(y : Int)) = -(y : Int) := IntWalk.i64_in _ (by omega)
                    have q1 : decide ((1048576 : Int) < (y : Int)) = false := decide_eq_false (by omega)
                    have q2 : ¬ (1048576 : Int) < (y : Int) := by omega
                    have hy : dn = true → ¬ y = 0 := fun c d => h4 ⟨c, d⟩
                    clear h3 h4
                    obtain ⟨z3, z4⟩ := str_ne0 h5
                    clear h5
                    cases dn with
                    | false =>
                      clear hy
                      have e9 := e7.trans (if_neg Bool.false_ne_true)
                      have E9 := Lib.hid (And.intro e5 (And.intro e6 (And.intro e9 e8)))
                      clear e5 e6 e7 e8 e9
                      have M4 := K4.out
                      simp only [if_true, Bool.false_eq_true, if_false] at M4
                      have K9 := Lib.hid M4
                      clear M4 K4
                      obtain ⟨p0, p1, p2, p3, p4, p5, p6⟩ := T0.2.facts
                      go_upto_region 26 with fail
                      have TX := OB.start wv ⟨g, a, (y : Int)⟩
                      replace T0 := T0.more (.cells #[.bool g, .string a, .int .i64 ((y : Int))] 24)
                      clear p0 p1 p2 p3 p4 p5 p6
                      generalize wv.alloc (.cells #[.bool g, .string a, .int .i64 ((y : Int))] 24) = wk at *
                      obtain ⟨x0, x1, x2, x3, x4, x5, x6⟩ := TX.2.facts
                      go_wp2_with (first | (go_at_call 10; (with_reducible refine (K9.out _).mono ?_); rintro ee wm ⟨rfl, hb⟩; replace T0 := T0.step hb; replace TX := TX.step hb; clear hb x0 x1 x2 x3 x4 x5 x6; obtain ⟨p0, p1, p2, p3, p4, p5, p6⟩ := T0.2.facts; obtain ⟨x0, x1, x2, x3, x4, x5, x6⟩ := TX.2.facts))
                      rw [E9.out.1, E9.out.2.1, E9.out.2.2.1, E9.out.2.2.2]
                      refine bodyPost_ret (v := .tuple #[.agg #[.bool g, .string a, .int .i64 ((y : Int))], .int .i64 0]) (by simp [results, Tryz.results9, go_sem, p0, p1, p2, p3]) rfl ⟨rfl, ?_⟩
                      exact below_put T0.1 (Nat.le_refl _) _ _ _
                    | true =>
                      have y1 := hy rfl
                      clear hy
                      have y2 : ((y : Int) == 0) = false := beq_eq_false_iff_ne.2 (by omega)
                      have y3 : ¬ (y : Int) = 0 := by omega
                      clear y1
                      have e9 := e7.trans (if_pos rfl)
                      have E9 := Lib.hid (And.intro e5 (And.intro e6 (And.intro e9 e8)))
                      clear e5 e6 e7 e8 e9
                      have M4 := K4.out
                      simp only [if_true, Bool.false_eq_true, if_false] at M4
                      have K9 := Lib.hid M4
                      clear M4 K4
                      obtain ⟨p0, p1, p2, p3, p4, p5, p6⟩ := T0.2.facts
                      go_upto_region 26 with fail
                      have TX := OB.start wv ⟨g, a, -(y : Int)⟩
                      replace T0 := T0.more (.cells #[.bool g, .string a, .int .i64 (-(y : Int))] 24)
                      clear p0 p1 p2 p3 p4 p5 p6
                      generalize wv.alloc (.cells #[.bool g, .string a, .int .i64 (-(y : Int))] 24) = wk at *
                      obtain ⟨x0, x1, x2, x3, x4, x5, x6⟩ := TX.2.facts
                      go_wp2_with (first | (go_at_call 10; (with_reducible refine (K9.out _).mono ?_); rintro ee wm ⟨rfl, hb⟩; replace T0 := T0.step hb; replace TX := TX.step hb; clear hb x0 x1 x2 x3 x4 x5 x6; obtain ⟨p0, p1, p2, p3, p4, p5, p6⟩ := T0.2.facts; obtain ⟨x0, x1, x2, x3, x4, x5, x6⟩ := TX.2.facts))
                      rw [E9.out.1, E9.out.2.1, E9.out.2.2.1, E9.out.2.2.2]
                      refine bodyPost_ret (v := .tuple #[.agg #[.bool g, .string a, .int .i64 (-(y : Int))], .int .i64 0]) (by simp [results, Tryz.results9, go_sem, p0, p1, p2, p3]) rfl ⟨rfl, ?_⟩
                      exact below_put T0.1 (Nat.le_refl _) _ _ _
            · have HR := Lib.hid (show rg = false ∧ rs = ⟨#[]⟩ ∧ rx = 0 ∧ re = 30 by
                rcases HF.out with ⟨-, c⟩ | ⟨-, c, -⟩
                · exact c
                · exact absurd c hea)
              obtain ⟨rfl, rfl, rfl, rfl⟩ := HR.out
              have q1 : (ea == 0) = false := beq_eq_false_iff_ne.2 hea
              have q2 : (ea != 0) = true := by rw [bne, q1]; rfl
              clear HR HF hea hp
              go_upto_region 13 with (first | (go_at_call 29; (with_reducible refine (K1.out _).mono ?_); rintro ee w1 ⟨rfl, hb⟩; replace T0 := T0.step hb; clear hb))
              obtain ⟨p0, p1, p2, p3, p4, p5, p6⟩ := T0.2.facts
              go_wp2_with fail
              refine bodyPost_ret (v := .tuple #[.agg #[.bool false, .string ⟨#[]⟩, .int .i64 0], .int .i64 30]) (by simp [results, Tryz.results9, go_sem, p0, p1, p2, p3]) rfl ⟨rfl, ?_⟩
              exact below_put T0.1 (Nat.le_refl _) _ _ _
end Go.Proofs.YtdfnejpfpkaplaaGreatDoor
namespace Go.Proofs.YtdfnejpfpkaplaaGreatDoor
open Go Go.RowKit Nt
open Classical in
@[irreducible] noncomputable def ryT (s : ByteArray) : Dt := if ryOk s then ⟨begB 45 s, rtS (ryA s), intV (ryB s)⟩ else ⟨false, ⟨#[]⟩, 0⟩
open Classical in
@[irreducible] noncomputable def ryX (s : ByteArray) : Int := if s = ⟨#[48]⟩ ∨ ryOk s then 0 else 30
theorem ry_nought : ¬ ryOk ⟨#[48]⟩ := fun h => by
  obtain ⟨n, _, _, _, e⟩ := txD_ry h
  exact txD_ne_zero _ _ _ e
theorem ry_ok {s : ByteArray} (h : ryOk s) : ryT s = ⟨begB 45 s, rtS (ryA s), intV (ryB s)⟩ ∧ ryX s = 0 := by
  unfold ryT ryX; rw [if_pos h, if_pos (Or.inr h)]; exact ⟨rfl, rfl⟩
theorem ry_zero : ryT ⟨#[48]⟩ = ⟨false, ⟨#[]⟩, 0⟩ ∧ ryX ⟨#[48]⟩ = 0 := by
  unfold ryT ryX; rw [if_neg ry_nought, if_pos (Or.inl rfl)]; exact ⟨rfl, rfl⟩
theorem ry_no {s : ByteArray} (h : ¬ ryOk s) (hs : ¬ s = ⟨#[48]⟩) : ryT s = ⟨false, ⟨#[]⟩, 0⟩ ∧ ryX s = 30 := by
  unfold ryT ryX; rw [if_neg h, if_neg (fun c => c.elim hs h)]; exact ⟨rfl, rfl⟩
theorem ryT_ok (s : ByteArray) : (ryT s).Ok := by
  by_cases h : ryOk s
  · rw [(ry_ok h).1]; exact h.2.2.1
  · unfold ryT; rw [if_neg h]; exact Or.inl ⟨rfl, rfl, rfl⟩
theorem ryA_def (s : ByteArray) : headB 112 (offB 45 s) = ryA s := by unfold ryA; rfl
theorem ryB_def (s : ByteArray) : tailB 112 (offB 45 s) = ryB s := by unfold ryB; rfl
theorem ryB_size (s : ByteArray) : (ryB s).size ≤ s.size := by rw [← ryB_def]; exact Nat.le_trans (tailB_size 112 _) (offB_size 45 s)
theorem ryA_size (s : ByteArray) : (ryA s).size ≤ s.size := by rw [← ryA_def]; exact Nat.le_trans (headB_size 112 _) (offB_size 45 s)
theorem DOk.bound {g : Bool} {s : ByteArray} {x : Int} (h : DOk g s x) : -1048576 ≤ x ∧ x ≤ 1048576 := by
  rcases h with ⟨_, _, rfl⟩ | ⟨n, _, _, _, h1, h2⟩
  · exact ⟨by decide, by decide⟩
  · exact ⟨h1, h2⟩
theorem PAtoi_err (t : ByteArray) (hz : t.size ≤ 281474976710656) (h : ∀ v, Lib.atoiAll t.data.toList ≠ .ok v) (w : World) (hT : TabT w) : Calls Tryz.prog 28 #[.string t] w fun e w' => (∃ x te pe, e = .returned (.tuple #[.int .i64 x, .iface te pe])) ∧ Below w.heap.size w w' := by
  obtain ⟨h1, h2, ⟨⟨te, pe, h4⟩, h5⟩, ⟨tr, pr, h6⟩, h7⟩ := hT
  rcases hq : Lib.atoiAll t.data.toList with v | _ | _
  · exact absurd hq (h v)
  · refine (Tryz.strconv_Atoi_syntax_var t hz hq te pe w h4).mono ?_
    rintro e w' ⟨N, rfl, _, _, hb⟩
    exact ⟨⟨_, _, _, rfl⟩, hb⟩
  · refine (Tryz.strconv_Atoi_range_var t hz hq tr pr w h6).mono ?_
    rintro e w' ⟨N, rfl, _, _, hb⟩
    exact ⟨⟨_, _, _, rfl⟩, hb⟩
theorem PAtoi_val (t : ByteArray) (hz : t.size ≤ 281474976710656) (v : Int) (h : Lib.atoiAll t.data.toList = .ok v) (w : World) : Calls Tryz.prog 28 #[.string t] w fun e w' => e = .returned (.tuple #[.int .i64 v, .nilIface]) ∧ Below w.heap.size w w' := by
  refine (Tryz.strconv_Atoi_ok t (by omega) v h w).mono ?_
  rintro e w' ⟨rfl, h | ⟨s, h⟩⟩
  · exact ⟨rfl, below_bytesI (s := ⟨#[]⟩) (Or.inl h)⟩
  · exact ⟨rfl, below_bytesI (Or.inr h)⟩
theorem ry_atoi {s : ByteArray} (h : ryOk s) : Lib.atoiAll (ryB s).data.toList = .ok (intV (ryB s)) := by
  obtain ⟨_, h2, h3, _⟩ := h
  have hb := h3.bound
  have := atoi_iS (intV (ryB s)) (by omega) (by omega)
  rwa [iS_int h2] at this
theorem ry_of {s : ByteArray} {v : Int} (h1 : rtE (ryA s) = 0) (h2 : ¬ rtS (ryA s) = ⟨#[]⟩) (h3 : iS v = ryB s) (h4 : DOk (begB 45 s) (rtS (ryA s)) v) : ryOk s ∧ intV (ryB s) = v := by
  obtain ⟨i1, i2⟩ := int_iS v
  rw [h3] at i1 i2
  exact ⟨⟨h1, i1, by rw [i2]; exact h4, h2⟩, i2⟩
theorem DRead_c (s : ByteArray) (w : World) (hz : s.size ≤ 281474976710656) (hT : TabT w) :
    Calls Tryz.prog 8 #[.string s] w fun e w' => e = .returned (.tuple #[.agg #[.bool (ryT s).g, .string (ryT s).s, .int .i64 (ryT s).x], .int .i64 (ryX s)]) ∧ Below w.heap.size w w' := by
  by_cases hs : s = ⟨#[48]⟩
  · rw [hs, ry_zero.1, ry_zero.2]; exact DRead_zero w
  have zA := ryA_size s
  have zB := ryB_size s
  have zU := offB_size 45 s
  have KP := fun w => PCutPrefix_c 45 s w
  have KC := fun w => PCut_c 112 (offB 45 s) w (by omega)
  rw [ryA_def, ryB_def] at KC
  have KN := fun w => PNRead_c (ryA s) w (by omega)
  by_cases hq : ∃ v, Lib.atoiAll (ryB s).data.toList = .ok v
  · obtain ⟨v, hq⟩ := hq
    have hv := Lib.atoiAll_bounds hq
    have KA := fun w (_ : TabT w) => PAtoi_val (ryB s) (by omega) v hq w
    have zN : (rtS (ryA s)).size ≤ 9223372036854775807 := by have := rtS_size (ryA s); omega
    have KK := fun w => DCheck_c ⟨begB 45 s, rtS (ryA s), v⟩ w zN
    by_cases h1 : rtE (ryA s) = 0
    · by_cases h2 : rtS (ryA s) = ⟨#[]⟩
      · have hno : ¬ ryOk s := fun c => c.2.2.2 h2
        rw [(ry_no hno hs).1, (ry_no hno hs).2]
        rw [h1, h2] at KN
        exact DRead_n2 s _ _ _ ⟨#[]⟩ _ _ 0 w hT hs KP KC KN (fun w hT => (KA w hT).mono fun e w' h => ⟨⟨_, _, h.1⟩, h.2⟩) trivial
      · rw [h1] at KN
        by_cases h3 : iS v = ryB s
        · by_cases h4 : DOk (begB 45 s) (rtS (ryA s)) v
          · obtain ⟨hok, hi⟩ := ry_of h1 h2 h3 h4
            rw [(ry_ok hok).1, (ry_ok hok).2, hi]
            exact DRead_y s _ _ _ _ _ _ 0 v _ w hT hs hv KP KC KN KA KK ⟨h2, h3, dE_ok (fun t ht => by rw [List.mem_singleton.1 ht]; exact h4)⟩
          · have hno : ¬ ryOk s := fun c => h4 (by
              have hc := ry_atoi c
              rw [hq] at hc
              injection hc with hc
              rw [hc]; exact c.2.2.1)
            rw [(ry_no hno hs).1, (ry_no hno hs).2]
            exact DRead_n5 s _ _ _ _ _ _ 0 v _ w hT hs hv KP KC KN KA KK ⟨h2, h3, fun c => by
              rw [dE_no (t := ⟨begB 45 s, rtS (ryA s), v⟩) (List.mem_singleton.2 rfl) h4] at c
              exact absurd c (by decide)⟩
        · have hno : ¬ ryOk s := fun c => h3 (by
            have hc := ry_atoi c
            rw [hq] at hc
            injection hc with hc
            rw [hc]; exact iS_int c.2.1)
          rw [(ry_no hno hs).1, (ry_no hno hs).2]
          exact DRead_n4 s _ _ _ _ _ _ 0 v _ w hT hs hv KP KC KN KA KK ⟨h2, h3⟩
    · have hno : ¬ ryOk s := fun c => h1 c.1
      rw [(ry_no hno hs).1, (ry_no hno hs).2]
      exact DRead_n1 s _ _ _ _ _ _ _ w hT hs KP KC KN (fun w hT => (KA w hT).mono fun e w' h => ⟨⟨_, _, h.1⟩, h.2⟩) h1
  · have hno : ¬ ryOk s := fun c => hq ⟨_, ry_atoi c⟩
    rw [(ry_no hno hs).1, (ry_no hno hs).2]
    have KA := fun w hT => PAtoi_err (ryB s) (by omega) (fun v c => hq ⟨v, c⟩) w hT
    have KA' : ∀ w, TabT w → Calls Tryz.prog 28 #[.string (ryB s)] w fun e w' => (∃ x er, e = .returned (.tuple #[.int .i64 x, er])) ∧ Below w.heap.size w w' := fun w hT => (KA w hT).mono fun e w' h => ⟨by obtain ⟨⟨x, te, pe, h⟩, _⟩ := h; exact ⟨_, _, h⟩, h.2⟩
    have zN : (rtS (ryA s)).size ≤ 9223372036854775807 := by have := rtS_size (ryA s); omega
    have KK := fun w => DCheck_c ⟨begB 45 s, rtS (ryA s), 0⟩ w zN
    by_cases h1 : rtE (ryA s) = 0
    · rw [h1] at KN
      by_cases h2 : rtS (ryA s) = ⟨#[]⟩
      · rw [h2] at KN
        exact DRead_n2 s _ _ _ ⟨#[]⟩ _ _ 0 w hT hs KP KC KN KA' trivial
      · exact DRead_n3 s _ _ _ _ _ _ 0 w hT hs KP KC KN KA h2
    · exact DRead_n1 s _ _ _ _ _ _ _ w hT hs KP KC KN KA' h1
end Go.Proofs.YtdfnejpfpkaplaaGreatDoor
namespace Go.Proofs.YtdfnejpfpkaplaaGreatDoor
open Go Go.RowKit Nt
set_option maxRecDepth 100000 in
set_option maxHeartbeats 400000 in
theorem rSmall_c (n : Nat) (w : World) (hf : fits n) (hz : (natS n).size ≤ 9223372036854775807) :
    Calls Tryz.prog 30 #[.string (natS n)] w fun e w' => e = .returned (.tuple #[.int .u64 (brN n : Nat), .bool (brB n)]) ∧ w = w' := by
  have hsz := natS_size n
  have hmay := Lib.hid (fun w => rMay_c (natS n) w hz)
  have hmb := mayB_yes ((may_natS n).2 hf)
  unfold fits at hf
  by_cases h : nd 256 n ≤ 8
  · have HB := Lib.hid (brB_yes h)
    have HN := Lib.hid (brN_yes h)
    have hlt8 : n < 18446744073709551616 := br_lt.1 h
    have HL := Lib.hid hlt8
    have h8 : ¬ 8 < nd 256 n := by omega
    clear hlt8 hz
    go_enter Tryz.func30, Tryz.ntmps30
    go_wp2_with (go_at_call 52; refine (hmay.out _).mono ?_; rintro e w' ⟨rfl, rfl⟩)
    go_loop [4, 5] (fun v i => ∃ k : Nat, k ≤ nd 256 n ∧ i = .int .i64 k ∧ v = .int .u64 (preN n k : Nat)) (fun _ i => nd 256 n - (intOf i).toNat)
    case atStart => exact ⟨0, Nat.zero_le _, rfl, by rw [preN_zero]; rfl⟩
    case round =>
      obtain ⟨k, hk, rfl, rfl⟩ := hrel
      by_cases hlt : k < nd 256 n
      · have hks : k < (natS n).size := by omega
        have e := natS_get n k hks
        have es := preN_succ n k hlt
        have hp1 := preN_le n (k + 1)
        have hHL := HL.out
        have hb := (natS n)[k].toNat_lt
        have e1 : IntKind.u64.wrap (256 * (preN n k : Nat)) = ((256 * preN n k : Nat) : Int) := by rw [IntKind.wrap_u64]; omega
        have e2 : IntKind.u64.wrap (((natS n)[k].toNat : Nat) : Int) = (((natS n)[k].toNat : Nat) : Int) := by rw [IntKind.wrap_u64]; omega
        have e3 : IntKind.u64.wrap (256 * (preN n k : Int) + (((natS n)[k].toNat : Nat) : Int)) = ((preN n (k + 1) : Nat) : Int) := by rw [IntKind.wrap_u64]; omega
        have E := Lib.hid e
        have ES := Lib.hid es
        clear e es hp1 hHL
        go_wp2
        go_round
        case rel => exact ⟨k + 1, by omega, by go_num, by first | rfl | rw [e3]⟩
        case measure => simp [intOf]; omega
      · obtain rfl : k = nd 256 n := by omega
        rw [preN_full]
        go_wp2
        go_ret2
        exact ⟨by rw [HB.out, HN.out]; rfl, rfl⟩
  · have HB := Lib.hid (brB_no h)
    have HN := Lib.hid (brN_no h)
    have h8 : 8 < nd 256 n := by omega
    have h8I : (8 : Int) < (nd 256 n : Int) := by omega
    clear hz
    go_enter Tryz.func30, Tryz.ntmps30
    go_wp2_with (go_at_call 52; refine (hmay.out _).mono ?_; rintro e w' ⟨rfl, rfl⟩)
    go_ret2
    exact ⟨by rw [HB.out, HN.out]; rfl, rfl⟩
end Go.Proofs.YtdfnejpfpkaplaaGreatDoor
namespace Go.Proofs.YtdfnejpfpkaplaaGreatDoor
open Go Go.RowKit Nt
theorem rt_num (v : ByteArray) : ∃ m, fits m ∧ rtS v = natS m := by
  unfold rtS
  by_cases hv : Valid v
  · rw [if_pos hv]
    by_cases hf : fits (preV v v.size)
    · exact ⟨_, hf, resS_ok hf⟩
    · rw [resS_no hf]; exact ⟨0, by unfold fits; rw [nd_zero]; omega, natS_zero.symm⟩
  · rw [if_neg hv]; exact ⟨0, by unfold fits; rw [nd_zero]; omega, natS_zero.symm⟩
theorem rt_valid {v : ByteArray} (h : rtE v = 0) : Valid v ∧ fits (preV v v.size) ∧ rtS v = natS (preV v v.size) := by
  unfold rtE at h
  by_cases hv : Valid v
  · rw [if_pos hv] at h
    by_cases hf : fits (preV v v.size)
    · exact ⟨hv, hf, by unfold rtS; rw [if_pos hv, resS_ok hf]⟩
    · rw [resE_no hf] at h; exact absurd h (by decide)
  · rw [if_neg hv] at h; exact absurd h (by decide)
theorem rt_of {v : ByteArray} (h : Valid v) (hf : fits (preV v v.size)) : rtE v = 0 ∧ rtS v = natS (preV v v.size) := by
  unfold rtE rtS
  rw [if_pos h, if_pos h, resS_ok hf, resE_ok hf]; exact ⟨rfl, rfl⟩
theorem small_fits {n : Nat} (h : n ≤ 1048576) : fits n ∧ nd 256 n ≤ 8 := by
  have hb : nd 256 n ≤ 8 := br_lt.2 (by omega)
  exact ⟨by unfold fits; omega, hb⟩
open Classical in
theorem rRead3_c (s : ByteArray) (w : World) (hz : s.size ≤ 281474976710656) :
    Calls Tryz.prog 9 #[.string s] w fun e w' => e = .returned (.tuple #[.agg #[.bool (ryT s).g, .string (ryT s).s, .int .i64 (ryT s).x], .int .i64 (ryX s)]) ∧ Below w.heap.size w w' := by
  by_cases hs : s = ⟨#[48]⟩
  · rw [hs, ry_zero.1, ry_zero.2]; exact rRead3_zero w
  have zU := offB_size 45 s
  have hix := ixB_le 112 (offB 45 s)
  have hne : ∀ k (h : k < (offB 45 s).size), k < ixB 112 (offB 45 s) → (((offB 45 s)[k].toNat : Int) == 112) = false := fun k h hk => by
    rw [beq_eq_false_iff_ne]
    intro c
    exact (ixB_get 112 (offB 45 s) k h).1 hk (UInt8.toNat_inj.1 (by have e : (112 : UInt8).toNat = 112 := rfl; omega))
  have heq : ∀ h : ixB 112 (offB 45 s) < (offB 45 s).size, (((offB 45 s)[ixB 112 (offB 45 s)].toNat : Int) == 112) = true := fun h => by
    rw [(ixB_get 112 (offB 45 s) _ h).2 rfl]; rfl
  have hA : headB 112 (offB 45 s) = (offB 45 s).extract 0 (ixB 112 (offB 45 s)) := by
    by_cases h : hasB 112 (offB 45 s) = true
    · unfold headB; rw [if_pos h]
    · have e : ixB 112 (offB 45 s) = (offB 45 s).size := by
        have : ¬ ixB 112 (offB 45 s) < (offB 45 s).size := fun c => h (hasB_iff.2 c)
        omega
      unfold headB; rw [if_neg h, e]
      apply ba_eq
      rw [ba_upto]
      exact (List.take_of_length_le (Nat.le_refl _)).symm
  have rA : ∀ w, (Instr.slice 9 (.string (offB 45 s)) none (some (.int .i64 (ixB 112 (offB 45 s) : Int))) none).run Tryz.prog w = .ok (.string (ryA s)) w := fun w => by
    have h := run_slice_string_h (P := Tryz.prog) w 9 (offB 45 s) Tryz.underlying9 .i64 (ixB 112 (offB 45 s) : Int) (by omega) (by omega)
    rwa [Int.toNat_natCast, ← hA, ryA_def] at h
  have hB : ixB 112 (offB 45 s) < (offB 45 s).size → ryB s = (offB 45 s).extract (ixB 112 (offB 45 s) + 1) (offB 45 s).size := fun h => by
    rw [← ryB_def]
    unfold tailB; rw [if_pos (hasB_iff.2 h)]
  have rB : ixB 112 (offB 45 s) < (offB 45 s).size → ∀ w, (Instr.slice 9 (.string (offB 45 s)) (some (.int .i64 ((ixB 112 (offB 45 s) : Int) + 1))) none none).run Tryz.prog w = .ok (.string (ryB s)) w := fun hh w => by
    have h := run_slice_string_l (P := Tryz.prog) w 9 (offB 45 s) Tryz.underlying9 .i64 ((ixB 112 (offB 45 s) : Int) + 1) (by omega) (by omega)
    rwa [show ((ixB 112 (offB 45 s) : Int) + 1).toNat = ixB 112 (offB 45 s) + 1 by omega, ← hB hh] at h
  have zA := ryA_size s
  have zB := ryB_size s
  have zV := offB_size 45 (ryB s)
  have zN := rtS_size (ryA s)
  obtain ⟨m, hm1, hm2⟩ := rt_num (offB 45 (ryB s))
  have hsz : (natS m).size ≤ 9223372036854775807 := by rw [natS_size]; have : nd 256 m ≤ 16384 := hm1; omega
  have KS := fun w => rSmall_c m w hm1 hsz
  rw [← hm2] at KS
  obtain ⟨mb, hmb⟩ : ∃ mb : Bool, mb = true ↔ DOk (begB 45 s) (rtS (ryA s)) (if begB 45 (ryB s) = true then -((brN m : Nat) : Int) else ((brN m : Nat) : Int)) := ⟨decide _, decide_eq_true_iff⟩
  have KM : ∀ w, Calls Tryz.prog 10 #[.agg #[.bool (begB 45 s), .string (rtS (ryA s)), .int .i64 (if begB 45 (ryB s) = true then -((brN m : Nat) : Int) else ((brN m : Nat) : Int))]] w fun e w' => e = .returned (.bool mb) ∧ Below w.heap.size w w' := fun w => by
    generalize (if begB 45 (ryB s) = true then -((brN m : Nat) : Int) else ((brN m : Nat) : Int)) = xx at hmb ⊢
    cases mb with
    | true =>
      have h := hmb.1 rfl
      obtain ⟨d, hd, e⟩ := Dt.dy (t := ⟨begB 45 s, rtS (ryA s), xx⟩) h
      have e1 : begB 45 s = d.g := congrArg Dt.g e
      have e2 : rtS (ryA s) = natS d.n := congrArg Dt.s e
      have e3 : xx = d.x := congrArg Dt.x e
      rw [e1, e2, e3]; exact rMayT_ok d w hd
    | false => exact rMay3_bad _ _ _ w (by omega) (fun c => Bool.false_ne_true (hmb.2 c))
  refine rRead3_p s (offB 45 s) (ryA s) (ryB s) (offB 45 (ryB s)) (rtS (ryA s)) (rtS (offB 45 (ryB s))) (begB 45 s) (begB 45 (ryB s)) (brB m) mb (ixB 112 (offB 45 s)) (brN m) (rtE (ryA s)) (rtE (offB 45 (ryB s))) (ryT s).g (ryT s).s (ryT s).x (ryX s) w hs (by omega) zU (signW s) hix hne heq rA rB (signW (ryB s))
    (fun w => rRead2_c _ w (by omega)) (fun w => rRead2_c _ w (by omega)) KS KM ?_
  clear KS KM rA rB hne heq
  by_cases hok : ryOk s
  · rw [(ry_ok hok).1, (ry_ok hok).2]
    obtain ⟨c1, ⟨c2, c3⟩, c4, c5⟩ := hok
    have hbd := c4.bound
    have hlt : ixB 112 (offB 45 s) < (offB 45 s).size := by
      refine Classical.byContradiction fun c => ?_
      have h := fun x => c (hasB_iff.1 x)
      have e : ryB s = ⟨#[]⟩ := by rw [← ryB_def]; unfold tailB; rw [if_neg h]
      rw [e] at c2
      have ho : (offB 45 (ByteArray.mk #[])).size ≤ 0 := offB_size 45 _
      have := c2.1
      omega
    have hP : preV (offB 45 (ryB s)) (offB 45 (ryB s)).size ≤ 1048576 := by
      unfold intV at hbd
      split at hbd <;> omega
    obtain ⟨f1, f2⟩ := small_fits hP
    obtain ⟨r1, r2⟩ := rt_of c2 f1
    have hmm : m = preV (offB 45 (ryB s)) (offB 45 (ryB s)).size := by
      have h := hm2.symm.trans r2
      have h2 := congrArg bytesN h
      rwa [bytesN_natS, bytesN_natS] at h2
    rw [hmm, brN_yes f2] at hmb
    rw [hmm, brN_yes f2, brB_yes f2]
    have hi : intV (ryB s) = (if begB 45 (ryB s) = true then -((preV (offB 45 (ryB s)) (offB 45 (ryB s)).size : Nat) : Int) else ((preV (offB 45 (ryB s)) (offB 45 (ryB s)).size : Nat) : Int)) := by unfold intV; rfl
    rw [← hi] at hmb
    refine Or.inr ⟨hlt, c1, Or.inr ⟨⟨rfl, rfl, hi, rfl⟩, r1, rfl, hP, fun c => c3 c.1 c.2, c5, hmb.2 c4⟩⟩
  · rw [(ry_no hok hs).1, (ry_no hok hs).2]
    by_cases hlt : ixB 112 (offB 45 s) < (offB 45 s).size
    · by_cases c1 : rtE (ryA s) = 0
      · refine Or.inr ⟨hlt, c1, Or.inl ⟨⟨rfl, rfl, rfl, rfl⟩, ?_⟩⟩
        by_cases c2 : rtE (offB 45 (ryB s)) = 0
        · cases hbo : brB m with
          | false => exact Or.inr (Or.inl ⟨c2, rfl⟩)
          | true =>
            have hb8 := brB_true hbo
            obtain ⟨r1, r2, r3⟩ := rt_valid c2
            have hmm : m = preV (offB 45 (ryB s)) (offB 45 (ryB s)).size := by
              have h := hm2.symm.trans r3
              have h2 := congrArg bytesN h
              rwa [bytesN_natS, bytesN_natS] at h2
            rw [brN_yes hb8] at hmb ⊢
            by_cases c3 : 1048576 < m
            · exact Or.inr (Or.inr (Or.inl ⟨c2, rfl, c3⟩))
            · by_cases c4 : begB 45 (ryB s) = true ∧ m = 0
              · exact Or.inr (Or.inr (Or.inr (Or.inl ⟨c2, rfl, c4.1, c4.2⟩)))
              · by_cases c5 : rtS (ryA s) = ⟨#[]⟩
                · exact Or.inr (Or.inr (Or.inr (Or.inr (Or.inl ⟨c2, rfl, by omega, c4, c5⟩))))
                · refine Or.inr (Or.inr (Or.inr (Or.inr (Or.inr ⟨c2, rfl, by omega, c4, c5, Bool.eq_false_iff.2 fun c7 => hok ?_⟩))))
                  have c6 := hmb.1 c7
                  have hi : intV (ryB s) = (if begB 45 (ryB s) = true then -((m : Nat) : Int) else ((m : Nat) : Int)) := by unfold intV; rw [← hmm]
                  rw [← hi] at c6
                  exact ⟨c1, ⟨r1, fun c => by rw [← hmm]; exact fun c0 => c4 ⟨c, c0⟩⟩, c6, c5⟩
        · exact Or.inl c2
      · exact Or.inl ⟨Or.inr c1, rfl, rfl, rfl, rfl⟩
    · exact Or.inl ⟨Or.inl (by omega), rfl, rfl, rfl, rfl⟩
end Go.Proofs.YtdfnejpfpkaplaaGreatDoor
namespace Go.Proofs.YtdfnejpfpkaplaaGreatDoor
open Go Go.RowKit Nt
set_option maxRecDepth 100000 in
theorem rDigits3_neg (x : Int) (n : Nat) (w : World) (hx : x < 0) (hn : (n : Int) = -x) (h : n ≤ 1048576) :
    Calls Tryz.prog 35 #[.int .i64 x] w fun e w' => e = .returned (.string (⟨#[45]⟩ ++ decS n)) ∧ Below w.heap.size w w' := by
  have KO := Lib.hid (fun w => rOf_c n w (by omega))
  have hb : nd 256 n ≤ 8 := br_lt.2 (by omega)
  have hf : fits n := by unfold fits; omega
  have KT := Lib.hid (fun w => rText_any n w hf)
  have s1 := dec_sz hf
  have e45 : (ByteArray.mk #[45]).size = 1 := rfl
  have hw : IntKind.i64.wrap (-x) = (n : Int) := by rw [← hn]; exact IntWalk.i64_in _ (by omega)
  have hw2 : wrap64 (-x) = (n : Int) := by rw [← hn]; exact IntWalk.wrap64_in _ (by omega)
  have hu : IntKind.u64.wrap (n : Int) = (n : Int) := IntWalk.u64_in _ (by omega)
  clear hb hf hn
  go_enter Tryz.func35, Tryz.ntmps35
  go_wp2_with (first | (go_at_call 66; go_loud (refine (KO.out _).mono ?_; rintro ee w1 ⟨rfl, hb⟩)) | (go_at_call 34; go_loud (refine (KT.out _).mono ?_; rintro ee w2 ⟨rfl, hb2⟩)))
  go_ret
  exact ⟨rfl, below_chain hb hb2⟩
set_option maxRecDepth 100000 in
theorem rDigits3_pos (n : Nat) (w : World) (h : n ≤ 1048576) :
    Calls Tryz.prog 35 #[.int .i64 (n : Int)] w fun e w' => e = .returned (.string (decS n)) ∧ Below w.heap.size w w' := by
  have KO := Lib.hid (fun w => rOf_c n w (by omega))
  have hb : nd 256 n ≤ 8 := br_lt.2 (by omega)
  have hf : fits n := by unfold fits; omega
  have KT := Lib.hid (fun w => rText_any n w hf)
  have hx : decide ((n : Int) < 0) = false := decide_eq_false (by omega)
  have hx2 : ¬ (n : Int) < 0 := by omega
  have hu : IntKind.u64.wrap (n : Int) = (n : Int) := IntWalk.u64_in _ (by omega)
  clear hb hf
  go_enter Tryz.func35, Tryz.ntmps35
  go_wp2_with (first | (go_at_call 66; go_loud (refine (KO.out _).mono ?_; rintro ee w1 ⟨rfl, hb⟩)) | (go_at_call 34; go_loud (refine (KT.out _).mono ?_; rintro ee w2 ⟨rfl, hb2⟩)))
  go_ret
  exact ⟨rfl, below_chain hb hb2⟩
theorem rDigits3_c (x : Int) (w : World) (h1 : -1048576 ≤ x) (h2 : x ≤ 1048576) :
    Calls Tryz.prog 35 #[.int .i64 x] w fun e w' => e = .returned (.string (iS x)) ∧ Below w.heap.size w w' := by
  by_cases hx : x < 0
  · rw [iS_neg hx]; exact rDigits3_neg x x.natAbs w hx (by omega) (by omega)
  · rw [iS_pos (by omega)]
    have h := rDigits3_pos x.natAbs w (by omega)
    rwa [show ((x.natAbs : Nat) : Int) = x by omega] at h
def StI (w W : World) : Prop := Below w.heap.size w W
theorem StI.step {w W W' : World} (h : StI w W) (hb : Below W.heap.size W W') : StI w W' := below_chain h hb
theorem StI.drew {w W : World} (h : StI w W) : StI w W.drew := Below.drew h
theorem StI.drawn {w W : World} (h : StI w W) (n : Nat) : StI w (W.drewN n) := below_drewN h n
set_option maxRecDepth 100000 in
theorem rShow3_zero (w : World) :
    Calls Tryz.prog 12 #[.agg #[.bool false, .string ⟨#[]⟩, .int .i64 0]] w fun e w' => e = .returned (.string ⟨#[48]⟩) ∧ Below w.heap.size w w' := by
  have T0 := OB.start w ⟨false, ⟨#[]⟩, 0⟩
  obtain ⟨r0, r1, r2, r3, r4, r5, r6⟩ := T0.2.facts
  go_enter Tryz.func12, Tryz.ntmps12
  go_wp2_with fail
  go_ret
  exact ⟨rfl, T0.1⟩
set_option maxRecDepth 100000 in
set_option maxHeartbeats 4000000 in
theorem rShow3_num (g : Bool) (n : Nat) (x : Int) (w : World) (hf : fits n) (ho : n % 2 = 1) (h1 : -1048576 ≤ x) (h2 : x ≤ 1048576) :
    Calls Tryz.prog 12 #[.agg #[.bool g, .string (natS n), .int .i64 x]] w fun e w' => e = .returned (.string (txD g n x)) ∧ Below w.heap.size w w' := by
  have KN := Lib.hid (fun w => rText_any n w hf)
  have KI := Lib.hid (fun w => rDigits3_c x w h1 h2)
  have T0 := OB.start w ⟨g, natS n, x⟩
  have hE := natS_full (odd_ne ho)
  have hE2 := natS_full2 (odd_ne ho)
  have s1 := dec_sz hf
  have s2 := iS_size x (by omega) (by omega)
  have e45 : (ByteArray.mk #[45]).size = 1 := rfl
  have e112 : (ByteArray.mk #[112]).size = 1 := rfl
  have s4 : (decS n ++ ⟨#[112]⟩).size ≤ 40001 := by rw [ByteArray.size_append]; omega
  have s5 : (decS n ++ ⟨#[112]⟩ ++ iS x).size ≤ 40030 := by rw [ByteArray.size_append, ByteArray.size_append]; omega
  have g1 : ¬ 9223372036854775807 < (decS n).size + 1 := by omega
  have g2 : ¬ 9223372036854775807 < (decS n).size + 1 + (iS x).size := by omega
  have eT : g = true → txD g n x = ⟨#[45]⟩ ++ (decS n ++ ⟨#[112]⟩ ++ iS x) := fun hg => by rw [txD_t hg, ByteArray.append_assoc, ByteArray.append_assoc]
  have eF : g = false → txD g n x = decS n ++ ⟨#[112]⟩ ++ iS x := fun hg => by rw [txD_f (by rw [hg]; exact Bool.false_ne_true), ByteArray.append_assoc]
  have ET := Lib.hid eT
  have EF := Lib.hid eF
  clear ho hf h1 h2 eT eF
  generalize txD g n x = R at *
  generalize natS n = N at *
  generalize decS n = D at *
  generalize iS x = X at *
  go_enter Tryz.func12, Tryz.ntmps12
  go_upto_region 1 with fail
  generalize w.alloc (.cells #[.bool g, .string N, .int .i64 x] 24) = W at *
  obtain ⟨r0, r1, r2, r3, r4, r5, r6⟩ := T0.2.facts
  have S0 : StI W W := Below.refl _ _
  have L0 := fun U (s : StI W U) => (T0.2.step s).facts.2.1
  have L1 := fun U (s : StI W U) => (T0.2.step s).facts.2.2.1
  have L2 := fun U (s : StI W U) => (T0.2.step s).facts.2.2.2.1
  go_wp2_with fail
  clear r0 r1 r2 r3 r4 r5 r6
  go_region_held3 (StI W) (first | assumption | exact StI.step (by assumption) (by assumption) | exact StI.drew (by assumption) | exact StI.drawn (by assumption) _)
    (first
      | (go_at_call 34; refine (KN.out _).mono ?_; rintro e w1 ⟨rfl, hb1⟩)
      | (go_at_call 35; refine (KI.out _).mono ?_; rintro e w2 ⟨rfl, hb2⟩))
  rename_i hHeld
  replace T0 := T0.step hHeld
  clear L0 L1 L2 hb1 hb2 hHeld S0
  obtain ⟨r0, r1, r2, r3, r4, r5, r6⟩ := T0.2.facts
  cases g
  · have e := EF.out rfl
    clear ET EF
    go_wp2_with fail
    go_ret
    exact ⟨rfl, T0.1⟩
  · have e := ET.out rfl
    clear ET EF
    have g3 : (⟨#[45]⟩ ++ (D ++ ⟨#[112]⟩ ++ X) : ByteArray).size ≤ 40040 := by rw [ByteArray.size_append]; omega
    go_wp2_with fail
    go_ret
    exact ⟨rfl, T0.1⟩
theorem rShow3_ok (a : Dt) (w : World) (ha : a.Ok) :
    Calls Tryz.prog 12 #[.agg #[.bool a.g, .string a.s, .int .i64 a.x]] w fun e w' => e = .returned (.string (shT a)) ∧ Below w.heap.size w w' := by
  obtain ⟨g, s, x⟩ := a
  rcases ha with ⟨rfl, rfl, rfl⟩ | ⟨n, hf, ho, rfl, h1, h2⟩
  · rw [shT_zero]; exact rShow3_zero w
  · rw [shT_num (odd_ne ho)]; exact rShow3_num g n x w hf ho h1 h2
end Go.Proofs.YtdfnejpfpkaplaaGreatDoor
namespace Go.Proofs.YtdfnejpfpkaplaaGreatDoor
open Go Go.RowKit Nt
set_option maxRecDepth 100000 in
set_option maxHeartbeats 4000000 in
theorem DyadTexts_w (a r : Dt) (s t : ByteArray) (may : Bool) (e0 re : Int) (w : World) (hT : TabT w)
    (h : (may = false ∧ t = ⟨#[]⟩ ∧ e0 = 2) ∨ (may = true ∧ e0 = 0))
    (KS : ∀ w, TabT w → Calls Tryz.prog 7 #[.agg #[.bool a.g, .string a.s, .int .i64 a.x]] w fun e w' => e = .returned (.tuple #[.string t, .int .i64 e0]) ∧ Below w.heap.size w w')
    (KR : ∀ w, TabT w → Calls Tryz.prog 8 #[.string s] w fun e w' => e = .returned (.tuple #[.agg #[.bool r.g, .string r.s, .int .i64 r.x], .int .i64 re]) ∧ Below w.heap.size w w')
    (KQ : ∀ w, Calls Tryz.prog 9 #[.string s] w fun e w' => e = .returned (.tuple #[.agg #[.bool r.g, .string r.s, .int .i64 r.x], .int .i64 re]) ∧ Below w.heap.size w w')
    (KM : ∀ w, Calls Tryz.prog 10 #[.agg #[.bool a.g, .string a.s, .int .i64 a.x]] w fun e w' => e = .returned (.bool may) ∧ Below w.heap.size w w')
    (KT : may = true → ∀ w, Calls Tryz.prog 12 #[.agg #[.bool a.g, .string a.s, .int .i64 a.x]] w fun e w' => e = .returned (.string t) ∧ Below w.heap.size w w') :
    Calls Tryz.prog 3 #[.agg #[.bool a.g, .string a.s, .int .i64 a.x], .string s] w fun e w' => e = .returned (.bool true) ∧ Below w.heap.size w w' := by
  have K1 := Lib.hid KS
  have K2 := Lib.hid KR
  have K3 := Lib.hid KQ
  have K4 := Lib.hid KM
  have K5 := Lib.hid KT
  have K6 : Hid (∀ w, TabT w → Calls Tryz.prog 11 #[] w fun e w' => e = .returned (.bool true) ∧ Below w.heap.size w w') := Lib.hid fun w hT => awake3_c w hT.1
  have HT := Lib.hid hT
  have HC := Lib.hid h
  clear KS KR KQ KM KT hT h
  have T0 := OB.start w a
  obtain ⟨r0, r1, r2, r3, r4, r5, r6⟩ := T0.2.facts
  go_enter Tryz.func3, Tryz.ntmps3
  go_upto_region 2 with (first | (go_at_call 7; (refine (K1.out _ (HT.out.below T0.1)).mono ?_); rintro ee w1 ⟨rfl, hb⟩; replace T0 := T0.step hb; clear hb r0 r1 r2 r3 r4 r5 r6))
  go_upto_region 3 with (first | (go_at_call 8; (refine (K2.out _ (HT.out.below T0.1)).mono ?_); rintro ee w2 ⟨rfl, hb⟩; replace T0 := (T0.step hb).more (.cells #[.bool r.g, .string r.s, .int .i64 r.x] 24); have TA := OB.start w2 r; clear hb))
  generalize w2.alloc (.cells #[.bool r.g, .string r.s, .int .i64 r.x] 24) = W2 at *
  go_upto_region 4 with (first | (go_at_call 9; (with_reducible refine (K3.out _).mono ?_); rintro ee w3 ⟨rfl, hb⟩; replace T0 := (T0.step hb).more (.cells #[.bool r.g, .string r.s, .int .i64 r.x] 24); replace TA := (TA.step hb).more (.cells #[.bool r.g, .string r.s, .int .i64 r.x] 24); have TB := OB.start w3 r; clear hb))
  generalize w3.alloc (.cells #[.bool r.g, .string r.s, .int .i64 r.x] 24) = W3 at *
  obtain ⟨r0, r1, r2, r3, r4, r5, r6⟩ := T0.2.facts
  obtain ⟨p0, p1, p2, p3, p4, p5, p6⟩ := TA.2.facts
  obtain ⟨q0, q1, q2, q3, q4, q5, q6⟩ := TB.2.facts
  go_upto_region 6 with fail
  clear p0 p1 p2 p3 p4 p5 p6 q0 q1 q2 q3 q4 q5 q6 TA TB
  rcases HC.out with ⟨rfl, rfl, rfl⟩ | ⟨rfl, rfl⟩
  · clear K5 HC
    go_wp2_with (first | (go_at_call 10; (with_reducible refine (K4.out _).mono ?_); rintro ee w4 ⟨rfl, hb⟩; replace T0 := T0.step hb; clear hb r0 r1 r2 r3 r4 r5 r6; obtain ⟨r0, r1, r2, r3, r4, r5, r6⟩ := T0.2.facts) | (go_at_call 11; (refine (K6.out _ (HT.out.below T0.1)).mono ?_); rintro ee w5 ⟨rfl, hb⟩; replace T0 := T0.step hb; clear hb))
    go_ret
    exact ⟨rfl, T0.1⟩
  · have K7 := Lib.hid (K5.out rfl)
    clear K5 HC
    go_wp2_with (first | (go_at_call 10; (with_reducible refine (K4.out _).mono ?_); rintro ee w4 ⟨rfl, hb⟩; replace T0 := T0.step hb; clear hb r0 r1 r2 r3 r4 r5 r6; obtain ⟨r0, r1, r2, r3, r4, r5, r6⟩ := T0.2.facts) | (go_at_call 12; (with_reducible refine (K7.out _).mono ?_); rintro ee w4 ⟨rfl, hb⟩; replace T0 := T0.step hb; clear hb r0 r1 r2 r3 r4 r5 r6; obtain ⟨r0, r1, r2, r3, r4, r5, r6⟩ := T0.2.facts) | (go_at_call 11; (refine (K6.out _ (HT.out.below T0.1)).mono ?_); rintro ee w5 ⟨rfl, hb⟩; replace T0 := T0.step hb; clear hb))
    go_ret
    exact ⟨rfl, T0.1⟩
end Go.Proofs.YtdfnejpfpkaplaaGreatDoor
namespace Go.Proofs.YtdfnejpfpkaplaaGreatDoor
open Go Go.RowKit Nt
theorem DyadTexts_law (g : Bool) (s1 : ByteArray) (x : Int) (s : ByteArray) (w : World) (h1 : s1.size ≤ 9223372036854775807) (hz : s.size ≤ 281474976710656) (hT : TabT w) :
    Calls Tryz.prog 3 #[.agg #[.bool g, .string s1, .int .i64 x], .string s] w fun e w' => e = .returned (.bool true) ∧ Below w.heap.size w w' := by
  by_cases ha : (⟨g, s1, x⟩ : Dt).Ok
  · refine DyadTexts_w ⟨g, s1, x⟩ (ryT s) s (shT ⟨g, s1, x⟩) true 0 (ryX s) w hT (Or.inr ⟨rfl, rfl⟩) (fun w hT => DShow_ok _ w ha hT) (fun w hT => DRead_c s w hz hT) (fun w => rRead3_c s w hz) ?_ (fun _ w => rShow3_ok _ w ha)
    intro w
    obtain ⟨d, hd, e⟩ := Dt.dy ha
    have e1 : g = d.g := congrArg Dt.g e
    have e2 : s1 = natS d.n := congrArg Dt.s e
    have e3 : x = d.x := congrArg Dt.x e
    show Calls _ _ #[.agg #[.bool g, .string s1, .int .i64 x]] _ _
    rw [e1, e2, e3]; exact rMayT_ok d w hd
  · exact DyadTexts_w ⟨g, s1, x⟩ (ryT s) s ⟨#[]⟩ false 2 (ryX s) w hT (Or.inl ⟨rfl, rfl, rfl⟩) (fun w hT => DShow_bad _ w h1 ha) (fun w hT => DRead_c s w hz hT) (fun w => rRead3_c s w hz) (fun w => rMayT_no _ w h1 ha) (fun c => absurd c Bool.false_ne_true)
set_option maxRecDepth 100000 in
set_option maxHeartbeats 4000000 in
theorem DyadBack_w (a r : Dt) (s t : ByteArray) (c re : Int) (w : World) (hT : TabT w)
    (KC : ∀ w, Calls Tryz.prog 13 #[.agg #[.bool a.g, .string a.s, .int .i64 a.x]] w fun e w' => e = .returned (.int .i64 c) ∧ Below w.heap.size w w')
    (K1 : c = 0 → (∀ w, TabT w → Calls Tryz.prog 7 #[.agg #[.bool a.g, .string a.s, .int .i64 a.x]] w fun e w' => e = .returned (.tuple #[.string t, .int .i64 0]) ∧ Below w.heap.size w w') ∧ (∀ w, TabT w → Calls Tryz.prog 8 #[.string t] w fun e w' => e = .returned (.tuple #[.agg #[.bool a.g, .string a.s, .int .i64 a.x], .int .i64 0]) ∧ Below w.heap.size w w'))
    (KR : ∀ w, TabT w → Calls Tryz.prog 8 #[.string s] w fun e w' => e = .returned (.tuple #[.agg #[.bool r.g, .string r.s, .int .i64 r.x], .int .i64 re]) ∧ Below w.heap.size w w')
    (hr : (re = 30 ∧ r = ⟨false, ⟨#[]⟩, 0⟩) ∨ (re = 0 ∧ ∀ w, TabT w → Calls Tryz.prog 7 #[.agg #[.bool r.g, .string r.s, .int .i64 r.x]] w fun e w' => e = .returned (.tuple #[.string s, .int .i64 0]) ∧ Below w.heap.size w w')) :
    Calls Tryz.prog 4 #[.agg #[.bool a.g, .string a.s, .int .i64 a.x], .string s] w fun e w' => e = .returned (.bool true) ∧ Below w.heap.size w w' := by
  have J1 := Lib.hid KC
  have J2 := Lib.hid K1
  have J3 := Lib.hid KR
  have J4 : Hid (∀ w, TabT w → Calls Tryz.prog 11 #[] w fun e w' => e = .returned (.bool true) ∧ Below w.heap.size w w') := Lib.hid fun w hT => awake3_c w hT.1
  have HT := Lib.hid hT
  have HR := Lib.hid hr
  clear KC K1 KR hT hr
  have T0 := OB.start w a
  obtain ⟨r0, r1, r2, r3, r4, r5, r6⟩ := T0.2.facts
  go_enter Tryz.func4, Tryz.ntmps4
  go_upto_region 3 with (first | (go_at_call 11; (refine (J4.out _ (HT.out.below T0.1)).mono ?_); rintro ee w1 ⟨rfl, hb⟩; replace T0 := T0.step hb; clear hb r0 r1 r2 r3 r4 r5 r6))
  obtain ⟨r0, r1, r2, r3, r4, r5, r6⟩ := T0.2.facts
  go_upto_if 17 with (first | (go_at_call 13; (with_reducible refine (J1.out _).mono ?_); rintro ee w2 ⟨rfl, hb⟩; replace T0 := T0.step hb; clear hb r0 r1 r2 r3 r4 r5 r6))
  go_cut [] (fun wc => OB w a wc)
  case first =>
    by_cases hc : c = 0
    · subst hc
      have J5 := Lib.hid (J2.out rfl).1
      have J6 := Lib.hid (J2.out rfl).2
      obtain ⟨r0, r1, r2, r3, r4, r5, r6⟩ := T0.2.facts
      go_upto_region 5 with (first | (go_at_call 7; (refine (J5.out _ (HT.out.below T0.1)).mono ?_); rintro ee w3 ⟨rfl, hb⟩; replace T0 := T0.step hb; clear hb r0 r1 r2 r3 r4 r5 r6))
      go_upto_region 6 with (first | (go_at_call 8; (refine (J6.out _ (HT.out.below T0.1)).mono ?_); rintro ee w4 ⟨rfl, hb⟩; replace T0 := (T0.step hb).more (.cells #[.bool a.g, .string a.s, .int .i64 a.x] 24); have TA := OB.start w4 a; clear hb))
      generalize w4.alloc (.cells #[.bool a.g, .string a.s, .int .i64 a.x] 24) = W4 at *
      obtain ⟨r0, r1, r2, r3, r4, r5, r6⟩ := T0.2.facts
      obtain ⟨p0, p1, p2, p3, p4, p5, p6⟩ := TA.2.facts
      go_wp2_with fail
      go_meet
      exact T0
    · have q1 : (c == 0) = false := beq_eq_false_iff_ne.2 hc
      go_wp2_with fail
      go_meet
      exact T0
  case rest =>
    clear T0 J1 J2
    have T0 := hcut
    clear hcut
    rcases HR.out with ⟨rfl, rfl⟩ | ⟨rfl, hS⟩
    · clear HR
      go_upto_region 9 with (first | (go_at_call 8; (refine (J3.out _ (HT.out.below T0.1)).mono ?_); rintro ee w5 ⟨rfl, hb⟩; replace T0 := (T0.step hb).more (.cells #[.bool false, .string ⟨#[]⟩, .int .i64 0] 24); have TA := OB.start w5 ⟨false, ⟨#[]⟩, 0⟩; clear hb))
      generalize w5.alloc (.cells #[.bool false, .string ⟨#[]⟩, .int .i64 0] 24) = W5 at *
      obtain ⟨p0, p1, p2, p3, p4, p5, p6⟩ := TA.2.facts
      go_wp2_with fail
      go_ret
      exact ⟨rfl, T0.1⟩
    · have J7 := Lib.hid hS
      clear HR hS
      go_upto_region 9 with (first | (go_at_call 8; (refine (J3.out _ (HT.out.below T0.1)).mono ?_); rintro ee w5 ⟨rfl, hb⟩; replace T0 := (T0.step hb).more (.cells #[.bool r.g, .string r.s, .int .i64 r.x] 24); have TA := OB.start w5 r; clear hb))
      generalize w5.alloc (.cells #[.bool r.g, .string r.s, .int .i64 r.x] 24) = W5 at *
      obtain ⟨p0, p1, p2, p3, p4, p5, p6⟩ := TA.2.facts
      go_wp2_with (first | (go_at_call 7; (refine (J7.out _ (HT.out.below T0.1)).mono ?_); rintro ee w6 ⟨rfl, hb⟩; replace T0 := T0.step hb; clear hb p0 p1 p2 p3 p4 p5 p6))
      go_ret
      exact ⟨rfl, T0.1⟩
theorem shT_size {a : Dt} (h : a.Ok) : (shT a).size ≤ 281474976710656 := by
  obtain ⟨g, s, x⟩ := a
  rcases h with ⟨rfl, rfl, rfl⟩ | ⟨n, hf, ho, rfl, h1, h2⟩
  · rw [shT_zero]; decide
  · rw [shT_num (odd_ne ho)]
    replace h1 : -1048576 ≤ x := h1
    replace h2 : x ≤ 1048576 := h2
    have s1 := dec_sz hf
    have s2 := iS_size x (by omega) (by omega)
    have e45 : (ByteArray.mk #[45]).size = 1 := rfl
    have e112 : (ByteArray.mk #[112]).size = 1 := rfl
    by_cases hg : g = true
    · rw [txD_t hg, ByteArray.size_append, ByteArray.size_append, ByteArray.size_append]; omega
    · rw [txD_f hg, ByteArray.size_append, ByteArray.size_append]; omega
theorem ry_shT {a : Dt} (h : a.Ok) : ryT (shT a) = a ∧ ryX (shT a) = 0 := by
  obtain ⟨g, s, x⟩ := a
  rcases h with ⟨rfl, rfl, rfl⟩ | ⟨n, hf, ho, rfl, h1, h2⟩
  · rw [shT_zero]; exact ry_zero
  · rw [shT_num (odd_ne ho)]
    obtain ⟨c1, c2, c3, c4⟩ := ry_txD g n x hf (Or.inr ⟨n, hf, ho, rfl, h1, h2⟩) (odd_ne ho)
    obtain ⟨d1, d2⟩ := ry_ok c1
    rw [d1, d2, c2, c3, c4]; exact ⟨rfl, rfl⟩
theorem shT_ry {s : ByteArray} (h : ryX s = 0) : shT (ryT s) = s := by
  by_cases hs : s = ⟨#[48]⟩
  · rw [hs, ry_zero.1, shT_zero]
  · by_cases hok : ryOk s
    · obtain ⟨n, hf, h0, e1, e2⟩ := txD_ry hok
      rw [(ry_ok hok).1, e1, shT_num h0, e2]
    · rw [(ry_no hok hs).2] at h; exact absurd h (by decide)
theorem DyadBack_law (g : Bool) (s1 : ByteArray) (x : Int) (s : ByteArray) (w : World) (h1 : s1.size ≤ 9223372036854775807) (hz : s.size ≤ 281474976710656) (hT : TabT w) :
    Calls Tryz.prog 4 #[.agg #[.bool g, .string s1, .int .i64 x], .string s] w fun e w' => e = .returned (.bool true) ∧ Below w.heap.size w w' := by
  refine DyadBack_w ⟨g, s1, x⟩ (ryT s) s (shT ⟨g, s1, x⟩) (dE [⟨g, s1, x⟩]) (ryX s) w hT (fun w => DCheck_c _ w h1) ?_ (fun w hT => DRead_c s w hz hT) ?_
  · intro hc
    have ha : (⟨g, s1, x⟩ : Dt).Ok := Classical.byContradiction fun c => by
      rw [dE_no (List.mem_singleton.2 rfl) c] at hc
      exact absurd hc (by decide)
    refine ⟨fun w hT => DShow_ok _ w ha hT, fun w hT => ?_⟩
    have h := DRead_c (shT ⟨g, s1, x⟩) w (shT_size ha) hT
    rwa [(ry_shT ha).1, (ry_shT ha).2] at h
  · by_cases hs : s = ⟨#[48]⟩ ∨ ryOk s
    · have h0 : ryX s = 0 := by unfold ryX; rw [if_pos hs]
      refine Or.inr ⟨h0, fun w hT => ?_⟩
      have h := DShow_ok (ryT s) w (ryT_ok s) hT
      rwa [shT_ry h0] at h
    · have hn := ry_no (fun c => hs (Or.inr c)) (fun c => hs (Or.inl c))
      exact Or.inl ⟨hn.2, hn.1⟩
end Go.Proofs.YtdfnejpfpkaplaaGreatDoor
namespace Go.Proofs.YtdfnejpfpkaplaaGreatDoor
open Go Go.RowKit Go.WideShapes Go.ChangeShapes
variable {H : Type} {enc : TypeId × Value → H} {P : Program}
theorem postBelow {f : Func} {s : ChangeSpec} {apart fresh handsOn again : Bool} {W W' : World} {args : Array Value} {v : Value} {ds gs : List (DataW H)} {places pa pv : List MemPlace}
    (whole : DataW.Whole enc P f.params.toList s.vars apart W args.toList ds gs places)
    (res : ∀ (b : Nat) (sp : Nat → Bool) (hd : Bool), DataW.TrodAll enc P W' b sp hd f.resultTypes.toList (v.resultList f.resultTypes.size) (s.fn H (ds ++ gs)).results [])
    (left : ∀ sp : Nat → Bool, (∀ p ∈ places, sp p.block = true) → DataW.TrodAll enc P W' 0 sp true f.params.toList args.toList (s.fn H (ds ++ gs)).args pa)
    (vars : ∀ sp : Nat → Bool, (∀ p ∈ places, sp p.block = true) → DataW.TrodVars enc P W' sp s.vars (s.fn H (ds ++ gs)).vars pv)
    (split : places = pa ++ pv) (below : Below W.heap.size W W')
    (ok : ∀ (j : Nat) (t : TypeId) (r : Value), f.resultTypes[j]? = some t → (v.resultList f.resultTypes.size)[j]? = some r → Value.okWide P W' .any 0 t r) :
    s.post enc P f apart fresh handsOn again W args v W' := by
  have old : ∀ p ∈ places, p.block < W.heap.size := fun p hp => whole.lt p hp
  have same : ∀ p ∈ places, (fun b => decide (b < W.heap.size)) p.block = true := fun p hp => decide_eq_true (old p hp)
  have kept : W.keptBut W' (fun p => p ∈ places ∧ p ∈ pa ++ pv) :=
    World.keptBut_mono (fun p hp => ⟨hp, split ▸ hp⟩) (below.frame (· ∈ places))
  have free : ∀ b off, MemPlace.cell b off ∈ pa ++ pv → W'.frozen? ⟨b, off, none⟩ = false := fun b off hp => by
    have hin : MemPlace.cell b off ∈ places := split ▸ hp
    rw [below.frozen (p := ⟨b, off, none⟩) (old _ hin)]
    obtain ⟨_, _, _, _, _, hz, _⟩ := whole
    exact hz b off hin
  have apartNow : apart = true → (pa ++ pv).Nodup := fun ha => by
    obtain ⟨_, _, _, _, _, _, hn⟩ := whole
    exact split ▸ hn ha
  refine ⟨ds, gs, places, [], pa, pv, whole, res _ _ _, left _ same, vars _ same, ?_, fun _ => ⟨ok, _, _, ([] ++ pa) ++ pv, ⟨[] ++ pa, pv, trodAll_append (left _ (fun _ _ => rfl)) (res _ _ _), vars _ (fun _ _ => rfl), rfl, ?_, ?_⟩, ?_⟩⟩
  · exact World.keptBut_mono (fun p hp => ⟨hp.1, Or.inr (List.mem_append.1 hp.2)⟩) kept
  · intro b off hp; exact free b off (by simpa using hp)
  · intro ha; simpa using apartNow ha
  · intro p hp _; rw [split]; simpa using hp
end Go.Proofs.YtdfnejpfpkaplaaGreatDoor
namespace Go.Proofs.YtdfnejpfpkaplaaGreatDoor
open Go.ChangeShapes Go.WideShapes Go.ChangeAt Go.RowKit Go.Joins
variable {H : Type} {enc : TypeId × Value → H}
def dyadD (H : Type) (g : Bool) (s : ByteArray) (x : Int) : DataW H := .agg [.lit (.bool g), .lit (.string s.data.toList), .lit (.int .i64 x)]
set_option maxRecDepth 100000 in
theorem open_dyad {w : World} {base : Nat} {spare : Nat → Bool} {held : Bool} {r : Go.Reach} {b0 : Nat} {v : Value} {d : DataW H} {p : List MemPlace}
    (hv : Value.okWide Tryz.prog w r b0 24 v) (h : DataW.Trod enc Tryz.prog w base spare held 24 v d p) :
    ∃ (g : Bool) (s : ByteArray) (x : Int), v = .agg #[.bool g, .string s, .int .i64 x] ∧ d = dyadD H g s x ∧ p = [] ∧ s.size ≤ maxLen ∧ (Lit.int .i64 x).wf = true := by
  obtain ⟨c0, c1, c2, y0, y1, y2, m, rfl, rfl, rfl, hy0, hy1, hy2⟩ := open_agg3 Tryz.underlying24 (by kernel_rfl) (by kernel_rfl) hv h
  obtain ⟨g, e0, rfl⟩ := DataW.trod_bool Tryz.underlying4 hy0
  obtain ⟨s, e1, rfl, hs⟩ := DataW.trod_string Tryz.underlying22 hy1
  obtain ⟨x, e2, rfl, wx⟩ := DataW.trod_int Tryz.underlying3 hy2
  simp at e0 e1 e2
  subst e0 e1 e2
  exact ⟨g, s, x, rfl, rfl, rfl, hs, wx⟩
set_option maxRecDepth 100000 in
theorem shut_dyad {W' : World} {b : Nat} {sp : Nat → Bool} {hd : Bool} {g : Bool} {s : ByteArray} {x : Int} (hs : s.size ≤ maxLen) (wx : (Lit.int .i64 x).wf = true) :
    DataW.Trod enc Tryz.prog W' b sp hd 24 (.agg #[.bool g, .string s, .int .i64 x]) (dyadD H g s x) [] := by
  simpa [dyadD] using shut_agg3 (enc := enc) (w := W') (base := b) (spare := sp) (held := hd) (y0 := (.lit (.bool g), [])) (y1 := (.lit (.string s.data.toList), [])) (y2 := (.lit (.int .i64 x), [])) Tryz.underlying24 (by kernel_rfl) (by kernel_rfl) ⟨1, by simp [DataW.trod, Tryz.underlying4]⟩ ⟨1, by simp [DataW.trod, Tryz.underlying22, hs]⟩ ⟨1, by simp [DataW.trod, Tryz.underlying3, wx]⟩
end Go.Proofs.YtdfnejpfpkaplaaGreatDoor
namespace Go.Proofs.YtdfnejpfpkaplaaGreatDoor
open Go Go.RowKit
theorem gPowType : (Tryz.prog.globals[5]?).map (·.type) = some 179 := by kernel_rfl
theorem gErrSType : (Tryz.prog.globals[3]?).map (·.type) = some 59 := by kernel_rfl
theorem gErrRType : (Tryz.prog.globals[4]?).map (·.type) = some 59 := by kernel_rfl
theorem cPow : Tryz.prog.cellsOf 179 = 20 := by kernel_rfl
theorem cU64 : Tryz.prog.cellsOf 64 = 1 := by kernel_rfl
theorem cErrS : Tryz.prog.cellsOf 190 = 1 := by kernel_rfl
theorem cStr : Tryz.prog.cellsOf 9 = 1 := by kernel_rfl
theorem star_err : "*" ++ "errors.errorString" = "*errors.errorString" := by decide
theorem row_err (u : TypeId) (h : Tryz.prog.typeName? 3 u = some "*errors.errorString") : u = 188 :=
  typeName_ptr_named (nm := "errors.errorString") (by rw [star_err]; kernel_rfl) (by kernel_rfl) (by decide) u (by rw [star_err]; exact h)
theorem tabPow {W : World} {laid : List (String × DataW Unit)} (hl : laid.filter (fun x => x.1 == "internal/strconv.uint64pow10") = [("internal/strconv.uint64pow10", Rows.laid_internal_strconv_uint64pow10)]) (hL : laidMetH Tryz.prog laid W) : Lib.TabIs Tryz.prog W "internal/strconv.uint64pow10" .u64 Lib.pow10Tab := by
  have h := hL.filter (fun x => x.1 == "internal/strconv.uint64pow10")
  rw [hl] at h
  exact Lib.tabIs_of_head (rest := []) gPow10 gPowType Tryz.underlying179 Tryz.underlying64 cU64 cPow h
theorem errS_of {W : World} {laid : List (String × DataW Unit)} (hl : laid.filter (fun x => x.1 == "strconv.ErrSyntax") = [("strconv.ErrSyntax", Rows.laid_strconv_ErrSyntax)]) (hL : laidMetH Tryz.prog laid W) : ∃ te pe, W.var? Tryz.prog "strconv.ErrSyntax" = some #[.iface te pe] := by
  have h := hL.filter (fun x => x.1 == "strconv.ErrSyntax")
  rw [hl] at h
  obtain ⟨a, s, hv, -, -, -⟩ := laid_sentinel (r := []) h gErrS gErrSType Tryz.underlying59 row_err Tryz.underlying188 Tryz.underlying190 rfl rfl Tryz.underlying9 cErrS cStr
  exact ⟨_, _, hv⟩
theorem errR_of {W : World} {laid : List (String × DataW Unit)} (hl : laid.filter (fun x => x.1 == "strconv.ErrRange") = [("strconv.ErrRange", Rows.laid_strconv_ErrRange)]) (hL : laidMetH Tryz.prog laid W) : ∃ te pe, W.var? Tryz.prog "strconv.ErrRange" = some #[.iface te pe] := by
  have h := hL.filter (fun x => x.1 == "strconv.ErrRange")
  rw [hl] at h
  obtain ⟨a, s, hv, -, -, -⟩ := laid_sentinel (r := []) h gErrR gErrRType Tryz.underlying59 row_err Tryz.underlying188 Tryz.underlying190 rfl rfl Tryz.underlying9 cErrS cStr
  exact ⟨_, _, hv⟩
theorem tabT_of {W : World} {laid : List (String × DataW Unit)} (k1 : laid.filter (fun x => x.1 == "math/bits.deBruijn64tab") = [("math/bits.deBruijn64tab", Rows.laid_math_bits_deBruijn64tab)]) (k2 : laid.filter (fun x => x.1 == "internal/strconv.uint64pow10") = [("internal/strconv.uint64pow10", Rows.laid_internal_strconv_uint64pow10)]) (k3 : laid.filter (fun x => x.1 == "strconv.ErrSyntax") = [("strconv.ErrSyntax", Rows.laid_strconv_ErrSyntax)]) (k4 : laid.filter (fun x => x.1 == "strconv.ErrRange") = [("strconv.ErrRange", Rows.laid_strconv_ErrRange)]) (hL : laidMetH Tryz.prog laid W) : TabT W := by
  have h0 := globs_of k1 hL
  have h2 := tabPow k2 hL
  have c2 := h2.cell gPow10 0 (by decide)
  obtain ⟨te, pe, h3⟩ := errS_of k3 hL
  obtain ⟨tr, pr, h4⟩ := errR_of k4 hL
  have c3 := World.var?_cell gErrS h3 0
  have c4 := World.var?_cell gErrR h4 0
  exact ⟨h0, ⟨h2, size_of_cell c2⟩, ⟨⟨te, pe, h3⟩, size_of_cell (by simpa using c3)⟩, ⟨tr, pr, h4⟩, size_of_cell (by simpa using c4)⟩
end Go.Proofs.YtdfnejpfpkaplaaGreatDoor
namespace Go.Proofs.YtdfnejpfpkaplaaGreatDoor
open Go Go.RowKit
@[irreducible] def allB (l : List Int) : Bool := decide (∀ t ∈ l, t = 0)
theorem allB_ok {l : List Int} (h : ∀ t ∈ l, t = 0) : allB l = true := by unfold allB; exact decide_eq_true h
theorem allB_no {l : List Int} {t : Int} (h : t ∈ l) (hn : ¬ t = 0) : allB l = false := by unfold allB; exact decide_eq_false (fun c => hn (c t h))
def Ers (w : World) (A : Nat) (l : List Int) : Prop := A < w.heap.size ∧ ∀ j (h : j < l.length), w.cell? ⟨A, j, none⟩ = some (.int .i64 l[j])
theorem Ers.below {w w' : World} {A : Nat} {l : List Int} (h : Ers w A l) (hb : Below w.heap.size w w') : Ers w' A l :=
  ⟨Nat.lt_of_lt_of_le h.1 hb.size, fun j hj => (hb.cell (p := ⟨A, j, none⟩) h.1).trans (h.2 j hj)⟩
section
variable [Env]
end
end Go.Proofs.YtdfnejpfpkaplaaGreatDoor
namespace Go.Proofs.YtdfnejpfpkaplaaGreatDoor
open Go Go.RowKit Nt
end Go.Proofs.YtdfnejpfpkaplaaGreatDoor
namespace Go.Proofs.YtdfnejpfpkaplaaGreatDoor
open Go Go.RowKit Nt
structure Gs where
  re : Dy
  im : Dy
def Gs.v (a : Gs) : Value := .agg #[.bool a.re.g, .string (natS a.re.n), .int .i64 a.re.x, .bool a.im.g, .string (natS a.im.n), .int .i64 a.im.x]
def Gs.zero : Gs := ⟨Dy.zero, Dy.zero⟩
theorem Gs.zero_v : Gs.zero.v = .agg #[.bool false, .string ⟨#[]⟩, .int .i64 0, .bool false, .string ⟨#[]⟩, .int .i64 0] := by
  show Value.agg #[.bool false, .string (natS 0), .int .i64 0, .bool false, .string (natS 0), .int .i64 0] = _
  rw [natS_zero]
def Gs.Ok (a : Gs) : Prop := a.re.Ok ∧ a.im.Ok
theorem Gs.zero_Ok : Gs.zero.Ok := ⟨Or.inl rfl, Or.inl rfl⟩
structure Gt where
  re : Dt
  im : Dt
def Gt.v (a : Gt) : Value := .agg #[.bool a.re.g, .string a.re.s, .int .i64 a.re.x, .bool a.im.g, .string a.im.s, .int .i64 a.im.x]
def Dt.zero : Dt := ⟨false, ⟨#[]⟩, 0⟩
theorem Dt.zero_v : Dt.zero.v = .agg #[.bool false, .string ⟨#[]⟩, .int .i64 0] := rfl
theorem Dt.zero_Ok : Dt.zero.Ok := Or.inl ⟨rfl, rfl, rfl⟩
def Gt.zero : Gt := ⟨Dt.zero, Dt.zero⟩
theorem Gt.zero_v : Gt.zero.v = .agg #[.bool false, .string ⟨#[]⟩, .int .i64 0, .bool false, .string ⟨#[]⟩, .int .i64 0] := rfl
def Gt.Ok (a : Gt) : Prop := a.re.Ok ∧ a.im.Ok
def Gt.Small (a : Gt) : Prop := a.re.s.size ≤ 9223372036854775807 ∧ a.im.s.size ≤ 9223372036854775807
def Gs.t (a : Gs) : Gt := ⟨a.re.t, a.im.t⟩
theorem Gs.ok_t {a : Gs} (h : a.Ok) : a.t.Ok := ⟨Dy.ok_t h.1, Dy.ok_t h.2⟩
theorem Gt.gs {a : Gt} (h : a.Ok) : ∃ d : Gs, d.Ok ∧ a = d.t := by
  obtain ⟨r, i⟩ := a
  obtain ⟨x, h1, h2⟩ := Dt.dy h.1
  obtain ⟨y, h3, h4⟩ := Dt.dy h.2
  simp only at h2 h4
  exact ⟨⟨x, y⟩, ⟨h1, h3⟩, by rw [h2, h4]; rfl⟩
open Classical in
@[irreducible] noncomputable def gE (a : Gt) : Int := if a.Ok then 0 else 2
theorem gE_ok {a : Gt} (h : a.Ok) : gE a = 0 := by unfold gE; rw [if_pos h]
theorem gE_no {a : Gt} (h : ¬ a.Ok) : gE a = 2 := by unfold gE; rw [if_neg h]
theorem dE1 {t : Dt} : dE [t] = 0 ↔ t.Ok := by
  constructor
  · intro h
    by_cases hn : t.Ok
    · exact hn
    · rw [dE_no (List.mem_singleton.2 rfl) hn] at h; cases h
  · intro h
    exact dE_ok fun u hu => by rw [List.mem_singleton.1 hu]; exact h
theorem eqG_run {g g' k k' : Bool} {s s' r r' : ByteArray} {x x' y y' : Int} {c : Bool} (h : c = true ↔ ((g = g' ∧ s = s' ∧ x = x') ∧ (k = k' ∧ r = r' ∧ y = y'))) (p q : Operand) (w : World) : (do eqGuard .eql 38 p q (.agg #[.bool g, .string s, .int .i64 x, .bool k, .string r, .int .i64 y]) (.agg #[.bool g', .string s', .int .i64 x', .bool k', .string r', .int .i64 y']); binOp .eql 38 (.agg #[.bool g, .string s, .int .i64 x, .bool k, .string r, .int .i64 y]) (.agg #[.bool g', .string s', .int .i64 x', .bool k', .string r', .int .i64 y'])).run Tryz.prog w = .ok (.bool c) w := by
  have hs : s.toList = s'.toList ↔ s = s' := ⟨str_inj, fun h => by rw [h]⟩
  have hr : r.toList = r'.toList ↔ r = r' := ⟨str_inj, fun h => by rw [h]⟩
  go_simp
  cases c with
  | true =>
    obtain ⟨⟨rfl, rfl, rfl⟩, rfl, rfl, rfl⟩ := h.1 rfl
    simp
  | false =>
    have hn : ¬ ((g = g' ∧ s = s' ∧ x = x') ∧ (k = k' ∧ r = r' ∧ y = y')) := fun e => Bool.false_ne_true (h.2 e)
    repeat' split
    all_goals first
      | rfl
      | exact absurd ⟨⟨by assumption, by assumption, by assumption⟩, by assumption, by assumption, by assumption⟩ hn
theorem Gs.ext_iff' {a b : Gs} : ((a.re.g = b.re.g ∧ natS a.re.n = natS b.re.n ∧ a.re.x = b.re.x) ∧ (a.im.g = b.im.g ∧ natS a.im.n = natS b.im.n ∧ a.im.x = b.im.x)) ↔ a = b := by
  rw [Dy.ext_iff', Dy.ext_iff']
  obtain ⟨r, i⟩ := a
  obtain ⟨r', i'⟩ := b
  simp
theorem Dt.ext_iff' {a b : Dt} : (a.g = b.g ∧ a.s = b.s ∧ a.x = b.x) ↔ a = b := by
  obtain ⟨g, n, x⟩ := a
  obtain ⟨g', n', x'⟩ := b
  simp
theorem Gt.ext_iff' {a b : Gt} : ((a.re.g = b.re.g ∧ a.re.s = b.re.s ∧ a.re.x = b.re.x) ∧ (a.im.g = b.im.g ∧ a.im.s = b.im.s ∧ a.im.x = b.im.x)) ↔ a = b := by
  rw [Dt.ext_iff', Dt.ext_iff']
  obtain ⟨r, i⟩ := a
  obtain ⟨r', i'⟩ := b
  simp
section
variable [Env]
theorem optU_eql_t {A B : AV} {a b : Gt} (ha : gval A = a.v) (hb : gval B = b.v) (h : a = b) : OpT Tryz.prog [0, 11, 38] [A, B] (.lit (.bool true)) :=
  opt_bin (op := .eql) rfl fun p q w => by rw [ha, hb]; exact eqG_run (c := true) ⟨fun _ => Gt.ext_iff'.2 h, fun _ => rfl⟩ p q w
theorem optU_eql_f {A B : AV} {a b : Gt} (ha : gval A = a.v) (hb : gval B = b.v) (h : ¬ a = b) : OpT Tryz.prog [0, 11, 38] [A, B] (.lit (.bool false)) :=
  opt_bin (op := .eql) rfl fun p q w => by rw [ha, hb]; exact eqG_run (c := false) ⟨(fun c => by cases c), fun c => absurd (Gt.ext_iff'.1 c) h⟩ p q w
end
end Go.Proofs.YtdfnejpfpkaplaaGreatDoor
namespace Go.Proofs.YtdfnejpfpkaplaaGreatDoor
open Go Go.RowKit Nt
def All0 : List Int → Prop
  | [] => True
  | t :: l => t = 0 ∧ All0 l
instance All0.dec : ∀ l, Decidable (All0 l)
  | [] => .isTrue trivial
  | t :: l => @instDecidableAnd _ _ _ (All0.dec l)
end Go.Proofs.YtdfnejpfpkaplaaGreatDoor
namespace Go.Proofs.YtdfnejpfpkaplaaGreatDoor
open Go Go.RowKit Nt
@[reducible] noncomputable def GCheck_c_k1 : Know := ⟨[([0, 11, 38], [.agg [.sym 0, .sym 1, .sym 2, .sym 3, .sym 4, .sym 5], .lit (.agg #[.bool false, .string ⟨#[]⟩, .int .i64 0, .bool false, .string ⟨#[]⟩, .int .i64 0])], .lit (.bool true))],
  []⟩
theorem GCheck_c_r1 : @comes GCheck_c_k1 Tryz.prog glT 3000 21 [.agg [.sym 0, .sym 1, .sym 2, .sym 3, .sym 4, .sym 5]] = some (.lit (.int .i64 0)) := by kernel_rfl
@[reducible] noncomputable def GCheck_c_k2 : Know := ⟨[([0, 11, 38], [.agg [.sym 0, .sym 1, .sym 2, .sym 3, .sym 4, .sym 5], .lit (.agg #[.bool false, .string ⟨#[]⟩, .int .i64 0, .bool false, .string ⟨#[]⟩, .int .i64 0])], .lit (.bool false)),
  ([0, 12, 25], [.sym 6, .lit (.int .i64 0)], .lit (.bool false)),
  ([0, 12, 25], [.sym 7, .lit (.int .i64 0)], .lit (.bool false))],
  [(13, [.agg [.sym 0, .sym 1, .sym 2]], .sym 6),
  (13, [.agg [.sym 3, .sym 4, .sym 5]], .sym 7)]⟩
theorem GCheck_c_r2 : @comes GCheck_c_k2 Tryz.prog glT 3000 21 [.agg [.sym 0, .sym 1, .sym 2, .sym 3, .sym 4, .sym 5]] = some (.lit (.int .i64 0)) := by kernel_rfl
@[reducible] noncomputable def GCheck_c_k3 : Know := ⟨[([0, 11, 38], [.agg [.sym 0, .sym 1, .sym 2, .sym 3, .sym 4, .sym 5], .lit (.agg #[.bool false, .string ⟨#[]⟩, .int .i64 0, .bool false, .string ⟨#[]⟩, .int .i64 0])], .lit (.bool false)),
  ([0, 12, 25], [.sym 6, .lit (.int .i64 0)], .lit (.bool false)),
  ([0, 12, 25], [.sym 7, .lit (.int .i64 0)], .lit (.bool true))],
  [(13, [.agg [.sym 0, .sym 1, .sym 2]], .sym 6),
  (13, [.agg [.sym 3, .sym 4, .sym 5]], .sym 7)]⟩
theorem GCheck_c_r3 : @comes GCheck_c_k3 Tryz.prog glT 3000 21 [.agg [.sym 0, .sym 1, .sym 2, .sym 3, .sym 4, .sym 5]] = some (.lit (.int .i64 2)) := by kernel_rfl
@[reducible] noncomputable def GCheck_c_k4 : Know := ⟨[([0, 11, 38], [.agg [.sym 0, .sym 1, .sym 2, .sym 3, .sym 4, .sym 5], .lit (.agg #[.bool false, .string ⟨#[]⟩, .int .i64 0, .bool false, .string ⟨#[]⟩, .int .i64 0])], .lit (.bool false)),
  ([0, 12, 25], [.sym 6, .lit (.int .i64 0)], .lit (.bool true))],
  [(13, [.agg [.sym 0, .sym 1, .sym 2]], .sym 6)]⟩
theorem GCheck_c_r4 : @comes GCheck_c_k4 Tryz.prog glT 3000 21 [.agg [.sym 0, .sym 1, .sym 2, .sym 3, .sym 4, .sym 5]] = some (.lit (.int .i64 2)) := by kernel_rfl
set_option maxRecDepth 100000 in
theorem GCheck_c (a : Gt) (w : World) (hre : a.re.s.size ≤ 9223372036854775807) (him : a.im.s.size ≤ 9223372036854775807) (hG : Globs glT w) : Calls Tryz.prog 21 #[.agg #[.bool a.re.g, .string a.re.s, .int .i64 a.re.x, .bool a.im.g, .string a.im.s, .int .i64 a.im.x]] w fun e w' => e = .returned (.int .i64 (gE a)) ∧ Below w.heap.size w w' := by
  by_cases h1 : a = Gt.zero
  · letI : Env := mkEnv glT [.bool a.re.g, .string a.re.s, .int .i64 a.re.x, .bool a.im.g, .string a.im.s, .int .i64 a.im.x] rfl
    have hops : OpsT Tryz.prog (@Know.ops GCheck_c_k1) := ⟨optU_eql_t (a := a) (b := Gt.zero) rfl Gt.zero_v.symm h1, trivial⟩
    have hcalls : CallsT Tryz.prog (@Know.calls GCheck_c_k1) := trivial
    exact (@sym_ok _ GCheck_c_k1 _ (@KnowOk.of _ GCheck_c_k1 _ hops hcalls) (by kernel_rfl) _ _ _ _ GCheck_c_r1 rfl rfl _ hG).mono fun e w' h => ⟨h.1.trans (show Ending.returned (.int .i64 0) = .returned (.int .i64 (gE a)) from by rw [gE_ok (show a.Ok from h1 ▸ ⟨Dt.zero_Ok, Dt.zero_Ok⟩)]), h.2⟩
  · by_cases h2 : dE [a.re] = 0
    · by_cases h3 : dE [a.im] = 0
      · letI : Env := mkEnv glT [.bool a.re.g, .string a.re.s, .int .i64 a.re.x, .bool a.im.g, .string a.im.s, .int .i64 a.im.x, .int .i64 (dE [a.re]), .int .i64 (dE [a.im])] rfl
        have hops : OpsT Tryz.prog (@Know.ops GCheck_c_k2) := ⟨optU_eql_f (a := a) (b := Gt.zero) rfl Gt.zero_v.symm h1, opt_neq_f rfl rfl h2, opt_neq_f rfl rfl h3, trivial⟩
        have hcalls : CallsT Tryz.prog (@Know.calls GCheck_c_k2) := ⟨callt rfl rfl fun w hG => DCheck_c a.re w hre, callt rfl rfl fun w hG => DCheck_c a.im w him, trivial⟩
        exact (@sym_ok _ GCheck_c_k2 _ (@KnowOk.of _ GCheck_c_k2 _ hops hcalls) (by kernel_rfl) _ _ _ _ GCheck_c_r2 rfl rfl _ hG).mono fun e w' h => ⟨h.1.trans (show Ending.returned (.int .i64 0) = .returned (.int .i64 (gE a)) from by rw [gE_ok ⟨dE1.1 h2, dE1.1 h3⟩]), h.2⟩
      · letI : Env := mkEnv glT [.bool a.re.g, .string a.re.s, .int .i64 a.re.x, .bool a.im.g, .string a.im.s, .int .i64 a.im.x, .int .i64 (dE [a.re]), .int .i64 (dE [a.im])] rfl
        have hops : OpsT Tryz.prog (@Know.ops GCheck_c_k3) := ⟨optU_eql_f (a := a) (b := Gt.zero) rfl Gt.zero_v.symm h1, opt_neq_f rfl rfl h2, opt_neq_t rfl rfl h3, trivial⟩
        have hcalls : CallsT Tryz.prog (@Know.calls GCheck_c_k3) := ⟨callt rfl rfl fun w hG => DCheck_c a.re w hre, callt rfl rfl fun w hG => DCheck_c a.im w him, trivial⟩
        exact (@sym_ok _ GCheck_c_k3 _ (@KnowOk.of _ GCheck_c_k3 _ hops hcalls) (by kernel_rfl) _ _ _ _ GCheck_c_r3 rfl rfl _ hG).mono fun e w' h => ⟨h.1.trans (show Ending.returned (.int .i64 2) = .returned (.int .i64 (gE a)) from by rw [gE_no (fun c => h3 (dE1.2 c.2))]), h.2⟩
    · letI : Env := mkEnv glT [.bool a.re.g, .string a.re.s, .int .i64 a.re.x, .bool a.im.g, .string a.im.s, .int .i64 a.im.x, .int .i64 (dE [a.re])] rfl
      have hops : OpsT Tryz.prog (@Know.ops GCheck_c_k4) := ⟨optU_eql_f (a := a) (b := Gt.zero) rfl Gt.zero_v.symm h1, opt_neq_t rfl rfl h2, trivial⟩
      have hcalls : CallsT Tryz.prog (@Know.calls GCheck_c_k4) := ⟨callt rfl rfl fun w hG => DCheck_c a.re w hre, trivial⟩
      exact (@sym_ok _ GCheck_c_k4 _ (@KnowOk.of _ GCheck_c_k4 _ hops hcalls) (by kernel_rfl) _ _ _ _ GCheck_c_r4 rfl rfl _ hG).mono fun e w' h => ⟨h.1.trans (show Ending.returned (.int .i64 2) = .returned (.int .i64 (gE a)) from by rw [gE_no (fun c => h2 (dE1.2 c.1))]), h.2⟩
theorem GCheck_no (a : Gt) (hs : a.Small) (hn : ¬ a.Ok) (w : World) (hG : Globs glT w) : Calls Tryz.prog 21 #[.agg #[.bool a.re.g, .string a.re.s, .int .i64 a.re.x, .bool a.im.g, .string a.im.s, .int .i64 a.im.x]] w fun e w' => e = .returned (.int .i64 2) ∧ Below w.heap.size w w' := by
  have h := GCheck_c a w hs.1 hs.2 hG
  rwa [gE_no hn] at h
end Go.Proofs.YtdfnejpfpkaplaaGreatDoor
namespace Go.Proofs.YtdfnejpfpkaplaaGreatDoor
open Go Go.RowKit Nt
def B6 (w : World) (B : Nat) (a : Gt) : Prop := Blk w B 38 #[.bool a.re.g, .string a.re.s, .int .i64 a.re.x, .bool a.im.g, .string a.im.s, .int .i64 a.im.x]
theorem B6.facts {w : World} {B : Nat} {a : Gt} (h : B6 w B a) : B < w.heap.size ∧ w.cell? ⟨B, 0, none⟩ = some (.bool a.re.g) ∧ w.cell? ⟨B, 1, none⟩ = some (.string a.re.s) ∧ w.cell? ⟨B, 2, none⟩ = some (.int .i64 a.re.x) ∧ w.cell? ⟨B, 3, none⟩ = some (.bool a.im.g) ∧ w.cell? ⟨B, 4, none⟩ = some (.string a.im.s) ∧ w.cell? ⟨B, 5, none⟩ = some (.int .i64 a.im.x) ∧ w.frozen? ⟨B, 0, none⟩ = false ∧ w.frozen? ⟨B, 1, none⟩ = false ∧ w.frozen? ⟨B, 2, none⟩ = false ∧ w.frozen? ⟨B, 3, none⟩ = false ∧ w.frozen? ⟨B, 4, none⟩ = false ∧ w.frozen? ⟨B, 5, none⟩ = false :=
  ⟨Blk.lt h, (Blk.cell h 0).trans rfl, (Blk.cell h 1).trans rfl, (Blk.cell h 2).trans rfl, (Blk.cell h 3).trans rfl, (Blk.cell h 4).trans rfl, (Blk.cell h 5).trans rfl, Blk.frozen h 0, Blk.frozen h 1, Blk.frozen h 2, Blk.frozen h 3, Blk.frozen h 4, Blk.frozen h 5⟩
def GB (w : World) (a : Gt) (W : World) : Prop := Below w.heap.size w W ∧ B6 W w.heap.size a
theorem GB.start (w : World) (a : Gt) : GB w a (w.alloc (.cells #[.bool a.re.g, .string a.re.s, .int .i64 a.re.x, .bool a.im.g, .string a.im.s, .int .i64 a.im.x] 38)) := ⟨(Below.refl _ _).alloc (Nat.le_refl _) _, Blk.new w _ _⟩
theorem GB.step {w : World} {a : Gt} {W W' : World} (h : GB w a W) (hb : Below W.heap.size W W') : GB w a W' := ⟨below_then h.1 hb, Blk.below h.2 hb (Blk.lt h.2)⟩
theorem GB.more {w : World} {a : Gt} {W : World} (h : GB w a W) (o : Obj) : GB w a (W.alloc o) := h.step ((Below.refl _ _).alloc (Nat.le_refl _) _)
theorem below_put6 {n : Nat} {w W : World} {A : Nat} (hb : Below n w W) (hA : n ≤ A) (a b c d e f : Value) : Below n w ((((((W.setCell ⟨A, 0, none⟩ a).setCell ⟨A, 1, none⟩ b).setCell ⟨A, 2, none⟩ c).setCell ⟨A, 3, none⟩ d).setCell ⟨A, 4, none⟩ e).setCell ⟨A, 5, none⟩ f) :=
  (((((hb.setCell (p := ⟨A, 0, none⟩) hA a).setCell (p := ⟨A, 1, none⟩) hA b).setCell (p := ⟨A, 2, none⟩) hA c).setCell (p := ⟨A, 3, none⟩) hA d).setCell (p := ⟨A, 4, none⟩) hA e).setCell (p := ⟨A, 5, none⟩) hA f
@[irreducible] noncomputable def shG (a : Gt) : ByteArray := shT a.re ++ ⟨#[44]⟩ ++ shT a.im
theorem shG_def (a : Gt) : shG a = shT a.re ++ ⟨#[44]⟩ ++ shT a.im := by unfold shG; rfl
theorem shT_small {a : Dt} (h : a.Ok) : (shT a).size ≤ 50000 := by
  obtain ⟨g, s, x⟩ := a
  rcases h with ⟨rfl, rfl, rfl⟩ | ⟨n, hf, ho, rfl, h1, h2⟩
  · rw [shT_zero]; decide
  · rw [shT_num (odd_ne ho)]
    replace h1 : -1048576 ≤ x := h1
    replace h2 : x ≤ 1048576 := h2
    have s1 := dec_sz hf
    have s2 := iS_size x (by omega) (by omega)
    have e45 : (ByteArray.mk #[45]).size = 1 := rfl
    have e112 : (ByteArray.mk #[112]).size = 1 := rfl
    by_cases hg : g = true
    · rw [txD_t hg, ByteArray.size_append, ByteArray.size_append, ByteArray.size_append]; omega
    · rw [txD_f hg, ByteArray.size_append, ByteArray.size_append]; omega
theorem rMayT_c (a : Dt) (w : World) (hs : a.s.size ≤ 9223372036854775807) (m : Bool) (hm : m = true ↔ a.Ok) : Calls Tryz.prog 10 #[.agg #[.bool a.g, .string a.s, .int .i64 a.x]] w fun e w' => e = .returned (.bool m) ∧ Below w.heap.size w w' := by
  cases m with
  | true =>
    obtain ⟨d, hd, e⟩ := Dt.dy (hm.1 rfl)
    have e1 : a.g = d.g := congrArg Dt.g e
    have e2 : a.s = natS d.n := congrArg Dt.s e
    have e3 : a.x = d.x := congrArg Dt.x e
    rw [e1, e2, e3]; exact rMayT_ok d w hd
  | false => exact rMay3_bad _ _ _ w hs (fun c => Bool.false_ne_true (hm.2 c))
set_option maxRecDepth 100000 in
set_option maxHeartbeats 4000000 in
theorem rMay6_c (a : Gt) (w : World) (hs : a.Small) (m k : Bool) (hm : m = true ↔ a.re.Ok) (hk : k = true ↔ a.im.Ok) : Calls Tryz.prog 18 #[.agg #[.bool a.re.g, .string a.re.s, .int .i64 a.re.x, .bool a.im.g, .string a.im.s, .int .i64 a.im.x]] w fun e w' => e = .returned (.bool (m && k)) ∧ Below w.heap.size w w' := by
  have K1 := Lib.hid (fun w => rMayT_c a.re w hs.1 m hm)
  have K2 := Lib.hid (fun w => rMayT_c a.im w hs.2 k hk)
  have T0 := GB.start w a
  obtain ⟨r0, r1, r2, r3, r4, r5, r6, r7, r8, r9, r10, r11, r12⟩ := T0.2.facts
  clear hm hk hs
  cases m
  · go_enter Tryz.func18, Tryz.ntmps18
    go_wp2_with (first | (go_at_call 10; (with_reducible refine (K1.out _).mono ?_); rintro ee w1 ⟨rfl, hb⟩; replace T0 := T0.step hb; clear hb r0 r1 r2 r3 r4 r5 r6 r7 r8 r9 r10 r11 r12; obtain ⟨r0, r1, r2, r3, r4, r5, r6, r7, r8, r9, r10, r11, r12⟩ := T0.2.facts))
    go_ret
    exact ⟨rfl, T0.1⟩
  · go_enter Tryz.func18, Tryz.ntmps18
    go_wp2_with (first | (go_at_call 10; (with_reducible refine (K1.out _).mono ?_); rintro ee w1 ⟨rfl, hb⟩; replace T0 := T0.step hb; clear hb r0 r1 r2 r3 r4 r5 r6 r7 r8 r9 r10 r11 r12; obtain ⟨r0, r1, r2, r3, r4, r5, r6, r7, r8, r9, r10, r11, r12⟩ := T0.2.facts) | (go_at_call 10; (with_reducible refine (K2.out _).mono ?_); rintro ee w1 ⟨rfl, hb⟩; replace T0 := T0.step hb; clear hb r0 r1 r2 r3 r4 r5 r6 r7 r8 r9 r10 r11 r12; obtain ⟨r0, r1, r2, r3, r4, r5, r6, r7, r8, r9, r10, r11, r12⟩ := T0.2.facts))
    go_ret
    exact ⟨rfl, T0.1⟩
set_option maxRecDepth 100000 in
set_option maxHeartbeats 4000000 in
theorem lSame6_c (a : Gt) (x : Int) (w : World) : Calls Tryz.prog 17 #[.agg #[.bool a.re.g, .string a.re.s, .int .i64 a.re.x, .bool a.im.g, .string a.im.s, .int .i64 a.im.x], .int .i64 x, .agg #[.bool a.re.g, .string a.re.s, .int .i64 a.re.x, .bool a.im.g, .string a.im.s, .int .i64 a.im.x], .int .i64 x] w fun e w' => e = .returned (.bool true) ∧ Below w.heap.size w w' := by
  have T0 := (GB.start w a).more (.cells #[.bool a.re.g, .string a.re.s, .int .i64 a.re.x, .bool a.im.g, .string a.im.s, .int .i64 a.im.x] 38)
  have T1 := GB.start (w.alloc (.cells #[.bool a.re.g, .string a.re.s, .int .i64 a.re.x, .bool a.im.g, .string a.im.s, .int .i64 a.im.x] 38)) a
  go_enter Tryz.func17, Tryz.ntmps17
  go_wp2_with fail
  go_ret
  exact ⟨rfl, T0.1⟩
set_option maxRecDepth 100000 in
set_option maxHeartbeats 4000000 in
theorem GShow_bad (a : Gt) (w : World) (hs : a.Small) (hn : ¬ a.Ok) (hG : Globs glT w) : Calls Tryz.prog 14 #[.agg #[.bool a.re.g, .string a.re.s, .int .i64 a.re.x, .bool a.im.g, .string a.im.s, .int .i64 a.im.x]] w fun e w' => e = .returned (.tuple #[.string ⟨#[]⟩, .int .i64 2]) ∧ Below w.heap.size w w' := by
  have K1 : Hid (∀ w, Globs glT w → Calls Tryz.prog 21 #[.agg #[.bool a.re.g, .string a.re.s, .int .i64 a.re.x, .bool a.im.g, .string a.im.s, .int .i64 a.im.x]] w fun e w' => e = .returned (.int .i64 2) ∧ Below w.heap.size w w') := Lib.hid fun w hG => GCheck_no a hs hn w hG
  have T0 := GB.start w a
  obtain ⟨r0, r1, r2, r3, r4, r5, r6, r7, r8, r9, r10, r11, r12⟩ := T0.2.facts
  have HG := Lib.hid hG
  clear hn hs hG
  go_enter Tryz.func14, Tryz.ntmps14
  go_wp2_with (first | (go_at_call 21; (refine (K1.out _ (HG.out.below T0.1 (Nat.le_refl _))).mono ?_); rintro ee w1 ⟨rfl, hb⟩; replace T0 := T0.step hb; clear hb r0 r1 r2 r3 r4 r5 r6 r7 r8 r9 r10 r11 r12; obtain ⟨r0, r1, r2, r3, r4, r5, r6, r7, r8, r9, r10, r11, r12⟩ := T0.2.facts))
  go_ret2
  exact ⟨rfl, T0.1⟩
set_option maxRecDepth 100000 in
set_option maxHeartbeats 4000000 in
theorem GShow_ok (a : Gt) (w : World) (h : a.Ok) (hT : TabT w) : Calls Tryz.prog 14 #[.agg #[.bool a.re.g, .string a.re.s, .int .i64 a.re.x, .bool a.im.g, .string a.im.s, .int .i64 a.im.x]] w fun e w' => e = .returned (.tuple #[.string (shG a), .int .i64 0]) ∧ Below w.heap.size w w' := by
  have K1 : Hid (∀ w, TabT w → Calls Tryz.prog 21 #[.agg #[.bool a.re.g, .string a.re.s, .int .i64 a.re.x, .bool a.im.g, .string a.im.s, .int .i64 a.im.x]] w fun e w' => e = .returned (.int .i64 0) ∧ Below w.heap.size w w') := Lib.hid fun w hT => by
    have := GCheck_c a w (by have := Dt.small h.1; omega) (by have := Dt.small h.2; omega) hT.1
    rwa [gE_ok h] at this
  have K2 : Hid (∀ w, TabT w → Calls Tryz.prog 7 #[.agg #[.bool a.re.g, .string a.re.s, .int .i64 a.re.x]] w fun e w' => e = .returned (.tuple #[.string (shT a.re), .int .i64 0]) ∧ Below w.heap.size w w') := Lib.hid fun w hT => DShow_ok a.re w h.1 hT
  have K3 : Hid (∀ w, TabT w → Calls Tryz.prog 7 #[.agg #[.bool a.im.g, .string a.im.s, .int .i64 a.im.x]] w fun e w' => e = .returned (.tuple #[.string (shT a.im), .int .i64 0]) ∧ Below w.heap.size w w') := Lib.hid fun w hT => DShow_ok a.im w h.2 hT
  have s1 := shT_small h.1
  have s2 := shT_small h.2
  have e44 : (ByteArray.mk #[44]).size = 1 := rfl
  have s3 : (shT a.re ++ ⟨#[44]⟩).size ≤ 50001 := by rw [ByteArray.size_append]; omega
  have T0 := GB.start w a
  obtain ⟨r0, r1, r2, r3, r4, r5, r6, r7, r8, r9, r10, r11, r12⟩ := T0.2.facts
  have HT := Lib.hid hT
  rw [shG_def]
  clear h hT
  generalize shT a.re = A at *
  generalize shT a.im = B at *
  go_enter Tryz.func14, Tryz.ntmps14
  go_wp2_with (first | (go_at_call 21; have HK := K1.out _ (HT.out.below T0.1); (with_reducible refine HK.mono ?_); clear HK; rintro ee w1 ⟨rfl, hb⟩; replace T0 := T0.step hb; clear hb r0 r1 r2 r3 r4 r5 r6 r7 r8 r9 r10 r11 r12; obtain ⟨r0, r1, r2, r3, r4, r5, r6, r7, r8, r9, r10, r11, r12⟩ := T0.2.facts) | (go_at_call 7; have HK := K2.out _ (HT.out.below T0.1); (with_reducible refine HK.mono ?_); clear HK; rintro ee w1 ⟨rfl, hb⟩; replace T0 := T0.step hb; clear hb r0 r1 r2 r3 r4 r5 r6 r7 r8 r9 r10 r11 r12; obtain ⟨r0, r1, r2, r3, r4, r5, r6, r7, r8, r9, r10, r11, r12⟩ := T0.2.facts) | (go_at_call 7; have HK := K3.out _ (HT.out.below T0.1); (with_reducible refine HK.mono ?_); clear HK; rintro ee w1 ⟨rfl, hb⟩; replace T0 := T0.step hb; clear hb r0 r1 r2 r3 r4 r5 r6 r7 r8 r9 r10 r11 r12; obtain ⟨r0, r1, r2, r3, r4, r5, r6, r7, r8, r9, r10, r11, r12⟩ := T0.2.facts))
  go_ret2
  exact ⟨rfl, T0.1⟩
set_option maxRecDepth 100000 in
set_option maxHeartbeats 4000000 in
theorem rShow6_ok (a : Gt) (w : World) (h : a.Ok) : Calls Tryz.prog 20 #[.agg #[.bool a.re.g, .string a.re.s, .int .i64 a.re.x, .bool a.im.g, .string a.im.s, .int .i64 a.im.x]] w fun e w' => e = .returned (.string (shG a)) ∧ Below w.heap.size w w' := by
  have K2 : Hid (∀ w, Calls Tryz.prog 12 #[.agg #[.bool a.re.g, .string a.re.s, .int .i64 a.re.x]] w fun e w' => e = .returned (.string (shT a.re)) ∧ Below w.heap.size w w') := Lib.hid fun w => rShow3_ok a.re w h.1
  have K3 : Hid (∀ w, Calls Tryz.prog 12 #[.agg #[.bool a.im.g, .string a.im.s, .int .i64 a.im.x]] w fun e w' => e = .returned (.string (shT a.im)) ∧ Below w.heap.size w w') := Lib.hid fun w => rShow3_ok a.im w h.2
  have s1 := shT_small h.1
  have s2 := shT_small h.2
  have e44 : (ByteArray.mk #[44]).size = 1 := rfl
  have g1 : ¬ 9223372036854775807 < (shT a.re).size + 1 := by omega
  have g2 : ¬ 9223372036854775807 < (shT a.re).size + 1 + (shT a.im).size := by omega
  rw [shG_def]
  clear h
  generalize shT a.re = A at *
  generalize shT a.im = B at *
  have T0 := GB.start w a
  go_enter Tryz.func20, Tryz.ntmps20
  go_upto_region 1 with fail
  generalize w.alloc (.cells #[.bool a.re.g, .string a.re.s, .int .i64 a.re.x, .bool a.im.g, .string a.im.s, .int .i64 a.im.x] 38) = W at *
  have S0 : StI W W := Below.refl _ _
  have L0 := fun U (s : StI W U) => (T0.step s).2.facts.2.1
  have L1 := fun U (s : StI W U) => (T0.step s).2.facts.2.2.1
  have L2 := fun U (s : StI W U) => (T0.step s).2.facts.2.2.2.1
  have L3 := fun U (s : StI W U) => (T0.step s).2.facts.2.2.2.2.1
  have L4 := fun U (s : StI W U) => (T0.step s).2.facts.2.2.2.2.2.1
  have L5 := fun U (s : StI W U) => (T0.step s).2.facts.2.2.2.2.2.2.1
  go_region_held3 (StI W) (first | assumption | exact StI.step (by assumption) (by assumption) | exact StI.drew (by assumption) | exact StI.drawn (by assumption) _)
    (first
      | (go_at_call 12; (with_reducible refine (K2.out _).mono ?_); rintro e w1 ⟨rfl, hb1⟩)
      | (go_at_call 12; (with_reducible refine (K3.out _).mono ?_); rintro e w2 ⟨rfl, hb2⟩))
  rename_i hHeld
  replace T0 := T0.step hHeld
  clear L0 L1 L2 L3 L4 L5 hb1 hb2 hHeld S0
  go_wp2_with fail
  go_ret
  exact ⟨rfl, T0.1⟩
end Go.Proofs.YtdfnejpfpkaplaaGreatDoor
