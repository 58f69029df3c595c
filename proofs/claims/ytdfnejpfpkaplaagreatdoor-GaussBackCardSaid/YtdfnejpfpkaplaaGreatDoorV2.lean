/- Texts put together: N30 It1 Shelf2 N43 N37 N39 N41of N44 N45 N79 N80 N81 Ev1. -/
import Derived.Test.YtdfnejpfpkaplaaGreatDoorV1
import Derived.Lib.AtoiAllCases
import Derived.Lib.ItoaNum
import Derived.Shelf.Small.Bits
import Derived.Shelf.Small.Wraps
import Derived.Shelf.Strconv.Atoi
import Derived.Shelf.Strconv.Itoa0
import Derived.Shelf.Strconv.Itoa1
import Derived.Shelf.LaysM
import Derived.Shelf.Strconv.Itoa2
import Derived.Shelf.Strconv.Itoa3
import Derived.Shelf.Strconv.AtoiErrFast
import Derived.Shelf.Strconv.ParseIntEmpty
import Derived.Shelf.Strconv.AtoiFail
import Derived.Shelf.Strconv.Clone
import Derived.Shelf.Strconv.SyntaxError
import Derived.Shelf.LaysC
import Derived.Shelf.Strconv.ToError
import Derived.Shelf.Strconv.Lower
import Derived.Shelf.Strconv.ParseUint10
import Derived.Shelf.Strconv.ParseUint10Empty
import Derived.Shelf.Strconv.ParseUint10Any
import Derived.Shelf.Strconv.ParseInt10
import Derived.Shelf.Strconv.AtoiLong
import Derived.Shelf.Strconv.AtoiInnerAll
import Derived.Shelf.Strconv.RangeError
import Derived.Shelf.Strconv.ToErrorRange
import Derived.Shelf.Strconv.AtoiAll
import Derived.Shelf.Strconv.ErrVarAll
import Derived.Shelf.Strconv.ParseUintEmpty
import Derived.Shelf.Strconv.ParseUint10b64
import Derived.Shelf.Strconv.ParseUint10b32
import Derived.Shelf.Strconv.ParseUint10b16
import Derived.Shelf.Strconv.ParseUint10b8
import Derived.Shelf.Strconv.ParseUint10At
import Derived.Shelf.Strconv.ParseInt10At64
import Derived.Shelf.Strconv.ParseInt10At32
import Derived.Shelf.Strconv.ParseInt10At16
import Derived.Shelf.Strconv.ParseInt10At8
import Derived.Shelf.Strconv.ParseInt10All
import Derived.Shelf.Strings.Search1
import Derived.Shelf.Strings.Search2
import Derived.Shelf.Strings.Cut
import Derived.Shelf.Strings.Shaped
import Derived.Shelf.Strings.Prefix
import Derived.Shelf.Bits.Mul64
import Derived.Test.YtdfnejpfpkaplaaGreatDoorProg
import Derived.Deep.Quiet
import Derived.Deep.MidRow
import Derived.Below
import Derived.Scope
set_option linter.unusedSimpArgs false
set_option linter.unusedVariables false
namespace Go.Proofs.YtdfnejpfpkaplaaGreatDoor
open Go Go.RowKit Nt
def dlen (n : Nat) : Nat := if n = 0 then 1 else nd 10 n
theorem dlen_lt (n : Nat) : n < 10 ^ dlen n := by
  unfold dlen; split
  · rename_i h; subst h; decide
  · exact lt_nd (by omega)
theorem decS_size (n : Nat) : (decS n).size = dlen n := by
  unfold dlen
  by_cases h : n = 0
  · subst h; rw [decS_zero, if_pos rfl]; rfl
  · rw [decS_pos h, if_neg h]
    show Array.size _ = _
    simp [digs_length]
theorem decS_get (n j : Nat) (h : j < (decS n).size) : (decS n)[j].toNat = 48 + dgt 10 n (dlen n - 1 - j) := by
  have hj : j < dlen n := by rwa [decS_size] at h
  rw [ba_get]
  by_cases h0 : n = 0
  · subst h0
    have e1 : dlen 0 = 1 := by unfold dlen; rw [if_pos rfl]
    have hj0 : j = 0 := by omega
    subst hj0
    simp only [decS_zero]
    rw [dgt_def]; simp
  · have e : dlen n = nd 10 n := by unfold dlen; rw [if_neg h0]
    simp only [decS_pos h0]
    rw [List.getElem_toArray, List.getElem_map, List.getElem_reverse, digs_get, digs_length, UInt8.toNat_ofNat', Nat.mod_eq_of_lt, e]
    have := dgt_lt (b := 10) (by omega) n (nd 10 n - 1 - j); omega
theorem val_dgt {s : ByteArray} (hd : Digits s) : ∀ k, k ≤ s.size → ∀ j, (hj : j < k) → (h : j < s.size) → s[j].toNat = 48 + dgt 10 (preV s k) (k - 1 - j) := by
  intro k
  induction k with
  | zero => intro _ j hj; omega
  | succ k ih =>
    intro hk j hj h
    have hdk := hd k (by omega)
    unfold isDig at hdk
    rw [preV_succ s k (by omega)]
    rcases Nat.lt_or_ge j k with h1 | h1
    · rw [ih (by omega) j h1 h, show k + 1 - 1 - j = 1 + (k - 1 - j) by omega]
      congr 1
      have e := dgt_shift (b := 10) (by omega) (s[k].toNat - 48) (preV s k) 1 (1 + (k - 1 - j)) (by rw [Nat.pow_one]; omega) (by omega)
      rw [Nat.pow_one, Nat.add_comm] at e
      rw [e]; congr 1; omega
    · obtain rfl : j = k := by omega
      rw [show j + 1 - 1 - j = 0 by omega, dgt_def, Nat.pow_zero, Nat.div_one]; omega
theorem pre_of_dec (n : Nat) : Valid (decS n) ∧ preV (decS n) (decS n).size = n := by
  have hdig : Digits (decS n) := fun k hk => by
    unfold isDig
    rw [decS_get n k hk]
    have := dgt_lt (b := 10) (by omega) n (dlen n - 1 - k); omega
  have hs := decS_size n
  have hp : 0 < (decS n).size := by
    rw [hs]; unfold dlen; split
    · omega
    · rename_i h
      rcases Nat.eq_zero_or_pos (nd 10 n) with h1 | h1
      · exact absurd ((nd_eq_zero (by omega)).1 h1) h
      · exact h1
  refine ⟨⟨hp, hdig, fun ⟨h1, h2⟩ => ?_⟩, ?_⟩
  · have h3 := h2 hp
    rw [decS_get n 0 hp] at h3
    rw [hs] at h1
    unfold dlen at h1 h3
    split at h1
    · omega
    · rename_i h0
      rw [if_neg h0] at h3
      have := dgt_top (b := 10) (by omega) h0
      rw [Nat.sub_zero] at h3; omega
  · refine eq_of_digits (b := 10) (L := dlen n) ?_ (dlen_lt n) (fun i hi => ?_)
    · have := dig_pre hdig (decS n).size (Nat.le_refl _); rw [hs] at this ⊢; exact this
    · have hj : dlen n - 1 - i < (decS n).size := by rw [hs]; omega
      have h1 := val_dgt hdig (decS n).size (Nat.le_refl _) (dlen n - 1 - i) hj hj
      have h2 := decS_get n (dlen n - 1 - i) hj
      rw [h2] at h1
      rw [show dlen n - 1 - (dlen n - 1 - i) = i by omega, show (decS n).size - 1 - (dlen n - 1 - i) = i by rw [hs]; omega] at h1
      omega
theorem dec_of_pre {s : ByteArray} (h : Valid s) : decS (preV s s.size) = s := by
  obtain ⟨hp, hd, hn⟩ := h
  have hlen : dlen (preV s s.size) = s.size := by
    by_cases h48 : s[0].toNat = 48
    · have h1 : s.size = 1 := by
        rcases Nat.lt_or_ge 1 s.size with h | h
        · exact absurd ⟨h, fun _ => h48⟩ hn
        · omega
      have h0 : preV s s.size = 0 := by rw [h1, preV_succ s 0 hp, preV_zero, h48]
      rw [h0, h1]; unfold dlen; rw [if_pos rfl]
    · obtain ⟨m, hm⟩ : ∃ m, s.size = m + 1 := ⟨s.size - 1, by omega⟩
      have h1 := pre_ge hd hp h48 m (by omega)
      have h2 := dig_pre hd s.size (Nat.le_refl _)
      rw [← hm] at h1
      have h3 : preV s s.size ≠ 0 := by have := Nat.pow_pos (n := m) (show 0 < 10 by omega); omega
      unfold dlen
      rw [if_neg h3, hm]
      rw [hm] at h1 h2
      exact nd_unique (by omega) h1 h2
  apply ba_ext (by rw [decS_size, hlen])
  intro j h1 h2
  rw [decS_get _ j h1, val_dgt hd s.size (Nat.le_refl _) j h2 h2, hlen]
theorem NRead_c (s : ByteArray) (w : World) (hs : s.size ≤ 9223372036854775807) (hv : Valid s) : Calls Tryz.prog 27 #[.string s] w (StrPost (resS (preV s s.size)) (resE (preV s s.size)) w) :=
  NRead_ok s w hs hv (fun hl => long_dec hv.2.1 hv.1 (fun c => hv.2.2 ⟨by omega, fun _ => c⟩) hl)
theorem NRead_no (s : ByteArray) (w : World) (hs : s.size ≤ 9223372036854775807) (hv : ¬ Valid s) : Calls Tryz.prog 27 #[.string s] w (StrPost ⟨#[]⟩ 22 w) := by
  by_cases h0 : s.size = 0
  · exact NRead_empty s w h0
  · have hp : 0 < s.size := by omega
    by_cases hn : 1 < s.size ∧ ∀ h : 0 < s.size, s[0].toNat = 48
    · exact NRead_nought s w hn.1 (hn.2 hp) hs
    · exact NRead_bad s w hs hp hn (fun hd => hv ⟨hp, hd, hn⟩)
theorem NText_any (n : Nat) (w : World) (hf : fits n) : Calls Tryz.prog 23 #[.string (natS n)] w (StrPost (decS n) 0 w) := by
  by_cases h : n = 0
  · subst h; exact NText_zero w
  · exact NText_c n w hf h
end Go.Proofs.YtdfnejpfpkaplaaGreatDoor
namespace Go.Proofs.YtdfnejpfpkaplaaGreatDoor
open Go Go.RowKit Nt
theorem decD_pos {n : Nat} (h : 10 ≤ n) : Lib.decDigits n = Lib.decDigits (n / 10) ++ [UInt8.ofNat (48 + n % 10)] := by
  rw [Lib.decDigits, dif_neg (by omega)]
theorem decD_small {n : Nat} (h : n < 10) : Lib.decDigits n = [UInt8.ofNat (48 + n)] := by
  rw [Lib.decDigits, dif_pos h]
theorem decD_facts (n : Nat) : (∀ c ∈ Lib.decDigits n, 48 ≤ c.toNat ∧ c.toNat ≤ 57) ∧ 0 < (Lib.decDigits n).length ∧ decV (Lib.decDigits n) = n ∧ (∀ c r, Lib.decDigits n = c :: r → c.toNat = 48 → n = 0 ∧ r = []) := by
  induction n using Nat.strongRecOn with
  | _ n ih =>
    have hd : ∀ d, d < 10 → (UInt8.ofNat (48 + d)).toNat = 48 + d := fun d hd => by
      rw [UInt8.toNat_ofNat']; omega
    by_cases h : n < 10
    · rw [decD_small h]
      refine ⟨fun c hc => ?_, by simp, ?_, fun c r e hc => ?_⟩
      · have : c = UInt8.ofNat (48 + n) := by simpa using hc
        rw [this, hd n h]; omega
      · have e := decV_snoc [] (UInt8.ofNat (48 + n))
        rw [List.nil_append] at e
        rw [e, hd n h]
        have : decV [] = 0 := rfl
        omega
      · have e1 := (List.cons.inj e)
        rw [← e1.1, hd n h] at hc
        exact ⟨by omega, e1.2.symm⟩
    · obtain ⟨i1, i2, i3, i4⟩ := ih (n / 10) (by omega)
      rw [decD_pos (by omega)]
      have hm : n % 10 < 10 := by omega
      refine ⟨fun c hc => ?_, by simp, ?_, fun c r e hc => ?_⟩
      · rcases List.mem_append.1 hc with hc | hc
        · exact i1 c hc
        · have : c = UInt8.ofNat (48 + n % 10) := by simpa using hc
          rw [this, hd _ hm]; omega
      · rw [decV_snoc, i3, hd _ hm]; omega
      · cases hq : Lib.decDigits (n / 10) with
        | nil => rw [hq] at i2; exact absurd i2 (by simp)
        | cons x y =>
          rw [hq] at e
          have e1 := (List.cons.inj e).1
          subst e1
          have := (i4 x y hq hc).1
          omega
theorem decD_dec (n : Nat) : (⟨(Lib.decDigits n).toArray⟩ : ByteArray) = decS n := by
  obtain ⟨h1, h2, h3, h4⟩ := decD_facts n
  have hs : (⟨(Lib.decDigits n).toArray⟩ : ByteArray).size = (Lib.decDigits n).length := rfl
  have hl : (⟨(Lib.decDigits n).toArray⟩ : ByteArray).data.toList = Lib.decDigits n := rfl
  have hv : Valid ⟨(Lib.decDigits n).toArray⟩ := by
    refine ⟨by rw [hs]; exact h2, fun k hk => h1 _ (List.getElem_mem (l := Lib.decDigits n) hk), fun ⟨c1, c2⟩ => ?_⟩
    have c3 := c2 (by rw [hs]; exact h2)
    cases hq : Lib.decDigits n with
    | nil => rw [hq] at h2; exact absurd h2 (by simp)
    | cons x y =>
      have e : (⟨(Lib.decDigits n).toArray⟩ : ByteArray)[0]'(by rw [hs]; exact h2) = x := by
        show (Lib.decDigits n)[0]'h2 = x
        have : ∀ (l : List UInt8) (h0 : 0 < l.length), l = x :: y → l[0] = x := by
          intro l h0 e; subst e; rfl
        exact this _ _ hq
      rw [e] at c3
      have := (h4 x y hq c3).2
      rw [hs, hq, this] at c1
      exact absurd c1 (by simp)
  have hp := dec_of_pre hv
  rw [preV_full, hl, h3] at hp
  exact hp.symm
@[irreducible] def iS (x : Int) : ByteArray := ⟨(Lib.itoa x).toArray⟩
theorem iS_def (x : Int) : (⟨(Lib.itoa x).toArray⟩ : ByteArray) = iS x := by unfold iS; rfl
theorem iS_pos {x : Int} (h : 0 ≤ x) : iS x = decS x.natAbs := by
  unfold iS Lib.itoa
  rw [if_neg (by omega), show x.toNat = x.natAbs by omega]
  exact decD_dec _
theorem iS_neg {x : Int} (h : x < 0) : iS x = ⟨#[45]⟩ ++ decS x.natAbs := by
  unfold iS Lib.itoa
  rw [if_pos h, ← decD_dec]
  rfl
theorem decV_gen : ∀ (l : List UInt8) (a : Nat), l.foldl (fun a b => 10 * a + (b.toNat - 48)) a = a * 10 ^ l.length + decV l := by
  intro l
  induction l with
  | nil => intro a; simp [decV]
  | cons c r ih =>
    intro a
    have e1 : decV (c :: r) = (c.toNat - 48) * 10 ^ r.length + decV r := by
      have : decV (c :: r) = r.foldl (fun a b => 10 * a + (b.toNat - 48)) (10 * 0 + (c.toNat - 48)) := rfl
      rw [this, ih]; simp
    rw [List.foldl_cons, ih, e1, List.length_cons, Nat.pow_succ, Nat.add_mul, Nat.mul_comm (10 ^ r.length) 10, ← Nat.mul_assoc, Nat.mul_comm 10 a, Nat.add_assoc]
theorem decV_cons (c : UInt8) (r : List UInt8) : decV (c :: r) = (c.toNat - 48) * 10 ^ r.length + decV r := by
  have : decV (c :: r) = r.foldl (fun a b => 10 * a + (b.toNat - 48)) (10 * 0 + (c.toNat - 48)) := rfl
  rw [this, decV_gen]; simp
theorem parse_dec (l : List UInt8) (hd : ∀ c ∈ l, 48 ≤ c.toNat ∧ c.toNat ≤ 57) : ∀ acc, (∀ k, k ≤ l.length → acc * 10 ^ k + decV (l.take k) < 18446744073709551616) → Lib.parseUint10 acc l = .ok (acc * 10 ^ l.length + decV l) := by
  induction l with
  | nil => intro acc h; simp [Lib.parseUint10]; rfl
  | cons c r ih =>
    intro acc h
    obtain ⟨h1, h2⟩ := hd c (List.mem_cons_self ..)
    have hk := h 1 (by simp)
    have e1 : decV ([] ++ [c]) = 10 * decV [] + (c.toNat - 48) := decV_snoc [] c
    have e0 : decV ([] : List UInt8) = 0 := rfl
    have et : (c :: r).take 1 = [] ++ [c] := rfl
    rw [et, e1, e0, Nat.pow_one] at hk
    have hcons := fun m : List UInt8 => decV_cons c m
    rw [Lib.parseUint10, if_pos ⟨h1, h2⟩, if_neg (by omega), if_neg (by omega)]
    rw [ih (fun x hx => hd x (List.mem_cons_of_mem _ hx)) (acc * 10 + (c.toNat - 48)) (fun k hk2 => ?_)]
    · congr 1
      rw [hcons r, List.length_cons, Nat.pow_succ, Nat.add_mul, Nat.mul_comm (10 ^ r.length) 10, ← Nat.mul_assoc, Nat.add_assoc]
    · have := h (k + 1) (by simp; omega)
      rw [List.take_succ_cons, hcons, List.length_take, Nat.min_eq_left hk2, Nat.pow_succ, Nat.mul_comm (10 ^ k) 10, ← Nat.mul_assoc] at this
      rw [Nat.add_mul]; omega
theorem decV_pre (l : List UInt8) (k : Nat) : decV (l.take k) ≤ decV l := by
  have h : decV (l.take k ++ l.drop k) = decV (l.take k) * 10 ^ (l.drop k).length + decV (l.drop k) := by
    unfold decV
    rw [List.foldl_append]
    exact decV_gen _ _
  rw [List.take_append_drop] at h
  have hp : 0 < 10 ^ (l.drop k).length := Nat.pow_pos (by decide)
  have := Nat.le_mul_of_pos_right (decV (l.take k)) hp
  omega
theorem parse_mag (n : Nat) (h : n < 18446744073709551616) : Lib.parseMag (Lib.decDigits n) = .ok n := by
  obtain ⟨h1, h2, h3, h4⟩ := decD_facts n
  unfold Lib.parseMag
  rw [if_neg (fun c => by rw [c] at h2; exact absurd h2 (by simp)), parse_dec _ h1 0 (fun k _ => by
    have := decV_pre (Lib.decDigits n) k
    rw [h3] at this
    omega), h3]
  simp
theorem atoi_iS (x : Int) (h1 : -9223372036854775808 ≤ x) (h2 : x ≤ 9223372036854775807) : Lib.atoiAll (iS x).data.toList = .ok x := by
  have hl : (iS x).data.toList = Lib.itoa x := by unfold iS; rfl
  rw [hl]
  unfold Lib.itoa
  by_cases h : x < 0
  · rw [if_pos h, Lib.atoiAll_minus, parse_mag _ (by omega)]
    unfold Lib.signed
    have h3 : ¬ 9223372036854775808 < x.natAbs := by omega
    simp [h3]
    omega
  · rw [if_neg h]
    obtain ⟨k1, k2, k3, k4⟩ := decD_facts x.toNat
    cases hq : Lib.decDigits x.toNat with
    | nil => rw [hq] at k2; exact absurd k2 (by simp)
    | cons c r =>
      have hc := k1 c (by rw [hq]; exact List.mem_cons_self ..)
      rw [Lib.atoiAll_plain c r (by omega) (by omega), ← hq, parse_mag _ (by omega)]
      unfold Lib.signless
      have h3 : ¬ 9223372036854775808 ≤ x.toNat := by omega
      simp [h3]
      omega
end Go.Proofs.YtdfnejpfpkaplaaGreatDoor
namespace Go.Proofs
open Go.Shelf
def Tryz.lays103_ren : Go.Shelf.Ren := ⟨fun | 103 => 25 | 210 => 44 | 206 => 78 | n => n, fun | 9 => 9 | 4 => 4 | 24 => 52 | 3 => 3 | n => n, fun | n => n⟩
theorem Tryz.lays103 : Go.Proofs.Lays.n103 Tryz.prog Tryz.lays103_ren := {
  mixed := by kernel_rfl
  f103 := Tryz.func25.trans (congrArg some (by kernel_rfl))
  f206 := Tryz.func78.trans (congrArg some (by kernel_rfl))
  f210 := Tryz.func44.trans (congrArg some (by kernel_rfl))
  t3 := Tryz.underlying3
  a3 := Tryz.isAgg3
  z3 := Tryz.sizeOf3
  v3 := Tryz.zeroValue3
  t4 := Tryz.underlying4
  a4 := Tryz.isAgg4
  z4 := Tryz.sizeOf4
  v4 := Tryz.zeroValue4
  t9 := Tryz.underlying9
  a9 := Tryz.isAgg9
  z9 := Tryz.sizeOf9
  v9 := Tryz.zeroValue9
  t24 := Tryz.underlying52
  a24 := Tryz.isAgg52
  z24 := Tryz.sizeOf52
  v24 := Tryz.zeroValue52 }
open Go.RowKit in
theorem Tryz.strings_CutPrefix (s p : ByteArray) (w : World) :
    Calls Tryz.prog 25 #[.string s, .string p] w fun e w' => e = .returned (.tuple #[.string ⟨(Lib.trimPrefix s.data.toList p.data.toList).toArray⟩, .bool (Lib.hasPrefix s.data.toList p.data.toList)]) ∧ w' = w := Any.strings_CutPrefix Tryz.lays103 s p w
def Tryz.lays217_ren : Go.Shelf.Ren := ⟨fun | 217 => 113 | 266 => 139 | n => n, fun | 9 => 9 | 5 => 5 | 3 => 3 | n => n, fun | n => n⟩
theorem Tryz.lays217 : Go.Proofs.Lays.n217 Tryz.prog Tryz.lays217_ren := {
  mixed := by kernel_rfl
  f217 := Tryz.func113.trans (congrArg some (by kernel_rfl))
  f266 := Tryz.func139.trans (congrArg some (by kernel_rfl))
  t3 := Tryz.underlying3
  a3 := Tryz.isAgg3
  z3 := Tryz.sizeOf3
  v3 := Tryz.zeroValue3
  t5 := Tryz.underlying5
  a5 := Tryz.isAgg5
  z5 := Tryz.sizeOf5
  v5 := Tryz.zeroValue5
  t9 := Tryz.underlying9
  a9 := Tryz.isAgg9
  z9 := Tryz.sizeOf9
  v9 := Tryz.zeroValue9 }
open Go.RowKit Go.Lib in
theorem Tryz.stringslite_IndexByte (s : ByteArray) (c : Int) (w : World) :
    Calls Tryz.prog 113 #[.string s, .int .u8 c] w fun e w' => e = .returned (.int .i64 (Lib.indexByte s.data.toList c.toNat.toUInt8)) ∧ w' = w := Any.stringslite_IndexByte Tryz.lays217 s c w
def Tryz.laysC172_ren : Go.Shelf.Ren := ⟨fun | 172 => 28 | 244 => 48 | 245 => 49 | 247 => 84 | 279 => 85 | 280 => 86 | 281 => 87 | 282 => 88 | 287 => 117 | 316 => 118 | 171 => 24 | 205 => 119 | 321 => 141 | 322 => 142 | 243 => 43 | 246 => 77 | 283 => 109 | 284 => 110 | 285 => 111 | 286 => 112 | 129 => 92 | 317 => 135 | 318 => 136 | 319 => 137 | 320 => 138 | 337 => 151 | 338 => 123 | n => n, fun | 9 => 9 | 3 => 3 | 75 => 59 | 76 => 60 | 4 => 4 | 5 => 5 | 167 => 125 | 37 => 79 | 0 => 0 | 85 => 126 | 2 => 2 | 168 => 128 | 53 => 64 | 175 => 158 | 46 => 135 | 210 => 161 | 127 => 187 | 145 => 190 | 143 => 188 | 21 => 21 | 171 => 153 | 173 => 155 | 212 => 179 | 51 => 180 | 20 => 20 | 213 => 181 | 232 => 203 | 233 => 191 | 80 => 205 | n => n, fun | 15 => 3 | 16 => 4 | 17 => 5 | 18 => 8 | 19 => 6 | n => n⟩
theorem Tryz.laysC172 : Go.Proofs.LaysC.n172 Tryz.prog Tryz.laysC172_ren := {
  mixed := by kernel_rfl
  f129 := Tryz.func92.trans (congrArg some (by kernel_rfl))
  f171 := Tryz.func24.trans (congrArg some (by kernel_rfl))
  f172 := Tryz.func28.trans (congrArg some (by kernel_rfl))
  f205 := Tryz.func119.trans (congrArg some (by kernel_rfl))
  f243 := Tryz.func43.trans (congrArg some (by kernel_rfl))
  f244 := Tryz.func48.trans (congrArg some (by kernel_rfl))
  f245 := Tryz.func49.trans (congrArg some (by kernel_rfl))
  f246 := Tryz.func77.trans (congrArg some (by kernel_rfl))
  f247 := Tryz.func84.trans (congrArg some (by kernel_rfl))
  f279 := Tryz.func85.trans (congrArg some (by kernel_rfl))
  f280 := Tryz.func86.trans (congrArg some (by kernel_rfl))
  f281 := Tryz.func87.trans (congrArg some (by kernel_rfl))
  f282 := Tryz.func88.trans (congrArg some (by kernel_rfl))
  f283 := Tryz.func109.trans (congrArg some (by kernel_rfl))
  f284 := Tryz.func110.trans (congrArg some (by kernel_rfl))
  f285 := Tryz.func111.trans (congrArg some (by kernel_rfl))
  f286 := Tryz.func112.trans (congrArg some (by kernel_rfl))
  f287 := Tryz.func117.trans (congrArg some (by kernel_rfl))
  f316 := Tryz.func118.trans (congrArg some (by kernel_rfl))
  f317 := Tryz.func135.trans (congrArg some (by kernel_rfl))
  f318 := Tryz.func136.trans (congrArg some (by kernel_rfl))
  f319 := Tryz.func137.trans (congrArg some (by kernel_rfl))
  f320 := Tryz.func138.trans (congrArg some (by kernel_rfl))
  f321 := Tryz.func141.trans (congrArg some (by kernel_rfl))
  f322 := Tryz.func142.trans (congrArg some (by kernel_rfl))
  f337 := Tryz.func151.trans (congrArg some (by kernel_rfl))
  f338 := Tryz.func123.trans (congrArg some (by kernel_rfl))
  t0 := Tryz.underlying0
  a0 := Tryz.isAgg0
  z0 := Tryz.sizeOf0
  v0 := Tryz.zeroValue0
  t2 := Tryz.underlying2
  a2 := Tryz.isAgg2
  z2 := Tryz.sizeOf2
  v2 := Tryz.zeroValue2
  t3 := Tryz.underlying3
  a3 := Tryz.isAgg3
  z3 := Tryz.sizeOf3
  v3 := Tryz.zeroValue3
  t4 := Tryz.underlying4
  a4 := Tryz.isAgg4
  z4 := Tryz.sizeOf4
  v4 := Tryz.zeroValue4
  t5 := Tryz.underlying5
  a5 := Tryz.isAgg5
  z5 := Tryz.sizeOf5
  v5 := Tryz.zeroValue5
  t9 := Tryz.underlying9
  a9 := Tryz.isAgg9
  z9 := Tryz.sizeOf9
  v9 := Tryz.zeroValue9
  t20 := Tryz.underlying20
  a20 := Tryz.isAgg20
  z20 := Tryz.sizeOf20
  v20 := Tryz.zeroValue20
  t21 := Tryz.underlying21
  a21 := Tryz.isAgg21
  z21 := Tryz.sizeOf21
  v21 := Tryz.zeroValue21
  t37 := Tryz.underlying79
  a37 := Tryz.isAgg79
  z37 := Tryz.sizeOf79
  v37 := Tryz.zeroValue79
  t46 := Tryz.underlying135
  a46 := Tryz.isAgg135
  z46 := Tryz.sizeOf135
  v46 := Tryz.zeroValue135
  t51 := Tryz.underlying180
  a51 := Tryz.isAgg180
  z51 := Tryz.sizeOf180
  v51 := Tryz.zeroValue180
  t53 := Tryz.underlying64
  a53 := Tryz.isAgg64
  z53 := Tryz.sizeOf64
  v53 := Tryz.zeroValue64
  t75 := Tryz.underlying59
  a75 := Tryz.isAgg59
  z75 := Tryz.sizeOf59
  v75 := Tryz.zeroValue59
  t76 := Tryz.underlying60
  a76 := Tryz.isAgg60
  z76 := Tryz.sizeOf60
  v76 := Tryz.zeroValue60
  t85 := Tryz.underlying126
  a85 := Tryz.isAgg126
  z85 := Tryz.sizeOf126
  v85 := Tryz.zeroValue126
  t127 := Tryz.underlying187
  a127 := Tryz.isAgg187
  z127 := Tryz.sizeOf187
  v127 := Tryz.zeroValue187
  t143 := Tryz.underlying188
  a143 := Tryz.isAgg188
  z143 := Tryz.sizeOf188
  v143 := Tryz.zeroValue188
  t145 := Tryz.underlying190
  a145 := Tryz.isAgg190
  z145 := Tryz.sizeOf190
  v145 := Tryz.zeroValue190
  t167 := Tryz.underlying125
  a167 := Tryz.isAgg125
  z167 := Tryz.sizeOf125
  v167 := Tryz.zeroValue125
  t168 := Tryz.underlying128
  a168 := Tryz.isAgg128
  z168 := Tryz.sizeOf128
  v168 := Tryz.zeroValue128
  t171 := Tryz.underlying153
  a171 := Tryz.isAgg153
  z171 := Tryz.sizeOf153
  v171 := Tryz.zeroValue153
  t173 := Tryz.underlying155
  a173 := Tryz.isAgg155
  z173 := Tryz.sizeOf155
  v173 := Tryz.zeroValue155
  t175 := Tryz.underlying158
  a175 := Tryz.isAgg158
  z175 := Tryz.sizeOf158
  v175 := Tryz.zeroValue158
  t210 := Tryz.underlying161
  a210 := Tryz.isAgg161
  z210 := Tryz.sizeOf161
  v210 := Tryz.zeroValue161
  t212 := Tryz.underlying179
  a212 := Tryz.isAgg179
  z212 := Tryz.sizeOf179
  v212 := Tryz.zeroValue179
  t213 := Tryz.underlying181
  a213 := Tryz.isAgg181
  z213 := Tryz.sizeOf181
  t232 := Tryz.underlying203
  a232 := Tryz.isAgg203
  z232 := Tryz.sizeOf203
  v232 := Tryz.zeroValue203
  t233 := Tryz.underlying191
  a233 := Tryz.isAgg191
  z233 := Tryz.sizeOf191
  v233 := Tryz.zeroValue191
  g15 := by kernel_rfl
  g16 := by kernel_rfl
  g17 := by kernel_rfl
  g18 := by kernel_rfl
  g19 := by kernel_rfl
  t80 := Tryz.underlying205
  a80 := Tryz.isAgg205
  z80 := Tryz.sizeOf205
  v80 := Tryz.zeroValue205
  i0 := by kernel_rfl
  i2 := by kernel_rfl
  i3 := by kernel_rfl
  i4 := by kernel_rfl
  i5 := by kernel_rfl
  i9 := by kernel_rfl
  i20 := by kernel_rfl
  i21 := by kernel_rfl
  i37 := by kernel_rfl
  i46 := by kernel_rfl
  i51 := by kernel_rfl
  i53 := by kernel_rfl
  i75 := by kernel_rfl
  i76 := by kernel_rfl
  i80 := by kernel_rfl
  i85 := by kernel_rfl
  i127 := by kernel_rfl
  i143 := by kernel_rfl
  i145 := by kernel_rfl
  i167 := by kernel_rfl
  i168 := by kernel_rfl
  i171 := by kernel_rfl
  i173 := by kernel_rfl
  i175 := by kernel_rfl
  i210 := by kernel_rfl
  i212 := by kernel_rfl
  i232 := by kernel_rfl
  i233 := by kernel_rfl
  m15 := by kernel_rfl
  m16 := by kernel_rfl
  m17 := by kernel_rfl
  m18 := by kernel_rfl
  m19 := by kernel_rfl
  c0 := by kernel_rfl
  c2 := by kernel_rfl
  c3 := by kernel_rfl
  c4 := by kernel_rfl
  c5 := by kernel_rfl
  c9 := by kernel_rfl
  c20 := by kernel_rfl
  c21 := by kernel_rfl
  c37 := by kernel_rfl
  c46 := by kernel_rfl
  c51 := by kernel_rfl
  c53 := by kernel_rfl
  c75 := by kernel_rfl
  c76 := by kernel_rfl
  c80 := by kernel_rfl
  c85 := by kernel_rfl
  c127 := by kernel_rfl
  c143 := by kernel_rfl
  c145 := by kernel_rfl
  c167 := by kernel_rfl
  c168 := by kernel_rfl
  c171 := by kernel_rfl
  c173 := by kernel_rfl
  c175 := by kernel_rfl
  c210 := by kernel_rfl
  c212 := by kernel_rfl
  c213 := by kernel_rfl
  c232 := by kernel_rfl
  c233 := by kernel_rfl }
open Go.RowKit in
theorem Tryz.strconv_Atoi_ok (s : ByteArray) (hmax : s.size ≤ 9223372036854775806) (v : Int) (h : Lib.atoiAll s.data.toList = .ok v) (w : World) :
    Calls Tryz.prog 28 #[.string s] w fun e w' => e = .returned (.tuple #[.int .i64 v, .nilIface]) ∧ (w' = w ∨ ∃ t, w' = Lib.bytesWorld w 5 t) := Any.strconv_Atoi_ok Tryz.laysC172 s hmax v h w
open Go.RowKit in
theorem Tryz.strconv_Atoi_syntax_var (s : ByteArray) (hlim : s.size ≤ 281474976710656) (h : Lib.atoiAll s.data.toList = Lib.NumEnd.syntax) (tp : TypeId) (p : Value) (w : World) (hvar : w.var? Tryz.prog "strconv.ErrSyntax" = some #[.iface tp p]) :
    Calls Tryz.prog 28 #[.string s] w fun e w' => ∃ N, e = .returned (.tuple #[.int .i64 0, .iface 128 (.pointer (some ⟨N, 0, none⟩))]) ∧ w.heap.size ≤ N ∧ w'.heap[N]? = some (.cells #[.string ⟨#[65, 116, 111, 105]⟩, .string s, .iface tp p] 161 (0, 0)) ∧ Below w.heap.size w w' := Any.strconv_Atoi_syntax_var Tryz.laysC172 s hlim h tp p w hvar
open Go.RowKit in
theorem Tryz.strconv_Atoi_range_var (s : ByteArray) (hlim : s.size ≤ 281474976710656) (h : Lib.atoiAll s.data.toList = .range) (tp : TypeId) (p : Value) (w : World) (hvar : w.var? Tryz.prog "strconv.ErrRange" = some #[.iface tp p]) :
    Calls Tryz.prog 28 #[.string s] w fun e w' => ∃ N, e = .returned (.tuple #[.int .i64 (Lib.atoiSat s.data.toList), .iface 128 (.pointer (some ⟨N, 0, none⟩))]) ∧ w.heap.size ≤ N ∧ w'.heap[N]? = some (.cells #[.string ⟨#[65, 116, 111, 105]⟩, .string s, .iface tp p] 161 (0, 0)) ∧ Below w.heap.size w w' := Any.strconv_Atoi_range_var Tryz.laysC172 s hlim h tp p w hvar
end Go.Proofs
namespace Nt
theorem dl_lt256 (n k : Nat) : ∀ x ∈ dl 256 n k, x < 256 := fun x hx => by
  obtain ⟨i, hi, rfl⟩ := List.getElem_of_mem hx
  rw [dl_length] at hi
  have e := dl_get? 256 n k i hi
  rw [List.getElem?_eq_getElem (by rw [dl_length]; exact hi)] at e
  rw [Option.some.inj e]
  exact dgt_lt (by omega) _ _
theorem dl_get (b n L i : Nat) (h : i < (dl b n L).length) : (dl b n L)[i] = dgt b n i := by
  have e := dl_get? b n L i (by rwa [dl_length] at h)
  rw [List.getElem?_eq_getElem h] at e
  exact Option.some.inj e
end Nt
namespace Go.Proofs.YtdfnejpfpkaplaaGreatDoor
open Go Go.RowKit Nt
theorem and_one_u8 (q : Nat) (hq : q < 256) : bits BinOp.and IntKind.u8 (q : Int) 1 = ((q % 2 : Nat) : Int) := by
  have h1 : (BitVec.ofInt 8 (q : Int)).toNat = q := by
    rw [BitVec.ofInt_natCast, BitVec.toNat_ofNat]; exact Nat.mod_eq_of_lt (by omega)
  have h2 : (BitVec.ofInt 8 (1 : Int)).toNat = 1 := by decide
  show IntKind.u8.wrap ((BitVec.ofInt 8 (q : Int) &&& BitVec.ofInt 8 (1 : Int)).toNat : Int) = _
  rw [BitVec.toNat_and, h1, h2, Nat.and_one_is_mod, wrap_u8]
  omega
end Go.Proofs.YtdfnejpfpkaplaaGreatDoor
namespace Go.Proofs.YtdfnejpfpkaplaaGreatDoor
open Go Go.RowKit Nt
def madeF (n Z i j : Nat) : Nat := if n - i ≤ j then dgt 256 Z (n - 1 - j) else 0
theorem madeF_step {n Z i x j : Nat} (h : n = i + 1 + x) (hj : j < n) : (if j = x then dgt 256 Z i else madeF n Z i j) = madeF n Z (i + 1) j := by
  unfold madeF
  by_cases h1 : j = x
  · rw [if_pos h1, if_pos (by omega), show n - 1 - j = i by omega]
  · rw [if_neg h1]
    by_cases h2 : n - i ≤ j
    · rw [if_pos h2, if_pos (by omega)]
    · rw [if_neg h2, if_neg (by omega)]
theorem digit_of {l : List Nat} (hl : ∀ x ∈ l, x < 256) {j : Nat} (h : j < l.length) : dgt 256 (of 256 l) j = l[j] := dgt_of (by omega) l hl j h
set_option maxRecDepth 100000 in
set_option maxHeartbeats 1000000 in
theorem rMade_c (B : Nat) (v : Value) (l : List Nat) (w : World) (hl : ∀ x ∈ l, x < 256) (hn : l.length ≤ 1000000000) (hown : Own w B 3 .i64 v l) :
    Calls Tryz.prog 51 #[v] w fun e w' => e = .returned (.string (natS (of 256 l))) ∧ Below w.heap.size w w' := by
  obtain ⟨i0, hi0, hz0, hz1, hz2⟩ := info_parts (P := Tryz.prog) (e := 5) (z := .int .u8 0) (size := 1) (bytes := 1) (by kernel_rfl)
  obtain ⟨A, c, rfl, hc⟩ := hown.len
  obtain ⟨Z, hZ⟩ : ∃ Z, Z = of 256 l := ⟨_, rfl⟩
  obtain ⟨L, hL⟩ : ∃ L, L = l.length := ⟨_, rfl⟩
  have hdl := of_lt (b := 256) (by omega) l hl
  have hcell : ∀ j, j < L → ∃ ga, A = some ⟨ga, 0, none⟩ ∧ ga < w.heap.size ∧ w.cell? ⟨ga, j, none⟩ = some (.int .i64 (dgt 256 Z j : Nat)) := fun j hj => by
    obtain ⟨g, cap, e, _, hg, hcl, _⟩ := hown.cell (by rw [← hL]; exact hj)
    cases e
    exact ⟨g, rfl, hg, by rw [hcl, hZ, digit_of hl]⟩
  rw [← hZ] at hdl ⊢
  rw [← hL] at hn hc hdl ⊢
  have hnd : nd 256 Z ≤ L := nd_le (by omega) hdl
  have HC := Lib.hid hcell
  clear hcell hZ hL hown hl hdl hc
  go_enter Tryz.func51, Tryz.ntmps51
  go_wp2
  go_loopw [3] (fun i wr => ∃ k : Nat, k ≤ L ∧ i = .int .i64 k ∧ Hid (nd 256 Z ≤ k) ∧ w = wr) (fun i _ => (intOf i).toNat)
  case atStart => exact ⟨L, Nat.le_refl _, rfl, Lib.hid hnd, rfl⟩
  case round =>
    obtain ⟨k, hk, rfl, hle, rfl⟩ := hrel
    by_cases hstop : nd 256 Z = k
    · have HS := Lib.hid hstop
      clear hstop hle
      have hcond : k = 0 ∨ ∃ m ga, k = m + 1 ∧ A = some ⟨ga, 0, none⟩ ∧ w.cell? ⟨ga, k - 1, none⟩ = some (.int .i64 (dgt 256 Z m : Nat)) ∧ dgt 256 Z m ≠ 0 := by
        rcases Nat.eq_zero_or_pos k with h | h
        · exact Or.inl h
        · obtain ⟨m, rfl⟩ : ∃ m, k = m + 1 := ⟨k - 1, by omega⟩
          obtain ⟨ga, h1, _, h2⟩ := HC.out m (by omega)
          have h3 := dgt_top (b := 256) (n := Z) (by omega) (fun c => by have := HS.out; rw [c, nd_zero] at this; omega)
          rw [HS.out, Nat.add_sub_cancel] at h3
          exact Or.inr ⟨m, ga, rfl, h1, h2, h3⟩
      rcases hcond with h0 | ⟨m, ga, hm, rfl, hcl, hnz⟩
      case' inr =>
        have hz1' : ((dgt 256 Z m : Nat) : Int) ≠ 0 := by omega
        have hz2' : (((dgt 256 Z m : Nat) : Int) == 0) = false := by rw [beq_eq_false_iff_ne]; exact hz1'
        have hw : wrap64 ((k : Int) - 1) = (m : Int) := by rw [IntWalk.wrap64_in _ (by omega)]; omega
        have hk0 : (0 : Int) < (k : Int) := by omega
        have HM := Lib.hid hm
        clear hm
      case' inl =>
        have hk0 : ¬ (0 : Int) < (k : Int) := by omega
        have HM := Lib.hid h0
        clear h0
      all_goals
        go_wp2_with (at_make; go_loud (refine wpList_make_zero _ rfl _ _ _ rfl 5 i0 _ Tryz.underlying79 hi0 hz0 hz1 .i64 .i64 _ _ k rfl rfl rfl rfl (by rw [hz2]; omega) (by unfold maxLen; omega) ?_))
        rw [fcells_made]
        have HB0 := Lib.hid (Blk.new w 5 (fcells .u8 (fun _ => 0) k))
        have hbl : Below w.heap.size w (w.alloc (.cells (fcells .u8 (fun _ => 0) k) 5)) := (Below.refl _ _).alloc (Nat.le_refl _) _
        generalize w.alloc (.cells (fcells .u8 (fun _ => 0) k) 5) = w1 at *
        obtain ⟨g, hg⟩ : ∃ g, g = w.heap.size := ⟨_, rfl⟩
        rw [← hg] at HB0 hbl ⊢
        have HG := Lib.hid hg
        clear hg
        go_loopw [5] (fun i wr => ∃ q : Nat, q ≤ k ∧ i = .int .i64 q ∧ Hid (Blk wr g 5 (fcells .u8 (madeF k Z q) k)) ∧ Below g w wr) (fun i _ => k - (intOf i).toNat)
        case atStart => exact ⟨0, Nat.zero_le _, rfl, by rw [fcells_congr (f' := fun _ => 0) (fun j hj => by unfold madeF; rw [if_neg (by omega)])]; exact HB0, hbl⟩
        case round =>
          obtain ⟨q, hq, rfl, hblk, hb⟩ := hrel
          by_cases hlt : q < k
          · try exact absurd hlt (by have := HM.out; omega)
            all_goals
              obtain ⟨x, hx⟩ : ∃ x, k = q + 1 + x := ⟨k - q - 1, by omega⟩
              obtain ⟨gb, hA, hgb, hcb⟩ := HC.out q (by omega)
              have hcb2 := (hb.cell (p := ⟨gb, q, none⟩) (by have := HG.out; show gb < g; omega)).trans hcb
              cases hA
              have hfz := hblk.out.frozen x
              have hck := hblk.out.cell x
              rw [fcells_get _ _ _ _ (by omega)] at hck
              have hxI : (k : Int) - 1 - (q : Int) = (x : Int) := by omega
              have hd := dgt_lt (b := 256) (by omega) Z q
              have hwr : IntKind.u8.wrap ((dgt 256 Z q : Nat) : Int) = ((dgt 256 Z q : Nat) : Int) := by rw [wrap_u8, Nat.mod_eq_of_lt hd]
              have HX := Lib.hid hx
              clear hx hcb
              go_wp2
              have HB1 := Lib.hid (hblk.out.set_ x (.int .u8 ((dgt 256 Z q : Nat) : Int)))
              rw [fcells_set, fcells_congr (f' := madeF k Z (q + 1)) (fun j hj => madeF_step HX.out hj)] at HB1
              have hb1 := hb.setCell (p := ⟨g, x, none⟩) (Nat.le_refl _) (.int .u8 ((dgt 256 Z q : Nat) : Int))
              go_roundw
              case rel => exact ⟨q + 1, by omega, by go_num, HB1, hb1⟩
              case measure => simp [intOf]; omega
          · obtain rfl : q = k := by omega
            have hcv : (convert 79 9 (.slice (some ⟨g, 0, none⟩) q q)).run Tryz.prog wr = .ok (.string (natS Z)) wr := by
              have hN := HS.out
              have hl : ((dl 256 Z (nd 256 Z)).reverse.map UInt8.ofNat).length = q := by simp [dl_length, hN]
              have h := run_convert_bytes_back (P := Tryz.prog) wr 79 9 5 ⟨g, 0, none⟩ q ((dl 256 Z (nd 256 Z)).reverse.map UInt8.ofNat) Tryz.underlying79 Tryz.underlying5 Tryz.underlying9 (fun j hj => by
                have hj2 : j < q := by rw [← hl]; exact hj
                rw [add_plain0, hblk.out.cell, fcells_get _ _ _ _ hj2]
                have e := natS_get Z j (by rw [natS_size, hN]; exact hj2)
                rw [ba_get] at e
                simp only [natS_def] at e
                rw [List.getElem_toArray] at e
                rw [e]
                unfold madeF
                rw [if_pos (by omega), hN])
              rw [hl, ← natS_def] at h
              exact h
            go_wp2
            go_ret
            exact ⟨rfl, by rw [← HG.out]; exact hb⟩
    · obtain ⟨m, rfl⟩ : ∃ m, k = m + 1 := ⟨k - 1, by have := hle.out; omega⟩
      obtain ⟨ga, rfl, hga, hcl⟩ := HC.out m (by omega)
      rw [dgt_big (b := 256) (n := Z) (i := m) (by omega) (by have := hle.out; omega)] at hcl
      have H1 := Lib.hid (show nd 256 Z ≤ m by have := hle.out; omega)
      have hw : wrap64 ((m : Int) + 1 - 1) = (m : Int) := by rw [IntWalk.wrap64_in _ (by omega)]; omega
      clear hstop
      go_wp2
      go_roundw
      case rel => exact ⟨m, by omega, rfl, H1, trivial⟩
      case measure => simp [intOf]; try omega
end Go.Proofs.YtdfnejpfpkaplaaGreatDoor
namespace Go.Proofs.YtdfnejpfpkaplaaGreatDoor
open Go Go.RowKit Nt
theorem dl_lt (n k : Nat) : ∀ x ∈ dl 256 n k, x < 256 := fun x hx => by
  obtain ⟨i, hi, rfl⟩ := List.getElem_of_mem hx
  rw [dl_length] at hi
  have e := dl_get? 256 n k i hi
  rw [List.getElem?_eq_getElem (by rw [dl_length]; exact hi)] at e
  rw [Option.some.inj e]
  exact dgt_lt (by omega) _ _
set_option maxRecDepth 100000 in
set_option maxHeartbeats 1000000 in
theorem rOf_c (n : Nat) (w : World) (hn : n < 18446744073709551616) :
    Calls Tryz.prog 66 #[.int .u64 (n : Nat)] w fun e w' => e = .returned (.string (natS n)) ∧ Below w.heap.size w w' := by
  obtain ⟨i0, hi0, hz0, hj1, hj2⟩ := info_parts (P := Tryz.prog) (e := 3) (z := .int .i64 0) (size := 1) (bytes := 8) (by kernel_rfl)
  have hN8 := br_lt.2 hn
  have H8 := Lib.hid hN8
  have HN := Lib.hid hn
  clear hN8 hn
  go_enter Tryz.func66, Tryz.ntmps66
  go_wp2
  go_loopw [0, 3] (fun x v wr => ∃ (k m : Nat), x = .int .u64 m ∧ Hid (m = n / 256 ^ k) ∧ Hid (k ≤ nd 256 n) ∧ Hid (Own wr w.heap.size 3 .i64 v (dl 256 n k)) ∧ Below w.heap.size w wr) (fun x _ _ => (intOf x).toNat)
  case atStart => exact ⟨0, n, rfl, Lib.hid (by rw [Nat.pow_zero, Nat.div_one]), Lib.hid (Nat.zero_le _), Lib.hid (Own.nil _ _ _ _), Below.refl _ _⟩
  case round =>
    obtain ⟨k, m, rfl, hm, hk, hown, hb⟩ := hrel
    by_cases h0 : m = 0
    · subst h0
      have hof : of 256 (dl 256 n k) = n := by
        rw [of_dl]
        refine Nat.mod_eq_of_lt ?_
        have h := hm.out
        exact (Nat.div_eq_zero_iff_lt (Nat.pow_pos (by omega))).1 h.symm
      have HOF := Lib.hid hof
      have HL := Lib.hid (show (dl 256 n k).length ≤ 1000000000 by rw [dl_length]; have := hk.out; have := H8.out; omega)
      clear hof
      go_wp2_with fail
      refine (rMade_c _ _ _ _ (dl_lt n k) HL.out hown.out).mono ?_
      rintro e w' ⟨rfl, hb'⟩
      go_wp2_with fail
      go_ret
      exact ⟨by rw [HOF.out]; rfl, below_chain hb hb'⟩
    · obtain ⟨d, hd⟩ : ∃ d, d = dgt 256 n k := ⟨_, rfl⟩
      have hdI : (m : Int) % 256 = (d : Int) := by
        rw [hd, dgt_def, ← hm.out]; omega
      have hd256 : d < 256 := by rw [hd]; exact dgt_lt (by omega) _ _
      have hqq : (m : Int).tdiv 256 = ((m / 256 : Nat) : Int) := by rw [Int.tdiv_eq_ediv_of_nonneg (by omega)]; omega
      have hm0 : (0 : Int) < (m : Int) := by omega
      have hlen : Hid ((dl 256 n k).length + 1 ≤ 17592186044416) := Lib.hid (by rw [dl_length]; have := hk.out; have := H8.out; omega)
      have HD := Lib.hid hd
      have hkn : Hid (k + 1 ≤ nd 256 n) := Lib.hid (by
        rcases Nat.lt_or_ge k (nd 256 n) with h | h
        · exact h
        · exact absurd (hm.out.trans (Nat.div_eq_of_lt ((lt_pow_iff (b := 256) (by omega) k n).2 h))) h0)
      have hmn : Hid (m / 256 = n / 256 ^ (k + 1)) := Lib.hid (by rw [hm.out, Nat.pow_succ, Nat.div_div_eq_div_mul])
      have hms : m < 18446744073709551616 := by rw [hm.out]; exact Nat.lt_of_le_of_lt (Nat.div_le_self _ _) HN.out
      have HMS := Lib.hid hms
      clear hd
      go_wp2_with (at_builtin; go_loud (refine wpList_app1 wr rfl (.tmp 6) (.tmp 10) _ rfl w.heap.size 3 3 i0 .i64 8 Tryz.underlying88 hi0 hz0 hj1 hj2 (by omega) _ (dl 256 n k) d rfl rfl hown.out hlen.out hb.size ?_); intro v5 w5 hown5 hb5 hfr5 hnw5)
      rw [HD.out, ← dl_succ] at hown5
      have HO5 := Lib.hid hown5
      clear hown5 hfr5 hnw5
      go_roundw
      case rel => exact ⟨k + 1, m / 256, rfl, hmn, hkn, HO5, hb.trans hb5⟩
      case measure => simp [intOf]; omega
end Go.Proofs.YtdfnejpfpkaplaaGreatDoor
namespace Go.Proofs.YtdfnejpfpkaplaaGreatDoor
open Go Go.RowKit Nt
def DigPost (l : List Nat) (w : World) (e : Ending) (w' : World) : Prop := ∃ v, e = .returned v ∧ Own w' w.heap.size 3 .i64 v l ∧ Below w.heap.size w w'
set_option maxRecDepth 100000 in
set_option maxHeartbeats 1000000 in
theorem rDigits_c (n : Nat) (w : World) (hn : nd 256 n ≤ 1000000000) :
    Calls Tryz.prog 65 #[.string (natS n)] w (DigPost (dl 256 n (nd 256 n)) w) := by
  obtain ⟨i0, hi0, hz0, hj1, hj2⟩ := info_parts (P := Tryz.prog) (e := 3) (z := .int .i64 0) (size := 1) (bytes := 8) (by kernel_rfl)
  have hsz := natS_size n
  obtain ⟨N, hN⟩ : ∃ N, N = nd 256 n := ⟨_, rfl⟩
  have hg := fun k (h : k < (natS n).size) => natS_get n k h
  rw [← hN] at hsz hn hg ⊢
  have HG := Lib.hid hg
  have HN := Lib.hid hN
  clear hN hg
  go_enter Tryz.func65, Tryz.ntmps65
  go_wp2
  go_loopw [3, 4] (fun v i wr => ∃ (k : Nat) (z : Int), k ≤ N ∧ i = .int .i64 z ∧ Hid (z = (N : Int) - 1 - (k : Int)) ∧ Hid (Own wr w.heap.size 3 .i64 v (dl 256 n k)) ∧ Below w.heap.size w wr) (fun _ i _ => (intOf i + 1).toNat)
  case atStart => exact ⟨0, _, Nat.zero_le _, rfl, Lib.hid (by first | rfl | omega | go_num), Lib.hid (Own.nil _ _ _ _), Below.refl _ _⟩
  case round =>
    obtain ⟨k, z, hk, rfl, hz, hown, hb⟩ := hrel
    by_cases h0 : k = N
    · subst h0
      obtain rfl : z = -1 := by have := hz.out; omega
      go_wp2
      go_ret
      exact ⟨_, rfl, hown.out, hb⟩
    · obtain ⟨m, hm⟩ : ∃ m, N = k + 1 + m := ⟨N - k - 1, by omega⟩
      obtain rfl : z = (m : Int) := by have := hz.out; omega
      have hms : m < (natS n).size := by omega
      have e := HG.out m hms
      rw [show N - 1 - m = k by omega] at e
      have hlt := (natS n)[m].toNat_lt
      have hw : wrap64 ((m : Int) - 1) = (m : Int) - 1 := IntWalk.wrap64_in _ (by omega)
      have hlen : Hid ((dl 256 n k).length + 1 ≤ 17592186044416) := Lib.hid (by rw [dl_length]; omega)
      have hm0 : (0 : Int) ≤ (m : Int) := by omega
      have HM := Lib.hid hm
      have HE := Lib.hid e
      have hwc : wrap64 (((natS n)[m].toNat : Nat) : Int) = (((natS n)[m].toNat : Nat) : Int) := IntWalk.wrap64_in _ (by omega)
      clear e hm h0
      go_wp2_with (at_builtin; go_loud (refine wpList_app1 wr rfl (.tmp 12) (.tmp 17) _ rfl w.heap.size 3 3 i0 .i64 8 Tryz.underlying88 hi0 hz0 hj1 hj2 (by omega) _ (dl 256 n k) (natS n)[m].toNat rfl rfl hown.out hlen.out hb.size ?_); intro v5 w5 hown5 hb5 hfr5 hnw5)
      rw [HE.out, ← dl_succ] at hown5
      have HO5 := Lib.hid hown5
      clear hown5 hfr5 hnw5
      go_roundw
      case rel => exact ⟨k + 1, _, by have := HM.out; omega, rfl, Lib.hid (by have := HM.out; omega), HO5, hb.trans hb5⟩
      case measure => simp [intOf]; try omega
set_option maxRecDepth 100000 in
theorem rEnded_c (n : Nat) (w : World) (hn : nd 256 n ≤ 1000000000) :
    Calls Tryz.prog 50 #[.string (natS n)] w fun e w' => e = .returned (.tuple #[.string (resS n), .int .i64 (resE n)]) ∧ w = w' := by
  have hsz := natS_size n
  by_cases h : fits n
  · have HE := Lib.hid (resE_ok h)
    have HS := Lib.hid (resS_ok h)
    have h2 : ¬ 16384 < nd 256 n := by unfold fits at h; omega
    have h3 : ¬ (16384 : Int) < (nd 256 n : Int) := by omega
    clear h
    go_enter Tryz.func50, Tryz.ntmps50
    go_wp2
    go_ret2
    exact ⟨by rw [HE.out, HS.out]; rfl, rfl⟩
  · have HE := Lib.hid (resE_no h)
    have HS := Lib.hid (resS_no h)
    have h2 : 16384 < nd 256 n := by unfold fits at h; omega
    have h3 : (16384 : Int) < (nd 256 n : Int) := by omega
    clear h
    go_enter Tryz.func50, Tryz.ntmps50
    go_wp2
    go_ret2
    exact ⟨by rw [HE.out, HS.out]; rfl, rfl⟩
end Go.Proofs.YtdfnejpfpkaplaaGreatDoor
namespace Go.Proofs.YtdfnejpfpkaplaaGreatDoor
open Go Go.RowKit Nt
end Go.Proofs.YtdfnejpfpkaplaaGreatDoor
namespace Go.Proofs.YtdfnejpfpkaplaaGreatDoor
open Go Go.RowKit Nt
theorem Own.set_ {w : World} {B g L cap : Nat} {T : TypeId} {k : IntKind} {l : List Nat} (h : Own w B T k (.slice (some ⟨g, 0, none⟩) L cap) l) (j x : Nat) :
    Own (w.setCell ⟨g, j, none⟩ (.int k (x : Nat))) B T k (.slice (some ⟨g, 0, none⟩) L cap) (l.set j x) := by
  have h1 := h.1
  rcases h.2 with ⟨e, _⟩ | ⟨g', cap', cur, e, hB, hh, hn, hm, hs, ht⟩
  · cases e
  · injection e with e1 e2 e3
    injection e1 with e1
    injection e1 with e1 _ _
    subst e1 e3
    refine ⟨by simp, Or.inr ⟨g, cap, cur.setIfInBounds j (.int k (x : Nat)), ?_, hB, Blk.set_ hh j _, ?_, hm, by simpa using hs, ?_⟩⟩
    · rw [List.length_set, e2]
    · rw [List.length_set]; exact hn
    · rw [List.length_set, Array.toList_setIfInBounds, List.take_set, ht, List.map_set]
theorem Own.far {w : World} {B : Nat} {T : TypeId} {k : IntKind} {v : Value} {l : List Nat} (h : Own w B T k v l) {p : Addr} (hp : p.block < B) (x : Value) : Own (w.setCell p x) B T k v l := by
  rcases h.2 with ⟨rfl, h0⟩ | ⟨g', cap', cur, e, hB, hh, hn, hm, hs, ht⟩
  · exact ⟨h.1, Or.inl ⟨rfl, h0⟩⟩
  · exact ⟨h.1, Or.inr ⟨g', cap', cur, e, hB, (Below.heap_setCell w p x g' (by omega)).trans hh, hn, hm, hs, ht⟩⟩
def tenF (m k p : Nat) : Nat := if p < k then dgt 256 m p else dgt 256 (m / 10) p
theorem tenF_start (m N : Nat) : (List.range N).map (tenF m (nd 256 m)) = dl 256 m N := by
  unfold dl
  apply List.map_congr_left
  intro p _
  unfold tenF
  split
  · rfl
  · rw [dgt_big (by omega) (show nd 256 m ≤ p by omega), dgt_big (by omega) (Nat.le_trans (nd_mono (by omega) (Nat.div_le_self m 10)) (show nd 256 m ≤ p by omega))]
theorem tenF_end (m N : Nat) : (List.range N).map (tenF m 0) = dl 256 (m / 10) N := by
  unfold dl
  apply List.map_congr_left
  intro p _
  unfold tenF
  rw [if_neg (by omega)]
theorem range_set {F F' : Nat → Nat} {N j x : Nat} (h : ∀ p, p < N → (if p = j then x else F p) = F' p) : ((List.range N).map F).set j x = (List.range N).map F' := by
  apply List.ext_getElem (by simp)
  intro p h1 h2
  have hp : p < N := by simpa using h2
  rw [List.getElem_set]
  have := h p hp
  by_cases c : j = p
  · rw [if_pos c]; rw [if_pos c.symm] at this; simpa using this
  · rw [if_neg c]; rw [if_neg (fun c2 => c c2.symm)] at this; simpa using this
theorem tenF_step (m N k : Nat) : ((List.range N).map (tenF m (k + 1))).set k (dgt 256 (m / 10) k) = (List.range N).map (tenF m k) := by
  refine range_set fun p _ => ?_
  unfold tenF
  by_cases c : p = k
  · rw [if_pos c, if_neg (by omega), c]
  · rw [if_neg c]
    by_cases c2 : p < k
    · rw [if_pos (by omega), if_pos c2]
    · rw [if_neg (by omega), if_neg c2]
theorem ten_digit {m k R d q r : Nat} (hR : R = m / 256 ^ (k + 1) % 10) (hd : d = dgt 256 m k) (hq : q = dgt 256 (m / 10) k) (hr : r = m / 256 ^ k % 10) :
    ((256 : Int) * (R : Int) + (d : Int)).tdiv 10 = (q : Int) ∧ ((256 : Int) * (R : Int) + (d : Int)) % 10 = (r : Int) ∧ R ≤ 9 ∧ d < 256 ∧ q < 256 ∧ r ≤ 9 := by
  have h1 := take_rest (b := 256) (by omega) m 10 k
  have h2 := take_quo (b := 256) (by omega) m 10 k (by omega)
  have h3 := dgt_lt (b := 256) (by omega) m k
  have h4 := dgt_lt (b := 256) (by omega) (m / 10) k
  rw [← hR, ← hd, ← hr] at h1
  rw [← hR, ← hd, ← hq] at h2
  rw [← hd] at h3
  rw [← hq] at h4
  refine ⟨by rw [Int.tdiv_eq_ediv_of_nonneg (by omega)]; omega, by omega, by omega, h3, h4, by omega⟩
theorem ten_first {m j : Nat} (hj : j = nd 256 m) : m / 256 ^ j % 10 = 0 := by
  rw [Nat.div_eq_of_lt (by rw [hj]; exact lt_nd (by omega))]
theorem trim_more {z q : Nat} (h : nd 256 z ≤ q + 1) (h0 : dgt 256 z q = 0) : nd 256 z ≤ q := by
  rcases Nat.lt_or_ge q (nd 256 z) with c | c
  · have hz : z ≠ 0 := fun e => by rw [e, nd_zero] at c; omega
    have := dgt_top (b := 256) (by omega) hz
    rw [show nd 256 z - 1 = q by omega] at this
    exact absurd h0 this
  · exact c
theorem trim_end {z q : Nat} (h : nd 256 z ≤ q + 1) (h0 : dgt 256 z q ≠ 0) : nd 256 z = q + 1 := by
  rcases Nat.lt_or_ge q (nd 256 z) with c | c
  · omega
  · exact absurd (dgt_big (by omega) c) h0
end Go.Proofs.YtdfnejpfpkaplaaGreatDoor
namespace Go.Proofs.YtdfnejpfpkaplaaGreatDoor
open Go Go.RowKit Nt
set_option maxRecDepth 100000 in
theorem rText_zero (w : World) :
    Calls Tryz.prog 34 #[.string (natS 0)] w (fun e w' => e = .returned (.string (decS 0)) ∧ Below w.heap.size w w') := by
  have hE := natS_empty (n := 0) rfl
  have HD := Lib.hid decS_zero
  go_enter Tryz.func34, Tryz.ntmps34
  go_wp2_with fail
  go_ret
  exact ⟨by rw [HD.out]; rfl, Below.refl _ _⟩
set_option maxRecDepth 100000 in
set_option maxHeartbeats 4000000 in
theorem rText_c (n : Nat) (w : World) (hn : nd 256 n ≤ 16384) (h0 : n ≠ 0) :
    Calls Tryz.prog 34 #[.string (natS n)] w (fun e w' => e = .returned (.string (decS n)) ∧ Below w.heap.size w w') := by
  obtain ⟨i0, hi0, hz0, hj1, hj2⟩ := info_parts (P := Tryz.prog) (e := 5) (z := .int .u8 0) (size := 1) (bytes := 1) (by kernel_rfl)
  have hF := natS_full h0
  have hF2 := natS_full2 h0
  have HD := Lib.hid (decS_pos h0)
  have HND : Hid (nd 10 n ≤ 16384 * 8) := Lib.hid (by
    have h1 : nd 2 n ≤ 8 * 16384 := (bits_le n 16384).2 hn
    have h2 : n < 10 ^ nd 2 n := Nat.lt_of_lt_of_le (lt_nd (b := 2) (by omega)) (Nat.pow_le_pow_left (by omega) _)
    have := nd_le (b := 10) (by omega) h2
    omega)
  have KX := Lib.hid (fun w => rDigits_c n w (by omega))
  obtain ⟨N, hN⟩ : ∃ N, N = nd 256 n := ⟨_, rfl⟩
  rw [← hN] at KX hn
  have HN := Lib.hid hN
  have H0 := Lib.hid h0
  clear hN h0
  go_enter Tryz.func34, Tryz.ntmps34
  go_wp2_with fail
  refine (KX.out _).mono ?_
  rintro e w1 ⟨v1, rfl, ho1, hb1⟩
  rcases ho1.form with ⟨rfl, hnil⟩ | ⟨g, cap, cs, rfl, hgB, hgw, hblk, hcap, hcap2, hcs⟩
  · exfalso
    have h1 := congrArg List.length hnil
    rw [dl_length, HN.out] at h1
    exact H0.out ((nd_eq_zero (b := 256) (by omega)).1 h1)
  rw [dl_length] at ho1 ⊢
  have HO1 := Lib.hid ho1
  clear ho1 hcs hcap hcap2 hblk hF hF2
  go_wp2_with fail
  go_loopg [4, 5] n (fun G x y wr => ∃ (m L j : Nat), y = .int .i64 j ∧ j ≤ N ∧ Hid (j = nd 256 m) ∧ Hid (Own wr w.heap.size 3 .i64 (.slice (some ⟨g, 0, none⟩) N cap) (dl 256 m N)) ∧ Hid (Own wr (g + 1) 5 .u8 x (digs n L)) ∧ Hid (m = n / 10 ^ L) ∧ Hid (L ≤ nd 10 n) ∧ m ≤ G ∧ Below w.heap.size w wr ∧ g < wr.heap.size)
  case atStart => exact ⟨n, 0, N, rfl, Nat.le_refl _, HN, HO1, Lib.hid (Own.nil _ _ _ _), Lib.hid (by rw [Nat.pow_zero, Nat.div_one]), Lib.hid (Nat.zero_le _), Nat.le_refl _, hb1, hgw⟩
  case round =>
    obtain ⟨m, L, j, rfl, hj, hjm, hl, hown, hm, hL, hG, hbw, hgr⟩ := hrel
    by_cases hm0 : m = 0
    · subst hm0
      obtain rfl : j = 0 := by rw [hjm.out, nd_zero]
      have hLn : L = nd 10 n := by
        have h1 : n < 10 ^ L := by
          rcases Nat.lt_or_ge n (10 ^ L) with h | h
          · exact h
          · have := Nat.div_pos h (Nat.pow_pos (n := L) (show 0 < 10 by omega)); have := hm.out; omega
        have := nd_le (b := 10) (by omega) h1
        have := hL.out; omega
      subst hLn
      have hown2 := hown.out
      obtain ⟨D, hD⟩ : ∃ D, D = nd 10 n := ⟨_, rfl⟩
      have hlen := digs_length n D
      rw [← hD] at hown2
      have HND2 := HND
      rw [← hD] at HND2
      have hdpos : D ≠ 0 := fun c => H0.out ((nd_eq_zero (b := 10) (by omega)).1 (hD.symm.trans c))
      rcases hown2.form with ⟨rfl, hnil⟩ | ⟨g2, cap2, cs, rfl, hgB2, hgw2, hblk2, hcap2, hcap3, hcs2⟩
      · exfalso
        rw [hnil] at hlen
        exact hdpos hlen.symm
      · rw [hlen]
        have hC : ∀ p, p < D → cs[p]? = some (.int .u8 ((48 + dgt 10 n p : Nat) : Int)) := fun p hp => by
          have h1 : p < (digs n D).length := by rw [hlen]; exact hp
          rw [hcs2 p h1, digs_get n D p h1]
        have HC := Lib.hid hC
        have HB := Lib.hid hblk2
        have HDD := Lib.hid hD
        have HHD := Lib.hid HND2.out
        have hD8 : D ≤ 131072 := by have := HND2.out; omega
        have hw : wrap64 ((D : Int) - 1) = (D : Int) - 1 := IntWalk.wrap64_in _ (by omega)
        have hg2w : w.heap.size ≤ g2 := by omega
        have HDP := Lib.hid hdpos
        clear hC hcs2 hblk2 hlen hown2 hown hl hm hL hjm hD HND2 hgB2 hcap2 hcap3 hG hj hdpos
        go_wp2_with fail
        go_loopw [8, 9] (fun x y wr => ∃ (i : Nat) (z : Int) (cs : Array Value), x = .int .i64 i ∧ y = .int .i64 z ∧ Hid (z = (D : Int) - 1 - (i : Int)) ∧ Hid (2 * i ≤ D + 1) ∧ Hid (Blk wr g2 5 cs) ∧ Hid (∀ j, j < D → cs[j]? = some (.int .u8 (swF (fun p => 48 + dgt 10 n p) D i j : Nat))) ∧ Below w.heap.size w wr) (fun x _ _ => D - (intOf x).toNat)
        case atStart => exact ⟨0, (D : Int) - 1, cs, rfl, rfl, Lib.hid (by omega), Lib.hid (by omega), HB, Lib.hid (fun j hj => by rw [HC.out j hj]; unfold swF; rw [if_neg (by have := HDP.out; omega)]), hbw⟩
        case round =>
          obtain ⟨i, z, cs', rfl, rfl, hz, hi, hblk, hcs, hbw⟩ := hrel
          by_cases hlt : i < D - 1 - i
          · obtain ⟨j, hj⟩ : ∃ j, D = i + 1 + j := ⟨D - i - 1, by omega⟩
            have hjz : z = (j : Int) := by have := hz.out; omega
            have hij : i < j := by omega
            have HJ := Lib.hid hj
            have hin : i < D := by omega
            have hjn : j < D := by omega
            have c1 := hblk.out.cell i
            rw [hcs.out i hin] at c1
            have c2 := hblk.out.cell j
            rw [hcs.out j hjn] at c2
            have f1 := hblk.out.frozen i
            have f2 := hblk.out.frozen j
            have e1 : swF (fun p => 48 + dgt 10 n p) D i i = 48 + dgt 10 n i := by unfold swF; rw [if_neg (by omega)]
            have e2 : swF (fun p => 48 + dgt 10 n p) D i j = 48 + dgt 10 n j := by unfold swF; rw [if_neg (by omega)]
            rw [e1] at c1
            rw [e2] at c2
            have hst := sw_set hcs.out hlt
            rw [show D - 1 - i = j by omega] at hst
            generalize ha : 48 + dgt 10 n i = a at *
            generalize hb : 48 + dgt 10 n j = b at *
            have HST := Lib.hid hst
            have b1 := Lib.hid ((hblk.out.set_ i (.int .u8 (b : Nat))).set_ j (.int .u8 (a : Nat)))
            have bb := (hbw.setCell (p := ⟨g2, i, none⟩) hg2w (.int .u8 (b : Nat))).setCell (p := ⟨g2, j, none⟩) hg2w (.int .u8 (a : Nat))
            have c2' : (wr.setCell ⟨g2, i, none⟩ (.int .u8 (b : Nat))).cell? ⟨g2, j, none⟩ = some (.int .u8 (b : Nat)) := by
              rw [(hblk.out.set_ i _).cell, Array.getElem?_setIfInBounds_ne (by omega), ← hblk.out.cell]
              exact c2
            have f2' : (wr.setCell ⟨g2, i, none⟩ (.int .u8 (b : Nat))).frozen? ⟨g2, j, none⟩ = false := (hblk.out.set_ i _).frozen j
            have hw2 : wrap64 ((j : Int) - 1) = (j : Int) - 1 := IntWalk.wrap64_in _ (by omega)
            have Hi := Lib.hid hi
            have HA := Lib.hid ha
            have HBB := Lib.hid hb
            subst hjz
            clear hst hj hlt e1 e2 ha hb
            go_wp2_with fail
            go_roundw
            case rel =>
              exact ⟨i + 1, (j : Int) - 1, _, by go_num, rfl, Lib.hid (by have := HJ.out; omega), Lib.hid (by have := HJ.out; omega), b1, HST, bb⟩
            case measure => simp [intOf]; omega
          · have hnl : ¬ (i : Int) < z := by have := hz.out; omega
            have HL := Lib.hid hlt
            clear hlt
            have hcv : (convert 79 9 (.slice (some ⟨g2, 0, none⟩) D cap2)).run Tryz.prog wr = .ok (.string (decS n)) wr := by
              rw [HD.out]
              have hl : ((digs n (nd 10 n)).reverse.map UInt8.ofNat).length = D := by rw [List.length_map, List.length_reverse, digs_length, HDD.out]
              have h := run_convert_bytes_back (P := Tryz.prog) wr 79 9 5 ⟨g2, 0, none⟩ cap2 ((digs n (nd 10 n)).reverse.map UInt8.ofNat) Tryz.underlying79 Tryz.underlying5 Tryz.underlying9 (fun p hp => by
                have hp' : p < D := by rw [← hl]; exact hp
                have e : swF (fun p => 48 + dgt 10 n p) D i p = 48 + dgt 10 n (nd 10 n - 1 - p) := by
                  have h1 := HL.out
                  have h2 := hi.out
                  have h3 := HDD.out
                  unfold swF
                  by_cases h4 : p < i ∨ D - i ≤ p
                  · rw [if_pos h4, h3]
                  · rw [if_neg h4]
                    show 48 + dgt 10 n p = _
                    congr 2; omega
                rw [add_plain0, hblk.out.cell, hcs.out p hp', e, List.getElem_map, List.getElem_reverse, digs_get, digs_length, UInt8.toNat_ofNat', Nat.mod_eq_of_lt]
                have := dgt_lt (b := 10) (by omega) n (nd 10 n - 1 - p); omega)
              rw [hl] at h
              exact h
            go_wp2_with fail
            go_ret
            exact ⟨rfl, hbw⟩
    · obtain ⟨jj, rfl⟩ : ∃ jj, j = jj + 1 := by
        refine ⟨j - 1, ?_⟩
        have : nd 256 m ≠ 0 := fun c => hm0 ((nd_eq_zero (by omega)).1 c)
        have := hjm.out
        omega
      have hN4 : N ≤ 16384 := hn
      have HR0 := Lib.hid (ten_first hjm.out)
      have HL0 : Hid (Own wr w.heap.size 3 .i64 (.slice (some ⟨g, 0, none⟩) N cap) ((List.range N).map (tenF m (jj + 1)))) := Lib.hid (by
        rw [hjm.out, tenF_start]; exact hl.out)
      have HM0 := Lib.hid hm0
      have HHG := Lib.hid hG
      have hjI : ((jj + 1 : Nat) : Int) - 1 = (jj : Int) := by omega
      clear hl hm0 hG
      go_wp2_with fail
      go_loopw [6, 7] (fun r ii wr2 => ∃ (k R : Nat) (z : Int), ii = .int .i64 z ∧ z + 1 = (k : Int) ∧ k ≤ jj + 1 ∧ r = .int .i64 R ∧ Hid (R = m / 256 ^ k % 10) ∧ Hid (Own wr2 w.heap.size 3 .i64 (.slice (some ⟨g, 0, none⟩) N cap) ((List.range N).map (tenF m k))) ∧ Hid (Own wr2 (g + 1) 5 .u8 u4 (digs n L)) ∧ Below w.heap.size w wr2 ∧ g < wr2.heap.size) (fun _ ii _ => (intOf ii + 1).toNat)
      case atStart => exact ⟨jj + 1, 0, _, rfl, (by first | rfl | omega | go_num), Nat.le_refl _, rfl, Lib.hid HR0.out.symm, HL0, hown, hbw, hgr⟩
      case round =>
        obtain ⟨k, R, z, rfl, hz, hk, rfl, hR, hl2, hown2, hbw2, hgr2⟩ := hrel
        rcases Nat.eq_zero_or_pos k with rfl | hkp
        · obtain rfl : z = -1 := by omega
          have hRm : R = dgt 10 n L := by
            rw [hR.out, Nat.pow_zero, Nat.div_one, hm.out, dgt_def]
          have hR10 : R < 10 := by rw [hRm]; exact dgt_lt (by omega) _ _
          have HLE : Hid (Own wr w.heap.size 3 .i64 (.slice (some ⟨g, 0, none⟩) N cap) (dl 256 (m / 10) N)) := Lib.hid (by rw [← tenF_end]; exact hl2.out)
          have HLM : Hid (L + 1 ≤ nd 10 n) := Lib.hid ((pow_le_iff (b := 10) (by omega) _ _).1 (by
            rcases Nat.lt_or_ge n (10 ^ L) with c | c
            · exact absurd (by rw [hm.out]; exact Nat.div_eq_of_lt c) HM0.out
            · exact c))
          obtain ⟨y, hy⟩ : ∃ y, y = 48 + R := ⟨_, rfl⟩
          have hyI : (48 : Int) + (R : Int) = (y : Int) := by omega
          have hyw : IntKind.u8.wrap (y : Int) = (y : Int) := by rw [wrap_u8]; omega
          have HDG := Lib.hid (show digs n (L + 1) = digs n L ++ [y] by rw [digs_succ, hy, hRm])
          have hlen : Hid ((digs n L).length + 1 ≤ 17592186044416) := Lib.hid (by rw [digs_length]; have := HND.out; have := hL.out; omega)
          have HZ : Hid (nd 256 (m / 10) ≤ jj + 1) := Lib.hid (by rw [hjm.out]; exact nd_mono (by omega) (Nat.div_le_self _ _))
          have hy8 : y < 58 := by omega
          clear hRm hy hl2 hR hk
          go_wp2_with (at_builtin; go_loud (refine wpList_app1 wr rfl (.tmp 39) (.tmp 43) _ rfl (g + 1) 5 5 i0 .u8 1 Tryz.underlying79 hi0 hz0 hj1 hj2 (by omega) _ (digs n L) y rfl rfl hown2.out hlen.out hgr2 ?_); intro v5 w5 hown5 hb5 hfr5 hnw5)
          rw [← HDG.out] at hown5
          have HO5 := Lib.hid hown5
          have HL5 : Hid (Own w5 w.heap.size 3 .i64 (.slice (some ⟨g, 0, none⟩) N cap) (dl 256 (m / 10) N)) := Lib.hid (HLE.out.below hb5 (fun g' e => by
            have : g = g' := Option.some.inj e
            omega))
          have hbw5 : Below w.heap.size w w5 := hbw2.trans (hb5.mono (by omega))
          have hgr5 : g < w5.heap.size := Nat.lt_of_lt_of_le hgr2 hb5.size
          clear hown5 hfr5 hnw5 hb5 HLE hown2 hbw2 hgr2
          have HM10 : Hid (m / 10 = n / 10 ^ (L + 1)) := Lib.hid (by rw [hm.out, Nat.div_div_eq_div_mul, Nat.pow_succ])
          have HLT : Hid (m / 10 < m) := Lib.hid (Nat.div_lt_self (Nat.pos_of_ne_zero HM0.out) (by omega))
          clear hyI hyw
          go_loopw [5] (fun nn wr3 => ∃ q : Nat, nn = .int .i64 q ∧ q ≤ N ∧ Hid (nd 256 (m / 10) ≤ q) ∧ Hid (Own wr3 w.heap.size 3 .i64 (.slice (some ⟨g, 0, none⟩) N cap) (dl 256 (m / 10) N)) ∧ Hid (Own wr3 (g + 1) 5 .u8 v5 (digs n (L + 1))) ∧ Below w.heap.size w wr3 ∧ g < wr3.heap.size) (fun nn _ => (intOf nn).toNat)
          case atStart => exact ⟨jj + 1, rfl, hj, HZ, HL5, HO5, hbw5, hgr5⟩
          case round =>
            obtain ⟨q, rfl, hq, hz6, hl6, ho6, hb6, hg6⟩ := hrel
            rcases Nat.eq_zero_or_pos q with rfl | hqp
            · have HQ : Hid (0 = nd 256 (m / 10)) := Lib.hid (by have := hz6.out; omega)
              go_wp2_with fail
              go_roundg (m / 10)
              case rel => exact ⟨m / 10, L + 1, 0, rfl, Nat.zero_le _, HQ, hl6, ho6, HM10, HLM, Nat.le_refl _, hb6, hg6⟩
              case measure => have := HHG.out; have := HLT.out; omega
            · obtain ⟨p, rfl⟩ : ∃ p, q = p + 1 := ⟨q - 1, by omega⟩
              have hpI : ((p + 1 : Nat) : Int) - 1 = (p : Int) := by omega
              obtain ⟨g', cap', e1, hgB', hga, hcx, hfx⟩ := hl6.out.cell (j := p) (by rw [dl_length]; omega)
              injection e1 with e1 e2 e3
              injection e1 with e1
              injection e1 with e1 _ _
              subst e1
              rw [dl_get] at hcx
              have hq0 : (0 : Int) < ((p + 1 : Nat) : Int) := by omega
              by_cases hd0 : dgt 256 (m / 10) p = 0
              · rw [hd0] at hcx
                have HT := Lib.hid (trim_more hz6.out hd0)
                clear hd0 e2 e3 hqp
                go_wp2_with fail
                go_roundw
                case rel => exact ⟨p, by go_num, by omega, HT, hl6, ho6, hb6, hg6⟩
                case measure => simp [intOf]
              · have HT := Lib.hid (trim_end hz6.out hd0).symm
                generalize dgt 256 (m / 10) p = d at *
                have hdI : ((d : Int) == 0) = false := by rw [beq_eq_false_iff_ne]; omega
                have hdI2 : ¬ (d : Int) = 0 := by omega
                have hd2 : ¬ d = 0 := hd0
                clear e2 e3 hqp
                go_wp2_with fail
                go_roundg (m / 10)
                case rel => exact ⟨m / 10, L + 1, p + 1, rfl, hq, HT, hl6, ho6, HM10, HLM, Nat.le_refl _, hb6, hg6⟩
                case measure => have := HHG.out; have := HLT.out; omega
        · obtain ⟨k', rfl⟩ : ∃ k', k = k' + 1 := ⟨k - 1, by omega⟩
          obtain rfl : z = (k' : Int) := by omega
          obtain ⟨g', cap', e1, hgB', hga, hcx, hfx⟩ := hl2.out.cell (j := k') (by simp; omega)
          injection e1 with e1 e2 e3
          injection e1 with e1
          injection e1 with e1 _ _
          subst e1
          obtain ⟨d, hd⟩ : ∃ d, d = dgt 256 m k' := ⟨_, rfl⟩
          obtain ⟨q, hq⟩ : ∃ q, q = dgt 256 (m / 10) k' := ⟨_, rfl⟩
          obtain ⟨r, hr⟩ : ∃ r, r = m / 256 ^ k' % 10 := ⟨_, rfl⟩
          obtain ⟨t1, t2, t3, t4, t5, t6⟩ := ten_digit hR.out hd hq hr
          have hcx2 : wr.cell? ⟨g, k', none⟩ = some (.int .i64 (d : Nat)) := by rw [hcx, hd]; simp [tenF]
          obtain ⟨V, hV⟩ : ∃ V, V = 256 * R + d := ⟨_, rfl⟩
          have hVI : 256 * (R : Int) + (d : Int) = (V : Int) := by omega
          rw [hVI] at t1 t2
          have hV8 : V ≤ 2600 := by omega
          have HO2 : Hid (Own (wr.setCell ⟨g, k', none⟩ (.int .i64 (q : Nat))) w.heap.size 3 .i64 (.slice (some ⟨g, 0, none⟩) N cap) ((List.range N).map (tenF m k'))) := Lib.hid (by
            rw [← tenF_step, ← hq]; exact hl2.out.set_ k' q)
          have HO3 : Hid (Own (wr.setCell ⟨g, k', none⟩ (.int .i64 (q : Nat))) (g + 1) 5 .u8 u4 (digs n L)) := Lib.hid (hown2.out.far (p := ⟨g, k', none⟩) (Nat.lt_succ_self g) _)
          have hb2 := hbw2.setCell (p := ⟨g, k', none⟩) hgB (.int .i64 (q : Nat))
          have hgr3 : g < (wr.setCell ⟨g, k', none⟩ (.int .i64 (q : Nat))).heap.size := by simpa [World.setCell] using hgr2
          have HR2 := Lib.hid hr
          clear hcx hl2 hown2 e2 e3 hd hq hr hV hz hkp
          go_wp2_with fail
          go_roundw
          case rel => exact ⟨k', r, _, by go_num, (by first | omega | go_num), by omega, by rw [t2], HR2, HO2, HO3, hb2, hgr3⟩
          case measure => simp [intOf]
end Go.Proofs.YtdfnejpfpkaplaaGreatDoor
namespace Go.Proofs.YtdfnejpfpkaplaaGreatDoor
open Go Go.RowKit Nt
def tmF (x y k p : Nat) : Nat := if p < k then dgt 256 y p else dgt 256 x p
theorem tmF_zero (x y L : Nat) : (List.range L).map (tmF x y 0) = dl 256 x L := by
  unfold dl
  apply List.map_congr_left
  intro p _
  unfold tmF; rw [if_neg (by omega)]
theorem tmF_end (x y k : Nat) : (List.range k).map (tmF x y k) = dl 256 y k := by
  unfold dl
  apply List.map_congr_left
  intro p hp
  unfold tmF; rw [if_pos (by simpa using hp)]
theorem tmF_app {x y k : Nat} (h : nd 256 x ≤ k) : (List.range k).map (tmF x y k) ++ [0] = (List.range (k + 1)).map (tmF x y k) := by
  rw [List.range_succ, List.map_append, List.map_singleton]
  unfold tmF
  rw [if_neg (by omega), dgt_big (by omega) h]
theorem tmF_step (x y N k : Nat) : ((List.range N).map (tmF x y k)).set k (dgt 256 y k) = (List.range N).map (tmF x y (k + 1)) := by
  refine range_set fun p _ => ?_
  unfold tmF
  by_cases c : p = k
  · rw [if_pos c, if_pos (by omega), c]
  · rw [if_neg c]
    by_cases c2 : p < k
    · rw [if_pos c2, if_pos (by omega)]
    · rw [if_neg c2, if_neg (by omega)]
theorem tmF_at (x y k : Nat) : tmF x y k k = dgt 256 x k := by unfold tmF; rw [if_neg (by omega)]
theorem tm_digit {x d k q a s r e : Nat} (hd : d < 10) (hq : q = mca 256 x 10 d k) (ha : a = dgt 256 x k) (hs : s = q + 10 * a) (hr : r = s % 256) (he : e = s / 256) :
    r = dgt 256 (x * 10 + d) k ∧ e = mca 256 x 10 d (k + 1) ∧ q < 256 ∧ a < 256 ∧ e < 256 := by
  have h1 := dgt_mca (b := 256) (by omega) x 10 d k
  have h2 := mca_succ (b := 256) (by omega) x 10 d k
  have h3 := mca_lt (b := 256) (by omega) x 10 d k (by omega) (by omega)
  have h4 := dgt_lt (b := 256) (by omega) x k
  rw [← hq, ← ha] at h1 h2
  rw [← hq] at h3
  rw [← ha] at h4
  have e : a * 10 + q = s := by omega
  rw [e] at h1 h2
  exact ⟨by omega, by omega, h3, h4, by omega⟩
theorem tm_carry {x d k : Nat} (h : nd 256 x ≤ k) : mca 256 x 10 d k = (x * 10 + d) / 256 ^ k := by
  rw [mca_def, Nat.mod_eq_of_lt ((lt_pow_iff (by omega) _ _).2 h)]
theorem tm_end {x d k : Nat} (h : nd 256 x ≤ k) (h0 : mca 256 x 10 d k = 0) : nd 256 (x * 10 + d) ≤ k := by
  rw [tm_carry h] at h0
  refine nd_le (by omega) ?_
  rcases Nat.lt_or_ge (x * 10 + d) (256 ^ k) with c | c
  · exact c
  · have := Nat.div_pos c (Nat.pow_pos (n := k) (show 0 < 256 by omega)); omega
theorem tm_more {x d k : Nat} (h : nd 256 x ≤ k) (h0 : mca 256 x 10 d k ≠ 0) : k + 1 ≤ nd 256 (x * 10 + d) := by
  rw [tm_carry h] at h0
  refine (pow_le_iff (b := 256) (by omega) _ _).1 ?_
  rcases Nat.lt_or_ge (x * 10 + d) (256 ^ k) with c | c
  · exact absurd (Nat.div_eq_of_lt c) h0
  · exact c
set_option maxRecDepth 100000 in
theorem rRead_empty (s : ByteArray) (w : World) (h : s.size = 0) :
    Calls Tryz.prog 29 #[.string s] w (StrPost ⟨#[]⟩ 22 w) := by
  have hE := toList_empty h
  have H := Lib.hid h
  clear h
  go_enter Tryz.func29, Tryz.ntmps29
  go_wp2
  go_ret2
  exact ⟨rfl, Below.refl _ _⟩
set_option maxRecDepth 100000 in
theorem rRead_nought (s : ByteArray) (w : World) (h : 1 < s.size) (h0 : s[0].toNat = 48) (hs : s.size ≤ 9223372036854775807) :
    Calls Tryz.prog 29 #[.string s] w (StrPost ⟨#[]⟩ 22 w) := by
  have hp : 0 < s.size := by omega
  have hE := toList_full hp
  have hE2 := toList_full2 hp
  have h48 : ((s[0].toNat : Int) == 48) = true := by rw [beq_iff_eq]; omega
  have hI : (1 : Int) < (s.size : Int) := by omega
  have H0 := Lib.hid h0
  clear h0
  go_enter Tryz.func29, Tryz.ntmps29
  go_wp2
  go_ret2
  exact ⟨rfl, Below.refl _ _⟩
set_option maxRecDepth 100000 in
set_option maxHeartbeats 1000000 in
theorem rRead_bad (s : ByteArray) (w : World) (hs : s.size ≤ 9223372036854775807) (hp : 0 < s.size) (hn : ¬ (1 < s.size ∧ ∀ h : 0 < s.size, s[0].toNat = 48)) (hd : ¬ Digits s) :
    Calls Tryz.prog 29 #[.string s] w (StrPost ⟨#[]⟩ 22 w) := by
  have hE := toList_full hp
  have hE2 := toList_full2 hp
  have HD := Lib.hid hd
  have hh := head_no hp hn
  clear hn hd
  rcases hh with h1 | ⟨h1, h2, h3⟩
  all_goals
    go_enter Tryz.func29, Tryz.ntmps29
    go_wp2
    go_loop [4] (fun i => ∃ k : Nat, k ≤ s.size ∧ i = .int .i64 k ∧ Hid (∀ j (h : j < s.size), j < k → isDig s[j])) (fun i => s.size - (intOf i).toNat)
    case atStart => exact ⟨0, Nat.zero_le _, rfl, Lib.hid (fun j h hj => by omega)⟩
    case round =>
      obtain ⟨k, hk, rfl, hdg⟩ := hrel
      by_cases hlt : k < s.size
      · by_cases hdk : isDig s[k]
        · have hN : Hid (∀ j (h : j < s.size), j < k + 1 → isDig s[j]) := Lib.hid (fun j h hj => by
            rcases Nat.lt_or_ge j k with h4 | h4
            · exact hdg.out j h h4
            · obtain rfl : j = k := by omega
              exact hdk)
          unfold isDig at hdk
          have q1 : ¬ (s[k].toNat : Int) < 48 := by omega
          have q2 : ¬ (57 : Int) < (s[k].toNat : Int) := by omega
          clear hdk
          go_wp2
          go_round
          case rel => exact ⟨k + 1, by omega, by go_num, hN⟩
          case measure => simp [intOf]; omega
        · unfold isDig at hdk
          by_cases q1 : s[k].toNat < 48
          · have q2 : (s[k].toNat : Int) < 48 := by omega
            clear hdk
            go_wp2
            go_ret2
            exact ⟨rfl, Below.refl _ _⟩
          · have q2 : ¬ (s[k].toNat : Int) < 48 := by omega
            have q3 : (57 : Int) < (s[k].toNat : Int) := by omega
            clear hdk
            go_wp2
            go_ret2
            exact ⟨rfl, Below.refl _ _⟩
      · exact absurd (fun j h => hdg.out j h (by omega)) HD.out
set_option maxRecDepth 100000 in
set_option maxHeartbeats 4000000 in
theorem rRead_ok (s : ByteArray) (w : World) (hs : s.size ≤ 9223372036854775807) (hv : Valid s) (hlong : 39457 < s.size → ¬ fits (preV s s.size)) :
    Calls Tryz.prog 29 #[.string s] w (StrPost (resS (preV s s.size)) (resE (preV s s.size)) w) := by
  obtain ⟨i0, hi0, hz0, hj1, hj2⟩ := info_parts (P := Tryz.prog) (e := 3) (z := .int .i64 0) (size := 1) (bytes := 8) (by kernel_rfl)
  obtain ⟨hp, hd, hn⟩ := hv
  have hE := toList_full hp
  have hE2 := toList_full2 hp
  have HD := Lib.hid hd
  have hh := head_no hp hn
  have HL := Lib.hid hlong
  clear hn hd hlong
  rcases hh with h1 | ⟨h1, h2, h3⟩
  all_goals
    go_enter Tryz.func29, Tryz.ntmps29
    go_wp2
    go_loop [4] (fun i => ∃ k : Nat, k ≤ s.size ∧ i = .int .i64 k) (fun i => s.size - (intOf i).toNat)
    case atStart => exact ⟨0, Nat.zero_le _, rfl⟩
    case round =>
      obtain ⟨k, hk, rfl⟩ := hrel
      by_cases hlt : k < s.size
      · obtain ⟨q1, q2⟩ := first_no HD.out k hlt
        go_wp2
        go_round
        case rel => exact ⟨k + 1, by omega, by go_num⟩
        case measure => simp [intOf]; omega
      · obtain rfl : k = s.size := by omega
        by_cases hbig : 49152 < s.size
        · have hbI : (49152 : Int) < (s.size : Int) := by omega
          have e1 := Lib.hid (resS_no (HL.out (by omega)))
          have e2 := Lib.hid (resE_no (HL.out (by omega)))
          go_wp2
          go_ret2
          exact ⟨by rw [e1.out, e2.out]; rfl, Below.refl _ _⟩
        · have hbI : ¬ (49152 : Int) < (s.size : Int) := by omega
          have hsz : s.size ≤ 49152 := by omega
          have hszI : (s.size : Int) ≤ 49152 := by omega
          go_wp2
          go_loopw [5, 6] (fun v ii wr => ∃ (i x h c : Nat) (A : Option Addr), i ≤ s.size ∧ ii = .int .i64 i ∧ v = .slice A h c ∧ h ≤ 49152 ∧ Hid (x = preV s i) ∧ Hid (nd 256 x = h) ∧ Hid (Own wr w.heap.size 3 .i64 (.slice A h c) (dl 256 x h)) ∧ Below w.heap.size w wr) (fun _ ii _ => s.size - (intOf ii).toNat)
          case atStart =>
            exact ⟨0, 0, 0, 0, none, Nat.zero_le _, rfl, rfl, by omega, Lib.hid (preV_zero s).symm, Lib.hid (nd_zero _), Lib.hid (Own.nil _ _ _ _), Below.refl _ _⟩
          case round =>
            obtain ⟨i, x, h, c, A, hi, rfl, rfl, hh8, hx, hnx, hown, hb⟩ := hrel
            by_cases hlt : i < s.size
            · obtain ⟨d, hdd⟩ : ∃ d, d = s[i].toNat - 48 := ⟨_, rfl⟩
              have hdig := HD.out i hlt
              unfold isDig at hdig
              have hd10 : d < 10 := by omega
              have hpre := preV_succ s i hlt
              rw [← hdd, ← hx.out] at hpre
              have w2 : IntKind.u8.wrap ((s[i].toNat : Int) - 48) = (d : Int) := by rw [show (s[i].toNat : Int) - 48 = ((d : Nat) : Int) by omega, wrap_u8]; omega
              have w3 : wrap64 (d : Int) = (d : Int) := IntWalk.wrap64_in _ (by omega)
              obtain ⟨y, hy⟩ : ∃ y, y = x * 10 + d := ⟨_, rfl⟩
              have hyv : y = preV s (i + 1) := by rw [hpre, hy, Nat.mul_comm]
              have hny : nd 256 y ≤ 49152 := by
                have h5 := dig_pre HD.out (i + 1) (by omega)
                rw [← hyv] at h5
                exact Nat.le_trans (nd_le (b := 256) (by omega) (Nat.lt_of_lt_of_le h5 (Nat.pow_le_pow_left (by omega) _))) (by omega)
              have hxy : h ≤ nd 256 y := by
                have h5 : x ≤ y := by rw [hy]; exact Nat.le_trans (Nat.le_mul_of_pos_right x (show 0 < 10 by decide)) (Nat.le_add_right _ _)
                rw [← hnx.out]; exact nd_mono (by decide) h5
              have HNY := Lib.hid hny
              have HXY := Lib.hid hxy
              have HYV := Lib.hid hyv
              have HY := Lib.hid hy
              have HI := Lib.hid hi
              have HO1 : Hid (Own wr w.heap.size 3 .i64 (.slice A h c) ((List.range h).map (tmF x y 0))) := Lib.hid (by rw [tmF_zero]; exact hown.out)
              clear hdd hdig hpre hy hyv hny hxy hown hi
              go_wp2_with fail
              go_loopw [5, 7, 8] (fun v m kk wr2 => ∃ (k q h' c' : Nat) (A' : Option Addr), kk = .int .i64 k ∧ m = .int .i64 q ∧ v = .slice A' h' c' ∧ k ≤ h' ∧ h' ≤ 49152 ∧ Hid (h ≤ h') ∧ Hid (h' ≤ nd 256 y) ∧ Hid (q = mca 256 x 10 d k) ∧ Hid (Own wr2 w.heap.size 3 .i64 (.slice A' h' c') ((List.range h').map (tmF x y k))) ∧ Below w.heap.size w wr2) (fun _ _ kk _ => 49152 - (intOf kk).toNat)
              case atStart => exact ⟨0, d, h, c, A, rfl, rfl, rfl, Nat.zero_le _, hh8, Lib.hid (Nat.le_refl _), HXY, Lib.hid (mca_zero _ _ _ _).symm, HO1, hb⟩
              case round =>
                obtain ⟨k, q, h', c', A', rfl, rfl, rfl, hk, hh', hhh, hhy, hq, hown', hb'⟩ := hrel
                by_cases hstop : ¬ k < h' ∧ q = 0
                · obtain ⟨hk1, rfl⟩ := hstop
                  obtain rfl : k = h' := by omega
                  have HN2 : Hid (nd 256 y = k) := Lib.hid (by
                    have h5 := tm_end (x := x) (d := d) (k := k) (by rw [hnx.out]; exact hhh.out) hq.out.symm
                    rw [← HY.out] at h5
                    exact Nat.le_antisymm h5 hhy.out)
                  have HO2 : Hid (Own wr w.heap.size 3 .i64 (.slice A' k c') (dl 256 y k)) := Lib.hid (by rw [← tmF_end x y k]; exact hown'.out)
                  clear hown' hk hk1
                  go_wp2_with fail
                  go_roundw
                  case rel => exact ⟨i + 1, y, k, c', A', by omega, by go_num, rfl, hh', HYV, HN2, HO2, hb'⟩
                  case measure => simp [intOf]; omega
                · obtain ⟨a, ha⟩ : ∃ a, a = dgt 256 x k := ⟨_, rfl⟩
                  obtain ⟨sm, hsm⟩ : ∃ sm, sm = q + 10 * a := ⟨_, rfl⟩
                  obtain ⟨r, hr⟩ : ∃ r, r = sm % 256 := ⟨_, rfl⟩
                  obtain ⟨e, he⟩ : ∃ e, e = sm / 256 := ⟨_, rfl⟩
                  obtain ⟨t1, t2, t3, t4, t5⟩ := tm_digit hd10 hq.out ha hsm hr he
                  rw [← HY.out] at t1
                  have hsI : (q : Int) + 10 * (a : Int) = (sm : Int) := by omega
                  have hrI : (sm : Int) % 256 = (r : Int) := by omega
                  have heI : (sm : Int).tdiv 256 = (e : Int) := by rw [Int.tdiv_eq_ediv_of_nonneg (by omega)]; omega
                  have hs8 : sm ≤ 3000 := by omega
                  have hr8 : r < 256 := by omega
                  have HT1 := Lib.hid t1
                  have HT2 := Lib.hid t2
                  have HA := Lib.hid ha
                  have hcase : k < h' ∨ (k = h' ∧ 0 < q) := by
                    rcases Nat.lt_or_ge k h' with c | c
                    · exact Or.inl c
                    · exact Or.inr ⟨by omega, Nat.pos_of_ne_zero (fun c2 => hstop ⟨by omega, c2⟩)⟩
                  clear t1 t2 hsm hr he ha hstop
                  rcases hcase with hkh | ⟨rfl, hq0⟩
                  · obtain ⟨g, cap, e1, hgB, hga, hcx, hfx⟩ := hown'.out.cell (j := k) (by simpa using hkh)
                    injection e1 with e1 e2 e3
                    subst e1 e3
                    have hcx2 : wr.cell? ⟨g, k, none⟩ = some (.int .i64 (a : Nat)) := by rw [hcx, HA.out]; simp [tmF_at]
                    have hne1 : ¬ k = h' := by omega
                    have hne2 : ((k : Int) == (h' : Int)) = false := by rw [beq_eq_false_iff_ne]; omega
                    have HO2 : Hid (Own (wr.setCell ⟨g, k, none⟩ (.int .i64 (r : Nat))) w.heap.size 3 .i64 (.slice (some ⟨g, 0, none⟩) h' c') ((List.range h').map (tmF x y (k + 1)))) := Lib.hid (by
                      rw [← tmF_step, ← HT1.out]; exact hown'.out.set_ k r)
                    have hb2 := hb'.setCell (p := ⟨g, k, none⟩) hgB (.int .i64 (r : Nat))
                    clear hcx hown' e2
                    go_wp2_with fail
                    go_roundw
                    case rel => exact ⟨k + 1, e, h', c', _, by go_num, rfl, rfl, by omega, hh', hhh, hhy, HT2, HO2, hb2⟩
                    case measure => simp [intOf]; omega
                  · have hny2 : k + 1 ≤ nd 256 y := by
                      have h5 := tm_more (x := x) (d := d) (k := k) (by rw [hnx.out]; exact hhh.out) (by rw [← hq.out]; omega)
                      rw [← HY.out] at h5; exact h5
                    have hk2 : k + 1 ≤ 49152 := Nat.le_trans hny2 HNY.out
                    have HNY2 := Lib.hid hny2
                    have hlen : Hid (((List.range k).map (tmF x y k)).length + 1 ≤ 17592186044416) := Lib.hid (by simp; omega)
                    have HAPP := Lib.hid (tmF_app (x := x) (y := y) (k := k) (by rw [hnx.out]; exact hhh.out))
                    have HOW := hown'
                    have HHH : Hid (h ≤ k + 1) := Lib.hid (Nat.le_trans hhh.out (Nat.le_succ _))
                    clear hny2 hown' hk
                    have hkk : k < k + 1 := Nat.lt_succ_self k
                    go_wp2_with (at_builtin; go_loud (refine wpList_app1 wr rfl (.tmp 65) (.tmp 66) _ rfl w.heap.size 3 3 i0 .i64 8 Tryz.underlying88 hi0 hz0 hj1 hj2 (by omega) _ ((List.range k).map (tmF x y k)) 0 rfl rfl HOW.out hlen.out hb'.size ?_); intro v5 w5 hown5 hb5 hfr5 hnw5; (rw [HAPP.out] at hown5); (obtain ⟨g, cap, rfl, hgB, hga, hcx, hfx⟩ := hown5.cell (j := k) (by simp)); (have hcx2 : w5.cell? ⟨g, k, none⟩ = some (.int .i64 (a : Nat)) := by rw [hcx, HA.out]; simp [tmF_at]); (have HO5 : Hid (Own w5 w.heap.size 3 .i64 (.slice (some ⟨g, 0, none⟩) (k + 1) cap) ((List.range (k + 1)).map (tmF x y k))) := Lib.hid (by have h9 := hown5; rw [List.length_map, List.length_range] at h9; exact h9)); (rw [List.length_map, List.length_range]); (have hbw5 := hb'.trans hb5); (clear hcx hown5 hfr5 hnw5 hb5))
                    have HO6 : Hid (Own (w5.setCell ⟨g, k, none⟩ (.int .i64 (r : Nat))) w.heap.size 3 .i64 (.slice (some ⟨g, 0, none⟩) (k + 1) cap) ((List.range (k + 1)).map (tmF x y (k + 1)))) := Lib.hid (by
                      rw [← tmF_step, ← HT1.out]; exact HO5.out.set_ k r)
                    have hb6 := hbw5.setCell (p := ⟨g, k, none⟩) hgB (.int .i64 (r : Nat))
                    go_roundw
                    case rel => exact ⟨k + 1, e, k + 1, cap, _, by go_num, rfl, rfl, Nat.le_refl _, hk2, HHH, HNY2, HT2, HO6, hb6⟩
                    case measure => simp [intOf]; omega
            · obtain rfl : i = s.size := by omega
              have hlx : Hid ((dl 256 x h).length ≤ 1000000000) := Lib.hid (by rw [dl_length]; omega)
              have HOF : Hid (of 256 (dl 256 x h) = x) := Lib.hid (by
                rw [of_dl, ← hnx.out]; exact Nat.mod_eq_of_lt (lt_nd (by omega)))
              have KE := Lib.hid (fun w => rEnded_c x w (by rw [hnx.out]; omega))
              have HXX := hx
              clear hx
              go_wp2_with fail
              refine (rMade_c _ _ _ _ (dl_lt256 x h) hlx.out hown.out).mono ?_
              rintro e w' ⟨rfl, hb2⟩
              rw [HOF.out]
              go_wp2_with fail
              refine (KE.out _).mono ?_
              rintro e w3 ⟨rfl, rfl⟩
              go_wp2_with fail
              go_ret2
              exact ⟨by rw [← HXX.out]; rfl, below_chain hb hb2⟩
end Go.Proofs.YtdfnejpfpkaplaaGreatDoor
namespace Go.Proofs.YtdfnejpfpkaplaaGreatDoor
open Go Go.RowKit
/-! Plain functions on lists, straight by the recursor: the kernel runs them much faster. -/
section lists
variable {α β : Type}
noncomputable def getO (l : List α) : Nat → Option α := List.rec (motive := fun _ => Nat → Option α) (fun _ => none) (fun a _ ih n => Nat.rec (motive := fun _ => Option α) (some a) (fun m _ => ih m) n) l
theorem getO_eq : ∀ (l : List α) (n : Nat), getO l n = l[n]?
  | [], _ => rfl
  | _ :: _, 0 => rfl
  | _ :: l, n + 1 => (getO_eq l n).trans (by simp)
noncomputable def takeL (l : List α) : Nat → List α := List.rec (motive := fun _ => Nat → List α) (fun _ => []) (fun a _ ih n => Nat.rec (motive := fun _ => List α) [] (fun m _ => a :: ih m) n) l
theorem takeL_eq : ∀ (l : List α) (n : Nat), takeL l n = l.take n
  | [], n => by simp; rfl
  | _ :: _, 0 => rfl
  | a :: l, n + 1 => congrArg (a :: ·) (takeL_eq l n)
noncomputable def dropL (l : List α) : Nat → List α := List.rec (motive := fun _ => Nat → List α) (fun _ => []) (fun a r ih n => Nat.rec (motive := fun _ => List α) (a :: r) (fun m _ => ih m) n) l
theorem dropL_eq : ∀ (l : List α) (n : Nat), dropL l n = l.drop n
  | [], n => by simp; rfl
  | _ :: _, 0 => rfl
  | a :: l, n + 1 => dropL_eq l n
noncomputable def appL (l m : List α) : List α := List.rec (motive := fun _ => List α) m (fun a _ ih => a :: ih) l
theorem appL_eq : ∀ (l m : List α), appL l m = l ++ m
  | [], _ => rfl
  | a :: l, m => congrArg (a :: ·) (appL_eq l m)
noncomputable def lenL (l : List α) : Nat := List.rec (motive := fun _ => Nat) 0 (fun _ _ ih => Nat.succ ih) l
theorem lenL_eq : ∀ (l : List α), lenL l = l.length
  | [] => rfl
  | _ :: l => congrArg Nat.succ (lenL_eq l)
noncomputable def mapL (f : α → β) (l : List α) : List β := List.rec (motive := fun _ => List β) [] (fun a _ ih => f a :: ih) l
theorem mapL_eq (f : α → β) : ∀ (l : List α), mapL f l = l.map f
  | [] => rfl
  | a :: l => congrArg (f a :: ·) (mapL_eq f l)
noncomputable def allL (p : α → Bool) (l : List α) : Bool := List.rec (motive := fun _ => Bool) true (fun a _ ih => Bool.rec false ih (p a)) l
theorem allL_eq (p : α → Bool) : ∀ (l : List α), allL p l = l.all p
  | [] => rfl
  | a :: l => by
    rw [List.all_cons, ← allL_eq p l]
    show (Bool.rec (motive := fun _ => Bool) false (allL p l) (p a) : Bool) = _
    cases p a <;> rfl
noncomputable def forceN (n : Nat) (k : Nat → β) : β := Nat.rec (motive := fun _ => β) (k 0) (fun m _ => k (Nat.succ m)) n
theorem forceN_eq (n : Nat) (k : Nat → β) : forceN n k = k n := by cases n <;> rfl
noncomputable def forceI (n : Int) (k : Int → β) : β := Int.rec (motive := fun _ => β) (fun m => forceN m fun m => k (.ofNat m)) (fun m => forceN m fun m => k (.negSucc m)) n
theorem forceI_eq (n : Int) (k : Int → β) : forceI n k = k n := by
  cases n with
  | ofNat m => exact forceN_eq m fun m => k (.ofNat m)
  | negSucc m => exact forceN_eq m fun m => k (.negSucc m)
end lists
inductive AV where
  | lit (v : Value)
  | ptr (k off : Nat)
  | sl (k off len : Nat) (cap : Option Nat) (sz : Nat)
  | emp
  | agg (vs : List AV)
  | tup (vs : List AV)
  | ifc (t : TypeId) (v : AV)
  | fn (f : Fn) (first captured : List AV)
  | sym (i : Nat)
  | row (n off : Nat) (cells : List AV)
  deriving Inhabited
inductive Tr where
  | lf
  | nd (v : AV) (l r : Tr)
structure Fr where
  n : Nat
  t : Tr
noncomputable def trGet (t : Tr) : Nat → AV := Tr.rec (motive := fun _ => Nat → AV) (fun _ => .lit undef) (fun v _ _ ihl ihr i => Bool.rec (Bool.rec (ihr (i / 2 - 1)) (ihl (i / 2)) (Nat.beq (i % 2) 1)) v (Nat.beq i 0)) t
noncomputable def trSet (v : AV) (t : Tr) : Nat → Tr := Tr.rec (motive := fun _ => Nat → Tr) (fun _ => .lf) (fun u l r ihl ihr i => Bool.rec (Bool.rec (.nd u l (ihr (i / 2 - 1))) (.nd u (ihl (i / 2)) r) (Nat.beq (i % 2) 1)) (.nd v l r) (Nat.beq i 0)) t
noncomputable def trFull (d : Nat) : Tr := Nat.rec (motive := fun _ => Tr) .lf (fun _ t => .nd (.lit undef) t t) d
noncomputable def trInit (l : List AV) : Nat → Tr → Tr := List.rec (motive := fun _ => Nat → Tr → Tr) (fun _ t => t) (fun v _ ih i t => ih (i + 1) (trSet v t i)) l
noncomputable def getF (f : Fr) (i : Nat) : AV := Fr.rec (motive := fun _ => AV) (fun n t => Bool.rec (.lit undef) (trGet t i) (Nat.blt i n)) f
noncomputable def setF (v : AV) (f : Fr) (i : Nat) : Fr := Fr.rec (motive := fun _ => Fr) (fun n t => Bool.rec ⟨n, t⟩ ⟨n, trSet v t i⟩ (Nat.blt i n)) f
noncomputable def forceF {β : Type} (f : Fr) (k : Fr → β) : β := Fr.rec (motive := fun _ => β) (fun n t => Tr.rec (motive := fun _ => β) (k ⟨n, .lf⟩) (fun v l r _ _ => k ⟨n, .nd v l r⟩) t) f
theorem forceF_eq {β : Type} (f : Fr) (k : Fr → β) : forceF f k = k f := by
  cases f with
  | mk n t => cases t <;> rfl
structure AS where
  n : Nat
  h : List (Nat × List AV)
  wr : List Nat
  gl : List (Nat × List AV)
noncomputable def hasN (l : List Nat) (k : Nat) : Bool := List.rec (motive := fun _ => Bool) false (fun a _ ih => Bool.rec ih true (Nat.beq a k)) l
noncomputable def addW (k : Nat) (l : List Nat) : List Nat := match hasN l k with
  | true => l
  | false => k :: l
noncomputable def unionW (l m : List Nat) : List Nat := List.rec (motive := fun _ => List Nat) m (fun a _ ih => addW a ih) l
noncomputable def oldW (n : Nat) (l : List Nat) : List Nat := List.rec (motive := fun _ => List Nat) [] (fun a _ ih => Bool.rec (a :: ih) ih (Nat.ble n a)) l
noncomputable def look (k : Nat) (h : List (Nat × List AV)) : Option (List AV) :=
  List.rec (motive := fun _ => Option (List AV)) none (fun p _ ih => Bool.rec ih (some p.2) (Nat.beq p.1 k)) h
theorem look_cons (k : Nat) (p : Nat × List AV) (h : List (Nat × List AV)) : look k (p :: h) = if p.1 = k then some p.2 else look k h := by
  show (Bool.rec (look k h) (some p.2) (Nat.beq p.1 k) : Option (List AV)) = _
  cases hb : Nat.beq p.1 k with
  | true => rw [if_pos (Nat.eq_of_beq_eq_true hb)]
  | false => rw [if_neg (Nat.ne_of_beq_eq_false hb)]
noncomputable def upd (k : Nat) (b : List AV) (h : List (Nat × List AV)) : List (Nat × List AV) :=
  List.rec (motive := fun _ => List (Nat × List AV)) [] (fun p r ih => Bool.rec (p :: ih) ((p.1, b) :: r) (Nat.beq p.1 k)) h
noncomputable def kill (k : Nat) (h : List (Nat × List AV)) : List (Nat × List AV) :=
  List.rec (motive := fun _ => List (Nat × List AV)) [] (fun p _ ih => Bool.rec (p :: ih) ih (Nat.beq p.1 k)) h
noncomputable def dropNew (n : Nat) (h : List (Nat × List AV)) : List (Nat × List AV) :=
  List.rec (motive := fun _ => List (Nat × List AV)) [] (fun p _ ih => Bool.rec (p :: ih) ih (Nat.ble n p.1)) h
noncomputable def litOf2 (v : AV) (l : Option (List Value)) : Option (List Value) := match v, l with
  | .lit v, some l => some (v :: l)
  | _, _ => none
noncomputable def lits (l : List AV) : Option (List Value) := List.rec (motive := fun _ => Option (List Value)) (some []) (fun v _ ih => litOf2 v ih) l
noncomputable def mkAgg (vs : List AV) : AV := match lits vs with
  | some l => .lit (.agg l.toArray)
  | none => .agg vs
noncomputable def mkTup (vs : List AV) : AV := match lits vs with
  | some l => .lit (.tuple l.toArray)
  | none => .tup vs
noncomputable def AV.cells : AV → List AV
  | .agg vs => vs
  | .lit (.agg cs) => mapL .lit cs.toList
  | v => [v]
noncomputable def AV.one : AV → Bool
  | .agg _ | .tup _ => false
  | .lit (.agg _) | .lit (.tuple _) => false
  | _ => true
noncomputable def opnd (f : Fr) : Operand → AV
  | .tmp t => getF f t
  | .const v => .lit v
  | .global g => .lit (.pointer (some ⟨g, 0, none⟩))
  | .func k => .lit (.func (.func k) #[] #[])
noncomputable def val : AV → Value
  | .lit v => v
  | _ => undef
noncomputable def isLit : AV → Bool
  | .lit _ => true
  | _ => false
noncomputable def runPure (P : Program) {α : Type} : Sem α → Option α
  | .pure a => some a
  | .program k => runPure P (k P)
  | .mark _ k => runPure P k
  | _ => none
noncomputable def noSel : Op → Bool
  | .select .. => false
  | _ => true
noncomputable def evalPure (P : Program) (f : Fr) (o : Oper) : Option Next :=
  match noSel o.op && allL (fun x => isLit (opnd f x)) o.op.operands.toList with
  | true => runPure P (execOp (fun x => val (opnd f x)) o)
  | false => none
noncomputable def isRowT (P : Program) (t : TypeId) : Option Bool := match P.underlying t with
  | some (.struct _) | some (.array _ _) => some true
  | some _ => some false
  | none => none
noncomputable def sizeT (P : Program) (t : TypeId) : Option Nat := (P.info? t).map (·.size)
noncomputable def partOf (P : Program) (t : TypeId) (cs : List AV) (off : Nat) : Option AV :=
  match isRowT P t, sizeT P t with
  | some true, some n => match Nat.ble (off + n) (lenL cs) with
    | true => some (mkAgg (takeL (dropL cs off) n))
    | false => none
  | some false, some _ => getO cs off
  | _, _ => none
noncomputable def bound (d : Nat) : Option AV → Option Nat
  | none => some d
  | some (.lit (.int _ (.ofNat n))) => some n
  | some _ => none
noncomputable def bounds3 (len cap : Nat) (lo hi mx : Option AV) : Option (Nat × Nat × Nat) :=
  match hi, mx with
  | none, some _ => none
  | _, _ => match bound 0 lo, bound len hi, bound cap mx with
    | some l, some h, some m => match Nat.ble l h && (Nat.ble h m && Nat.ble m cap) with
      | true => some (l, h, m)
      | false => none
    | _, _, _ => none
noncomputable def cutSl (k off n l h m : Nat) : AV := match Nat.beq m l with
  | true => .sl k off (h - l) (some (m - l)) 0
  | false => .sl k (off + l * n) (h - l) (some (m - l)) 0
noncomputable def zeros (z : Array Value) (n : Nat) : List AV := mapL (fun i => .lit (z[i % z.size]!)) (List.range n)
noncomputable def newB (s : AS) (b : List AV) : AS := ⟨s.n + 1, (s.n, b) :: s.h, s.wr, s.gl⟩
noncomputable def fillA (place : Nat → Option (Nat × Nat)) (cells : List AV) : List (Nat × AV) → Option (List AV)
  | [] => some cells
  | (i, v) :: rest =>
    match place i with
    | none => none
    | some (off, size) => match Nat.beq (lenL v.cells) size && Nat.ble (off + lenL v.cells) (lenL cells) with
      | true => fillA place (appL (takeL cells off) (appL v.cells (dropL cells (off + lenL v.cells)))) rest
      | false => none
noncomputable def firstA (s : AS) (size n : Nat) : AV → Option (List AV)
  | .lit (.slice none _ _) => some []
  | .lit (.string b) => match Nat.ble n b.size with
    | true => some (mapL (fun x => .lit (.int .u8 x.toNat)) (takeL b.data.toList n))
    | false => none
  | .sl k off _ _ _ => match look k s.h with
    | some b => match Nat.ble (off + n * size) (lenL b) with
      | true => some (takeL (dropL b off) (n * size))
      | false => none
    | none => none
  | _ => none
noncomputable def lenOfSlice : AV → Option Nat
  | .lit (.slice none n _) => some n
  | .lit (.string b) => some b.size
  | .sl _ _ len _ _ => some len
  | .emp => some 0
  | _ => none
noncomputable def bytesOf : List AV → Option (List UInt8)
  | [] => some []
  | .lit (.int .u8 (.ofNat n)) :: r => match bytesOf r with
    | some l => some (UInt8.ofNat n :: l)
    | none => none
  | _ :: _ => none
abbrev CallE := Nat → FuncId → List AV → AS → Option (AV × AS)
noncomputable def appendTo (floor size : Nat) (x : AV) (new : List AV) (n : Nat) (s : AS) : Option (AV × AS) :=
  match x with
  | .lit (.slice none 0 0) => match Nat.beq n 0, Nat.ble n 1000000 with
    | true, _ => some (x, s)
    | false, true => some (.sl s.n 0 n none size, newB s new)
    | _, _ => none
  | .sl k off len none sz => match look k s.h, Nat.beq off 0 && (Nat.ble floor k && (Nat.beq sz size && Nat.ble (len + n) 1000000)) with
    | some b, true => match Nat.beq n 0, Nat.ble (len * size) (lenL b) with
      | true, _ => some (x, s)
      | false, true => some (.sl s.n 0 (len + n) none size, newB ⟨s.n, kill k s.h, addW k s.wr, s.gl⟩ (appL (takeL b (len * size)) new))
      | _, _ => none
    | _, _ => none
  | .sl k off len (some c) _ => match Nat.ble (len + n) c with
    | true => match look k s.h, Nat.ble floor k with
      | some b, true => match Nat.ble (off + (len + n) * size) (lenL b) with
        | true => some (.sl k off (len + n) (some c) 0, ⟨s.n, upd k (appL (takeL b (off + len * size)) (appL new (dropL b (off + (len + n) * size)))) s.h, addW k s.wr, s.gl⟩)
        | false => none
      | _, _ => none
    | false => match firstA s size len x, Nat.ble (len + n) 1000000 with
      | some old, true => some (.sl s.n 0 (len + n) none size, newB s (appL old new))
      | _, _ => none
  | _ => none
noncomputable def evalAppend (P : Program) (floor : Nat) (t u : TypeId) (x y : AV) (s : AS) : Option (AV × AS) :=
  match P.underlying t, P.underlying u with
  | some (.slice e), some (.slice _) | some (.slice e), some .string => match P.info? e with
    | some i => match i.zero, firstA s i.size ((lenOfSlice y).getD 0) y, lenOfSlice y with
      | some z, some new, some n => match Nat.beq z.cells.size i.size && (Nat.ble i.bytes 10000000 && (Nat.beq (lenL new) (n * i.size) && allL (·.one) new)) with
        | true => appendTo floor i.size x new n s
        | false => none
      | _, _, _ => none
    | none => none
  | _, _ => none
noncomputable def placeF (P : Program) (fs : Array Field) (j : Nat) : Option (Nat × Nat) := match fs[j]? with
  | some fd => (sizeT P fd.type).map (fd.offset, ·)
  | none => none
noncomputable def wlPick (f : Fr) (c a b : Operand) : Option AV := match opnd f c with
    | .lit (.bool true) => some (opnd f a)
    | .lit (.bool false) => some (opnd f b)
    | _ => none
noncomputable def wlExtract (f : Fr) (t : Operand) (i : Nat) : Option AV := match opnd f t with
    | .tup vs => (vs[i]?)
    | .lit (.tuple vs) => (vs[i]?).map .lit
    | _ => none
noncomputable def wlNil (f : Fr) (x : Operand) : Option AV := match opnd f x with
    | .ptr k off => some (.ptr k off)
    | _ => none
noncomputable def wlFieldAddr (P : Program) (f : Fr) (t : TypeId) (x : Operand) (i : Nat) : Option AV := match opnd f x with
    | .ptr k off => match P.underlying t with
      | some (.struct fs) => match fs[i]? with
        | some fd => match sizeT P fd.type with
          | some (_ + 1) => some (.ptr k (off + fd.offset))
          | _ => none
        | none => none
      | _ => none
    | _ => none
noncomputable def wlField (P : Program) (f : Fr) (t : TypeId) (x : Operand) (i : Nat) : Option AV := match opnd f x with
    | .agg vs => match P.underlying t with
      | some (.struct fs) => match fs[i]? with
        | some fd => (partOf P fd.type vs fd.offset)
        | none => none
      | _ => none
    | _ => none
noncomputable def wlIndexAddr (P : Program) (f : Fr) (t : TypeId) (x ix : Operand) : Option AV := match opnd f ix, opnd f x with
    | .lit (.int _ (.ofNat i)), .sl k off len _ _ => match P.underlying t with
      | some (.slice e) => match Nat.blt i len, sizeT P e with
        | true, some n => some (.ptr k (off + i * n))
        | _, _ => none
      | _ => none
    | .lit (.int _ (.ofNat i)), .ptr k off => match P.underlying t with
      | some (.array len e) => match Nat.blt i len, sizeT P e with
        | true, some n => some (.ptr k (off + i * n))
        | _, _ => none
      | _ => none
    | _, _ => none
noncomputable def wlSlice (P : Program) (f : Fr) (t : TypeId) (x : Operand) (lo hi mx : Option Operand) : Option AV := match opnd f x with
    | .sl k off len cap sz => match P.underlying t with
      | some (.slice e) => match sizeT P e, cap with
        | some n, some c => match bounds3 len c (lo.map (opnd f)) (hi.map (opnd f)) (mx.map (opnd f)) with
          | some (l, h, m) => some (cutSl k off n l h m)
          | none => none
        | some n, none => match mx with
          | some _ => none
          | none => match bounds3 len len (lo.map (opnd f)) (hi.map (opnd f)) none with
            | some (l, h, _) => match Nat.beq l 0 with
              | true => some (.sl k off h none sz)
              | false => match Nat.blt l len && Nat.beq sz n with
                | true => some (.sl k (off + l * n) (h - l) none sz)
                | false => none
            | none => none
        | _, _ => none
      | _ => none
    | .ptr k off => match P.underlying t with
      | some (.array c e) => match sizeT P e, bounds3 c c (lo.map (opnd f)) (hi.map (opnd f)) (mx.map (opnd f)) with
        | some n, some (l, h, m) => some (cutSl k off n l h m)
        | _, _ => none
      | _ => none
    | _ => none
noncomputable def wlMakeFunc (f : Fr) (fn : Fn) (a b : Array Operand) : Option AV := match allL (fun x => isLit (opnd f x)) a.toList && allL (fun x => isLit (opnd f x)) b.toList with
    | true => none
    | false => some (.fn fn (mapL (opnd f) a.toList) (mapL (opnd f) b.toList))
noncomputable def wlIface (P : Program) (f : Fr) (t : TypeId) (x : Operand) : Option AV := match opnd f x with
    | .lit _ => none
    | v => match P.underlying t with
      | some (.interface _) => none
      | some _ => some (.ifc t v)
      | none => none
noncomputable def wlBin (P : Program) (f : Fr) (op : BinOp) (t : TypeId) (x y : Operand) : Option AV := match opnd f x, opnd f y with
    | .ptr _ _, .lit (.pointer none) | .lit (.pointer none), .ptr _ _ => match P.underlying t, op with
      | some (.pointer _), .eql => some (.lit (.bool false))
      | some (.pointer _), .neq => some (.lit (.bool true))
      | _, _ => none
    | .sl _ _ _ _ _, .lit (.slice none _ _) | .lit (.slice none _ _), .sl _ _ _ _ _ => match P.underlying t, op with
      | some (.slice _), .eql => some (.lit (.bool false))
      | some (.slice _), .neq => some (.lit (.bool true))
      | _, _ => none
    | .fn _ _ _, .lit .nilFunc | .lit .nilFunc, .fn _ _ _ => match P.underlying t, op with
      | some (.func _ _ _), .eql => some (.lit (.bool false))
      | some (.func _ _ _), .neq => some (.lit (.bool true))
      | _, _ => none
    | _, _ => none
noncomputable def wlBuild (P : Program) (f : Fr) (t : TypeId) (ps : Array (Nat × Operand)) : Option AV := match allL (fun p => isLit (opnd f p.2)) ps.toList with
    | true => none
    | false => match P.info? t with
      | some i => match i.zero, P.underlying t with
        | some z, some (.struct fs) => match allL (fun fd => (sizeT P fd.type).isSome) fs.toList with
          | true => (fillA (placeF P fs) (mapL .lit z.cells.toList) (mapL (fun p => (p.1, opnd f p.2)) ps.toList)).map mkAgg
          | false => none
        | some z, some (.array _ e) => match sizeT P e with
          | some n => (fillA (fun j => some (j * n, n)) (mapL .lit z.cells.toList) (mapL (fun p => (p.1, opnd f p.2)) ps.toList)).map (mkAgg ·)
          | none => none
        | _, _ => none
      | none => none
noncomputable def wlLen (P : Program) (f : Fr) (args : Array Operand) (argTypes : Array TypeId) : Option AV := match args.toList, argTypes.toList with
    | [x], [t] => match opnd f x, P.underlying t with
      | .sl _ _ len _ _, some (.slice _) => some (.lit (goInt len))
      | .emp, some (.slice _) => some (.lit (goInt 0))
      | _, _ => none
    | _, _ => none
noncomputable def evalWl0 (P : Program) (f : Fr) (o : Oper) : Option AV :=
  match o.op with
  | .move x | .assign x => some (opnd f x)
  | .pick c a b => wlPick f c a b
  | .extract t i => wlExtract f t i
  | .nilCheck x => wlNil f x
  | .fieldAddr t x i => wlFieldAddr P f t x i
  | .field t x i => wlField P f t x i
  | .indexAddr t x ix => wlIndexAddr P f t x ix
  | .slice t x lo hi mx => wlSlice P f t x lo hi mx
  | .makeFunc fn a b => wlMakeFunc f fn a b
  | .makeInterface t x => wlIface P f t x
  | .binOp op t x y _ => wlBin P f op t x y
  | .build t ps => wlBuild P f t ps
  | .call { callee := .builtin .len, args, argTypes } => wlLen P f args argTypes
  | _ => none
noncomputable def fastInt (op : BinOp) (k k' : IntKind) (a b : Int) : Option Value :=
  match op with
  | .shl => match Int.decLt b 0 with
    | .isTrue _ => none
    | .isFalse _ => forceI (k.wrap (a * 2 ^ (min b.toNat k.bits))) fun z => some (.int k z)
  | .shr => match Int.decLt b 0 with
    | .isTrue _ => none
    | .isFalse _ => forceI (a.fdiv (2 ^ (min b.toNat k.bits))) fun z => some (.int k z)
  | _ => match decEq k k' with
    | .isFalse _ => none
    | .isTrue _ => match op with
      | .add => forceI (k.wrap (a + b)) fun z => some (.int k z)
      | .sub => forceI (k.wrap (a - b)) fun z => some (.int k z)
      | .mul => forceI (k.wrap (a * b)) fun z => some (.int k z)
      | .quo => match b with
        | .ofNat 0 => none
        | _ => forceI (k.wrap (a.tdiv b)) fun z => some (.int k z)
      | .rem => match b with
        | .ofNat 0 => none
        | _ => forceI (a.tmod b) fun z => some (.int k z)
      | .and => forceN ((BitVec.ofInt k.bits a).toNat &&& (BitVec.ofInt k.bits b).toNat) fun n => forceI (k.wrap n) fun z => some (.int k z)
      | .or => forceN ((BitVec.ofInt k.bits a).toNat ||| (BitVec.ofInt k.bits b).toNat) fun n => forceI (k.wrap n) fun z => some (.int k z)
      | .eql => some (.bool (a == b))
      | .neq => some (.bool (a != b))
      | .lss => some (.bool (a < b))
      | .leq => some (.bool (a ≤ b))
      | .gtr => some (.bool (a > b))
      | .geq => some (.bool (a ≥ b))
      | _ => none
noncomputable def fwBin (f : Fr) (op : BinOp) (x y : Operand) : Option AV := match opnd f x, opnd f y with
    | .lit (.int k a), .lit (.int k' b) => match fastInt op k k' a b with
      | some v => some (.lit v)
      | none => none
    | _, _ => none
noncomputable def fwConv (P : Program) (f : Fr) (src dst : TypeId) (x : Operand) : Option AV := match opnd f x with
    | .lit (.int _ n) => match P.underlying src, P.underlying dst with
      | some _, some (.int k) => forceI (k.wrap n) fun z => some (.lit (.int k z))
      | _, _ => none
    | _ => none
noncomputable def fwIndex (P : Program) (f : Fr) (t : TypeId) (x ix : Operand) : Option AV := match opnd f x, opnd f ix with
    | .lit (.string s), .lit (.int _ (.ofNat i)) => match P.underlying t with
      | some .string => match getO s.data.toList i with
        | some b => forceN b.toNat fun n => some (.lit (.int .u8 (.ofNat n)))
        | none => none
      | _ => none
    | _, _ => none
noncomputable def fwLen (P : Program) (f : Fr) (args : Array Operand) (argTypes : Array TypeId) : Option AV := match args.toList, argTypes.toList with
    | [x], [t] => match opnd f x, P.underlying t with
      | .lit (.string s), some .string => forceN s.size fun n => some (.lit (.int .i64 (.ofNat n)))
      | _, _ => none
    | _, _ => none
noncomputable def fastWl (P : Program) (f : Fr) (o : Oper) : Option AV :=
  match o.op with
  | .binOp op _ x y _ => fwBin f op x y
  | .convert src dst x => fwConv P f src dst x
  | .index t x ix => fwIndex P f t x ix
  | .call { callee := .builtin .len, args, argTypes } => fwLen P f args argTypes
  | _ => none
/-! What is known ahead, of operations and of calls, at values that are letters (sym): a table, looked up. -/
noncomputable def eqL {α : Type} (eq : α → α → Bool) (l : List α) : List α → Bool := List.rec (motive := fun _ => List α → Bool) (fun m => List.rec (motive := fun _ => Bool) true (fun _ _ _ => false) m) (fun a _ ih m => List.rec (motive := fun _ => Bool) false (fun b r _ => Bool.rec false (ih r) (eq a b)) m) l
noncomputable def bytesL (b : ByteArray) : List Nat := mapL (fun x => x.toNat) b.data.toList
noncomputable def eqV1 : Value → Value → Bool
  | .bool a, .bool b => a == b
  | .int k a, .int k' b => decide (k = k') && decide (a = b)
  | .float k a, .float k' b => decide (k = k') && Nat.beq a b
  | .complex k a c, .complex k' b d => decide (k = k') && (Nat.beq a b && Nat.beq c d)
  | .string a, .string b => eqL Nat.beq (bytesL a) (bytesL b)
  | _, _ => false
noncomputable def eqV : Value → Value → Bool
  | .agg a, .agg b => eqL eqV1 a.toList b.toList
  | a, b => eqV1 a b
noncomputable def eqA1 : AV → AV → Bool
  | .lit a, .lit b => eqV a b
  | .sym i, .sym j => Nat.beq i j
  | _, _ => false
noncomputable def eqA : AV → AV → Bool
  | .agg a, .agg b => eqL eqA1 a b
  | .row n o a, .row m p b => Nat.beq n m && (Nat.beq o p && eqL eqA1 a b)
  | a, b => eqA1 a b
noncomputable def ground1 : AV → Bool
  | .lit _ | .sym _ => true
  | _ => false
noncomputable def ground2 : AV → Bool
  | .agg a => allL ground1 a
  | a => ground1 a
noncomputable def ground : AV → Bool
  | .tup a => allL ground2 a
  | a => ground2 a
noncomputable def groundA : AV → Bool
  | .row _ _ a => allL ground1 a
  | a => ground a
noncomputable def flat1 (s : AS) : AV → AV
  | .sl k off len c sz => match look k s.h with
    | some b => .row len off (dropL b off)
    | none => .sl k off len c sz
  | v => v
noncomputable def binKey : BinOp → Nat
  | .add => 0 | .sub => 1 | .mul => 2 | .quo => 3 | .rem => 4 | .and => 5 | .or => 6 | .xor => 7 | .shl => 8 | .shr => 9 | .andNot => 10
  | .eql => 11 | .neq => 12 | .lss => 13 | .leq => 14 | .gtr => 15 | .geq => 16
noncomputable def unKey : UnOp → Nat
  | .neg => 0 | .xor => 1 | .not => 2 | .plus => 3
noncomputable def biKey : Builtin → Option Nat
  | .len => some 0 | .real => some 1 | .imag => some 2 | .complex => some 3
  | _ => none
noncomputable def keyOf (o : Oper) : Option (List Nat × List Operand) := match o.op with
  | .binOp op t x y _ => some ([0, binKey op, t], [x, y])
  | .unOp op t x => some ([1, unKey op, t], [x])
  | .convert src dst x => some ([2, src, dst], [x])
  | .index t x ix => some ([3, t], [x, ix])
  | .slice t x (some lo) none none => some ([4, t], [x, lo])
  | .slice t x none (some hi) none => some ([5, t], [x, hi])
  | .call { callee := .builtin b, args, argTypes } => match biKey b with
    | some k => some (6 :: k :: o.type :: argTypes.toList, args.toList)
    | none => none
  | .call { callee := .value (.func g), args, .. } => some ([7, g], args.toList)
  | _ => none
class Know where
  ops : List (List Nat × List AV × AV)
  calls : List (FuncId × List AV × AV)
noncomputable def findK (k : List Nat) (l : List AV) (t : List (List Nat × List AV × AV)) : Option AV := List.rec (motive := fun _ => Option AV) none (fun p _ ih => match eqL Nat.beq k p.1 with
  | true => match eqL eqA l p.2.1 with
    | true => some p.2.2
    | false => ih
  | false => ih) t
noncomputable def findC (g : FuncId) (l : List AV) (t : List (FuncId × List AV × AV)) : Option AV := List.rec (motive := fun _ => Option AV) none (fun p _ ih => match Nat.beq g p.1 with
  | true => match eqL eqA l p.2.1 with
    | true => some p.2.2
    | false => ih
  | false => ih) t
noncomputable def knowOp [Know] (f : Fr) (o : Oper) : Option AV := match keyOf o with
  | some (k, xs) => findK k (mapL (opnd f) xs) Know.ops
  | none => none
noncomputable def knowCall [Know] (call : CallE) : CallE := fun floor g l s => match findC g (mapL (flat1 s) l) Know.calls with
  | some r => some (r, s)
  | none => call floor g l s
noncomputable def evalWl [Know] (P : Program) (f : Fr) (o : Oper) : Option AV :=
  match fastWl P f o with
  | some v => some v
  | none => match evalWl0 P f o with
    | some v => some v
    | none => match evalPure P f o with
      | some (.value v) => some (.lit v)
      | _ => knowOp f o
noncomputable def memLoad (P : Program) (f : Fr) (t : TypeId) (a : Operand) (s : AS) : Option (AV × AS) := match opnd f a with
    | .ptr k off => match look k s.h with
      | some b => (partOf P t b off).map (·, s)
      | none => none
    | .lit (.pointer (some ⟨g, off, none⟩)) => match look g s.gl, isRowT P t with
      | some b, some false => match getO b off with
        | some v => some (v, s)
        | none => none
      | _, _ => none
    | _ => none
noncomputable def memStore (P : Program) (floor : Nat) (f : Fr) (t : TypeId) (a x : Operand) (s : AS) : Option (AV × AS) := match opnd f a with
    | .ptr k off => match look k s.h, Nat.ble floor k, sizeT P t with
      | some b, true, some n =>
        let cs := (opnd f x).cells
        match Nat.beq (lenL cs) n && (Nat.ble (off + n) (lenL b) && allL (·.one) cs) with
        | true => some (.lit undef, ⟨s.n, upd k (appL (takeL b off) (appL cs (dropL b (off + n)))) s.h, addW k s.wr, s.gl⟩)
        | false => none
      | _, _, _ => none
    | _ => none
noncomputable def memAlloc (P : Program) (t : TypeId) (s : AS) : Option (AV × AS) := match P.info? t with
    | some i => match i.zero with
      | some z => some (.ptr s.n 0, newB s (mapL .lit z.cells.toList))
      | none => none
    | none => none
noncomputable def memMake (P : Program) (f : Fr) (t : TypeId) (l c : Operand) (s : AS) : Option (AV × AS) := match opnd f l, opnd f c with
    | .lit (.int _ (.ofNat l)), .lit (.int _ (.ofNat c)) => match P.underlying t with
      | some (.slice e) => match P.info? e with
        | some i => match i.zero with
          | some z => match Nat.ble l c && (Nat.ble c 1000000 && Nat.ble i.bytes 100000000) with
            | true => some (.sl s.n 0 l (some c) 0, newB s (zeros z.cells (c * i.size)))
            | false => none
          | none => none
        | none => none
      | _ => none
    | _, _ => none
noncomputable def memBuild (P : Program) (f : Fr) (t : TypeId) (len : Nat) (ps : Array (Nat × Operand)) (s : AS) : Option (AV × AS) := match P.underlying t with
    | some (.slice e) => match P.info? e with
      | some i => match i.zero with
        | some z => match Nat.ble (len * i.size) 16777216 with
          | true => match fillA (fun j => some (j * i.size, i.size)) (zeros z.cells (len * i.size)) (mapL (fun p => (p.1, opnd f p.2)) ps.toList) with
            | some cs => some (.sl s.n 0 len (some len) 0, newB s cs)
            | none => none
          | false => none
        | none => none
      | none => none
    | _ => none
noncomputable def memConv (P : Program) (f : Fr) (src dst : TypeId) (x : Operand) (s : AS) : Option (AV × AS) := match opnd f x with
    | .sl k off len cap sz => match P.underlying src, P.underlying dst with
      | some (.slice e), some .string => match P.underlying e with
        | some (.int .u8) => match (firstA s 1 len (.sl k off len cap sz)).bind bytesOf with
          | some l => some (.lit (.string ⟨l.toArray⟩), s)
          | none => none
        | _ => none
      | _, _ => none
    | .lit (.string b) => match P.underlying src, P.underlying dst with
      | some .string, some (.slice e) => match P.underlying e with
        | some (.int .u8) => some (.sl s.n 0 b.size none 1, newB s (mapL (fun x => .lit (.int .u8 x.toNat)) b.data.toList))
        | _ => none
      | _, _ => none
    | _ => none
noncomputable def memApp (P : Program) (floor : Nat) (f : Fr) (args : Array Operand) (argTypes : Array TypeId) (s : AS) : Option (AV × AS) := match args.toList, argTypes.toList with
    | [x, y], [t, u] => evalAppend P floor t u (opnd f x) (opnd f y) s
    | _, _ => none
noncomputable def memCopy (P : Program) (floor : Nat) (f : Fr) (args : Array Operand) (argTypes : Array TypeId) (s : AS) : Option (AV × AS) := match args.toList, argTypes.toList with
    | [x, y], [t, _] => match P.underlying t with
      | some (.slice e) => match sizeT P e, opnd f x, lenOfSlice (opnd f y) with
        | some size, .sl k off len _ _, some m => match look k s.h, Nat.ble floor k, firstA s size (Nat.min m len) (opnd f y) with
          | some b, true, some src => match Nat.ble (off + lenL src) (lenL b) && allL (·.one) src with
            | true => some (.lit (goInt (Nat.min m len)), ⟨s.n, upd k (appL (takeL b off) (appL src (dropL b (off + lenL src)))) s.h, addW k s.wr, s.gl⟩)
            | false => none
          | _, _, _ => none
        | _, _, _ => none
      | _ => none
    | _, _ => none
noncomputable def evalMem (P : Program) (floor : Nat) (f : Fr) (o : Oper) (s : AS) : Option (AV × AS) :=
  match o.op with
  | .load t a => memLoad P f t a s
  | .store t a x => memStore P floor f t a x s
  | .alloc t => memAlloc P t s
  | .box t x => some (.ptr s.n 0, newB s ((opnd f x).cells))
  | .makeSlice t l c => memMake P f t l c s
  | .buildSlice t len ps => memBuild P f t len ps s
  | .convert src dst x => memConv P f src dst x s
  | .call { callee := .builtin .append, args, argTypes } => memApp P floor f args argTypes s
  | .call { callee := .builtin .copy, args, argTypes } => memCopy P floor f args argTypes s
  | _ => none
noncomputable def entered (P : Program) (g : FuncId) : Bool := match P.funcs[g]? with
  | some fn => fn.body.isSome && !(fn.name == "runtime.NumGoroutine")
  | none => false
noncomputable def calleeOf : AV → Option (FuncId × List AV × List AV)
  | .lit (.func (.func g) a b) => some (g, mapL .lit a.toList, mapL .lit b.toList)
  | .fn (.func g) a b => some (g, a, b)
  | _ => none
noncomputable def methodOf (P : Program) (x : AV) (name : String) (args : List AV) : Option (FuncId × List AV) := match x with
  | .lit (.iface t v) => match runPure P (method (P.types.size + Made.depth) t v name) with
    | some (g, r) => match entered P g with
      | true => some (g, .lit r :: args)
      | false => none
    | none => none
  | _ => none
noncomputable def callOf (P : Program) (f : Fr) (o : Oper) : Option (FuncId × List AV) :=
  match o.op with
  | .call { callee := .value x, args, .. } => match calleeOf (opnd f x) with
    | some (g, a, b) => match entered P g with
      | true => some (g, appL a (appL (mapL (opnd f) args.toList) b))
      | false => none
    | none => none
  | .call { callee := .invoke x name, args, .. } => methodOf P (opnd f x) name (mapL (opnd f) args.toList)
  | _ => none
noncomputable def evalOp0 [Know] (P : Program) (call : CallE) (floor : Nat) (f : Fr) (o : Oper) (s : AS) : Option (AV × AS) :=
  match callOf P f o with
  | some (g, l) => call floor g l s
  | none => match evalMem P floor f o s with
    | some r => some r
    | none => match evalWl P f o with
      | some v => some (v, s)
      | none => none
noncomputable def pureOp [Know] (P : Program) (f : Fr) (o : Oper) (s : AS) : Option (AV × AS) := match evalPure P f o with
  | some (.value v) => some (.lit v, s)
  | _ => match knowOp f o with
    | some v => some (v, s)
    | none => none
noncomputable def orMem (r d : Option (AV × AS)) : Option (AV × AS) := Option.rec (motive := fun _ => Option (AV × AS)) d (fun x => some x) r
noncomputable def orWl (r : Option AV) (s : AS) (d : Option (AV × AS)) : Option (AV × AS) := Option.rec (motive := fun _ => Option (AV × AS)) d (fun v => some (v, s)) r
structure OpF where
  fn : CallE → Nat → Fr → AS → Option (AV × AS)
noncomputable def callOp [Know] (P : Program) (x : Operand) (args : List Operand) (call : CallE) (floor : Nat) (f : Fr) (o : Oper) (s : AS) : Option (AV × AS) := match calleeOf (opnd f x) with
  | some (g, a, b) => match entered P g with
    | true => call floor g (appL a (appL (mapL (opnd f) args) b)) s
    | false => pureOp P f o s
  | none => pureOp P f o s
noncomputable def compOp [Know] (P : Program) (o : Oper) : OpF := match o.op with
  | .move x | .assign x => ⟨fun _ _ f s => some (opnd f x, s)⟩
  | .load t a => ⟨fun _ _ f s => orMem (memLoad P f t a s) (pureOp P f o s)⟩
  | .store t a x => ⟨fun _ floor f s => orMem (memStore P floor f t a x s) (pureOp P f o s)⟩
  | .extract t i => ⟨fun _ _ f s => orWl (wlExtract f t i) s (pureOp P f o s)⟩
  | .fieldAddr t x i => ⟨fun _ _ f s => orWl (wlFieldAddr P f t x i) s (pureOp P f o s)⟩
  | .field t x i => ⟨fun _ _ f s => orWl (wlField P f t x i) s (pureOp P f o s)⟩
  | .indexAddr t x ix => ⟨fun _ _ f s => orWl (wlIndexAddr P f t x ix) s (pureOp P f o s)⟩
  | .nilCheck x => ⟨fun _ _ f s => orWl (wlNil f x) s (pureOp P f o s)⟩
  | .pick c x y => ⟨fun _ _ f s => orWl (wlPick f c x y) s (pureOp P f o s)⟩
  | .binOp op t x y _ => ⟨fun _ _ f s => orWl (fwBin f op x y) s (orWl (wlBin P f op t x y) s (pureOp P f o s))⟩
  | .index t x ix => ⟨fun _ _ f s => orWl (fwIndex P f t x ix) s (pureOp P f o s)⟩
  | .convert src dst x => ⟨fun _ _ f s => orMem (memConv P f src dst x s) (orWl (fwConv P f src dst x) s (pureOp P f o s))⟩
  | .call { callee := .value x, args, .. } => ⟨fun call floor f s => callOp P x args.toList call floor f o s⟩
  | .call { callee := .builtin .len, args, argTypes } => ⟨fun _ _ f s => orWl (fwLen P f args argTypes) s (orWl (wlLen P f args argTypes) s (pureOp P f o s))⟩
  | .call { callee := .builtin .append, args, argTypes } => ⟨fun _ floor f s => orMem (memApp P floor f args argTypes s) (pureOp P f o s)⟩
  | _ => ⟨fun call floor f s => evalOp0 P call floor f o s⟩
noncomputable def evalOp [Know] (P : Program) (call : CallE) (floor : Nat) (f : Fr) (o : Oper) (s : AS) : Option (AV × AS) := OpF.rec (motive := fun _ => Option (AV × AS)) (fun fn => fn call floor f s) (compOp P o)
theorem orMem_eq (r d : Option (AV × AS)) : orMem r d = match r with
    | some x => some x
    | none => d := by cases r <;> rfl
theorem orWl_eq (r : Option AV) (s : AS) (d : Option (AV × AS)) : orWl r s d = match r with
    | some v => some (v, s)
    | none => d := by cases r <;> rfl
theorem evalOp_eq [Know] (P : Program) (call : CallE) (floor : Nat) (f : Fr) (o : Oper) (s : AS) : evalOp P call floor f o s = evalOp0 P call floor f o s := by
  obtain ⟨dst, op, type, pos, after, guard⟩ := o
  unfold evalOp compOp
  simp only
  split
  case h_17 => rfl
  all_goals
    simp only [orMem_eq, orWl_eq, pureOp, callOp, evalOp0, callOf, evalMem, evalWl, fastWl, evalWl0]
    try (repeat' split)
    all_goals first
      | rfl
      | simp_all
noncomputable def putA (f : Fr) : Option Tmp → AV → Fr
  | none, _ => f
  | some d, v => setF v f d
noncomputable def yieldedA (ops : Array Oper) (f : Fr) (j : Nat) : Option Bool :=
  match (ops[j]?).bind (·.dst) with
  | some d => match getF f d with
    | .lit (.bool b) => some b
    | _ => none
  | none => none
noncomputable def symAt (ops : Array Oper) (f : Fr) (j : Nat) : Bool := match (ops[j]?).bind (·.dst) with
  | some d => match getF f d with
    | .sym _ => true
    | _ => false
  | none => false
noncomputable def wantA (ops : Array Oper) (f : Fr) (o : Oper) : Option Bool := match o.guard with
  | none => some true
  | some (j, b) => match symAt ops f j with
    | true => none
    | false => some (yieldedA ops f j == some b)
noncomputable def evalSeq [Know] (P : Program) (call : CallE) (floor : Nat) (ops : Array Oper) (l : List Oper) : Fr → AS → Option (Fr × AS) :=
  List.rec (motive := fun _ => Fr → AS → Option (Fr × AS)) (fun f s => some (f, s)) (fun o _ ih f s => match wantA ops f o with
    | some true => match evalOp P call floor f o s with
      | some (v, s') => ih (putA f o.dst v) s'
      | none => none
    | some false => ih (putA f o.dst (.lit undef)) s
    | none => none) l
noncomputable def early (o : Oper) : Bool := match o.op with
  | .move _ | .assign _ | .pick .. | .extract .. | .fieldAddr .. | .field .. | .indexAddr .. | .slice .. | .binOp .. | .unOp .. | .nilCheck _ | .build .. | .index .. | .makeInterface .. | .convert .. => true
  | .call { callee := .builtin b, .. } => match b with
    | .len | .cap | .complex | .real | .imag | .min | .max => true
    | _ => false
  | _ => false
inductive Stp where
  | early (i : Nat)
  | held (i : Nat)
  | solo (i : Nat)
  | flo (i : Nat)
  | pair (i j : Nat)
noncomputable def isLoad (o : Oper) : Bool := match o.op with
  | .load .. => true
  | _ => false
noncomputable def depM (o : Oper) : Nat := o.after.toList.foldr (fun e m => if Region.binds .any e then m ||| (2 ^ e.on) else m) 0
noncomputable def lookM (ops : Array Oper) (o : Oper) : Nat := (o.looksAt ops).foldr (fun t m => m ||| (2 ^ t)) 0
structure Rec where
  i : Nat
  o : Oper
  deps : Nat
  looks : Nat
noncomputable def recs (ops : Array Oper) : List Oper → Nat → List Rec
  | [], _ => []
  | o :: r, i => ⟨i, o, depM o, lookM ops o⟩ :: recs ops r (i + 1)
noncomputable def hitM (d : Option Tmp) (m : Nat) : Bool := match d with
  | some d => m.testBit d
  | none => false
noncomputable def sameD (a b : Option Tmp) : Bool := match a, b with
  | some x, some y => Nat.beq x y
  | _, _ => false
noncomputable def apartR (x y : Rec) : Bool := !hitM x.o.dst y.looks && (!sameD x.o.dst y.o.dst && !hitM y.o.dst x.looks)
noncomputable def readyR (m : Nat) (r : Rec) : Bool := Nat.beq (r.deps &&& m) r.deps
noncomputable def freeR (l : List Rec) (r : Rec) : Bool := allL (fun q => Nat.beq q.i r.i || (q.deps.testBit r.i || apartR r q)) l
noncomputable def without (i : Nat) (l : List Rec) : List Rec := List.rec (motive := fun _ => List Rec) [] (fun r _ ih => Bool.rec (r :: ih) ih (Nat.beq r.i i)) l
noncomputable def firstR (t : Oper → Bool) (m : Nat) (all : List Rec) (l : List Rec) : Option Rec :=
  List.rec (motive := fun _ => Option Rec) none (fun r _ ih => Bool.rec ih (some r) (t r.o && (readyR m r && freeR all r))) l
noncomputable def readyL (m : Nat) (l : List Rec) : List Rec := List.rec (motive := fun _ => List Rec) [] (fun r _ ih => Bool.rec ih (r :: ih) (readyR m r)) l
noncomputable def pairR (m : Nat) (l : List Rec) (a b : Rec) : Bool :=
  isLoad a.o && isLoad b.o && a.o.guard.isNone && b.o.guard.isNone && apartR a b &&
    allL (fun q => Nat.beq q.i a.i || (Nat.beq q.i b.i || (!readyR (m ||| 2 ^ a.i) q && !readyR (m ||| 2 ^ b.i) q))) l
noncomputable def isAlloc (o : Oper) : Bool := match o.op, o.guard, o.dst with
  | .alloc _, none, some _ => true
  | _, _, _ => false
noncomputable def floR (all : List Rec) (r : Rec) : Bool := isAlloc r.o && (Nat.beq r.deps 0 && freeR all r)
noncomputable def floM (all l : List Rec) : Nat := List.rec (motive := fun _ => Nat) 0 (fun r _ ih => Bool.rec ih (ih ||| 2 ^ r.i) (floR all r)) l
noncomputable def stepM (c : Nat) (l : List Rec) : Nat := List.rec (motive := fun _ => Nat) c (fun r _ ih => Bool.rec ih (ih ||| r.deps) (c.testBit r.i)) l
noncomputable def closM (all : List Rec) (n m : Nat) : Nat := Nat.rec (motive := fun _ => Nat) m (fun _ c => stepM c all) n
noncomputable def waitsR (all : List Rec) (q : Rec) (i : Nat) : Bool := q.deps.testBit i || (closM all 8 q.deps).testBit i
noncomputable def pendM (fs i : Nat) (l : List Rec) : Nat := List.rec (motive := fun _ => Nat) 0 (fun q _ ih => Bool.rec ih (ih ||| 2 ^ q.i) (fs.testBit q.i && !Nat.beq q.i i)) l
noncomputable def wtB (fs : Nat) (all l : List Rec) (i : Nat) : Bool := Nat.beq fs 0 || allL (fun q => Nat.beq (q.deps &&& pendM fs i l) 0 || waitsR all q i) l
noncomputable def plain (fs : Nat) (l : List Rec) : List Rec := List.rec (motive := fun _ => List Rec) [] (fun r _ ih => Bool.rec (r :: ih) ih (fs.testBit r.i)) l
noncomputable def planGo (fs : Nat) (all : List Rec) : Nat → Nat → List Rec → Option (List Stp)
  | 0, m, l => match readyL m l with
    | [] => some []
    | _ => none
  | n + 1, m, l => match firstR early m l l with
    | some r => match fs.testBit r.i, planGo fs all n (m ||| 2 ^ r.i) (without r.i l) with
      | false, some p => some (.early r.i :: p)
      | _, _ => none
    | none => match plain fs (readyL m l) with
      | [] => match readyL m l with
        | [] => some []
        | r :: _ => match wtB fs all l r.i, planGo fs all n (m ||| 2 ^ r.i) (without r.i l) with
          | true, some p => some (.flo r.i :: p)
          | _, _ => none
      | [r] => match wtB fs all l r.i with
        | true => match planGo fs all n (m ||| 2 ^ r.i) (without r.i l) with
          | some p => some (.solo r.i :: p)
          | none => none
        | false => match firstR isLoad m l l with
          | none => none
          | some r => match fs.testBit r.i, planGo fs all n (m ||| 2 ^ r.i) (without r.i l) with
            | false, some p => some (.held r.i :: p)
            | _, _ => none
      | a :: b :: more => match firstR isLoad m l l with
        | none => none
        | some r => match more, n, Nat.beq fs 0 && pairR m l a b with
          | [], n + 1, true => match planGo fs all n ((m ||| 2 ^ a.i) ||| 2 ^ b.i) (without b.i (without a.i l)) with
            | some p => some (.pair a.i b.i :: p)
            | none => none
          | _, n, _ => match fs.testBit r.i, planGo fs all n (m ||| 2 ^ r.i) (without r.i l) with
            | false, some p => some (.held r.i :: p)
            | _, _ => none
noncomputable def planW (ops : Array Oper) (all : List Rec) : Option (Nat × List Stp) := match planGo 0 all ops.size 0 all with
  | some p => some (0, p)
  | none => match planGo (floM all all) all ops.size 0 all with
    | some p => some (floM all all, p)
    | none => none
noncomputable def plan (ops : Array Oper) : Option (Nat × List Stp) := match Region.noSelect ops with
  | true => planW ops (recs ops ops.toList 0)
  | false => none
noncomputable def hasK (l : List (Nat × Nat)) (k : Nat) : Bool := List.rec (motive := fun _ => Bool) false (fun a _ ih => Bool.rec ih true (Nat.beq a.2 k)) l
noncomputable def waitsAll (ops : Array Oper) (i : Nat) (ws : List Nat) (kl : List (Nat × Nat)) : Bool :=
  allL (fun p => !hasN ws p.2 || match ops[i]? with
    | some o => waitsR (recs ops ops.toList 0) ⟨i, o, depM o, 0⟩ p.1
    | none => false) kl
noncomputable def evalHeld (P : Program) (f : Fr) (o : Oper) (s : AS) : Option (AV × Nat) := match o.op with
  | .load t a => match opnd f a with
    | .ptr k off => match look k s.h with
      | some b => match partOf P t b off with
        | some v => some (v, k)
        | none => none
      | none => none
    | _ => none
  | _ => none
noncomputable def planOne [Know] (P : Program) (call : CallE) (s0 : AS) (floor : Nat) (ops : Array Oper) (t : Stp) (f : Fr) (s : AS) (kl tl : List (Nat × Nat)) : Option (Fr × AS × List (Nat × Nat) × List (Nat × Nat)) :=
  match t with
  | .early i => match ops[i]? with
    | some o => match wantA ops f o with
      | some true => match evalWl P f o with
        | some v => some (putA f o.dst v, s, kl, tl)
        | none => none
      | some false => some (putA f o.dst (.lit undef), s, kl, tl)
      | none => none
    | none => none
  | .held i => match ops[i]? with
    | some o => match wantA ops f o with
      | some true => match evalHeld P f o s with
        | some (v, k) => match look k s0.h, hasK tl k with
          | some _, false => some (putA f o.dst v, s, (i, k) :: kl, tl)
          | _, _ => none
        | none => none
      | some false => some (putA f o.dst (.lit undef), s, kl, tl)
      | none => none
    | none => none
  | .solo i => match ops[i]? with
    | some o => match wantA ops f o with
      | some true => match evalOp P call floor f o ⟨s.n, s.h, [], s.gl⟩ with
        | some (v, s') => match waitsAll ops i s'.wr kl with
          | true => some (putA f o.dst v, ⟨s'.n, s'.h, unionW s'.wr s.wr, s'.gl⟩, kl, appL (mapL (fun k => (i, k)) s'.wr) tl)
          | false => none
        | none => none
      | some false => some (putA f o.dst (.lit undef), s, kl, tl)
      | none => none
    | none => none
  | .flo i => match ops[i]? with
    | some o => match o.op with
      | .alloc t => match P.info? t with
        | some inf => match inf.zero with
          | some z => some (putA f o.dst (.ptr s.n 0), newB s (mapL .lit z.cells.toList), kl, tl)
          | none => none
        | none => none
      | _ => none
    | none => none
  | .pair i j => match ops[i]?, ops[j]? with
    | some a, some b => match evalHeld P f a s, evalHeld P f b s with
      | some (u, _), some (v, _) => some (putA (putA f a.dst u) b.dst v, s, kl, tl)
      | _, _ => none
    | _, _ => none
noncomputable def evalPlan [Know] (P : Program) (call : CallE) (s0 : AS) (floor : Nat) (ops : Array Oper) (l : List Stp) : Fr → AS → List (Nat × Nat) → List (Nat × Nat) → Option (Fr × AS × List (Nat × Nat)) :=
  List.rec (motive := fun _ => Fr → AS → List (Nat × Nat) → List (Nat × Nat) → Option (Fr × AS × List (Nat × Nat))) (fun f s _ tl => some (f, s, tl)) (fun t _ ih f s kl tl =>
    match planOne P call s0 floor ops t f s kl tl with
    | some (f', s', kl', tl') => ih f' s' kl' tl'
    | none => none) l
noncomputable def zeroB (P : Program) (o : Oper) : Bool := match o.op with
  | .alloc t => match P.info? t with
    | some inf => inf.zero.isSome
    | none => false
  | _ => true
noncomputable def evalRegion [Know] (P : Program) (call : CallE) (floor : Nat) (ops : Array Oper) (draw : Bool) (f : Fr) (s : AS) : Option (Fr × AS) :=
  match draw with
  | false => evalSeq P call floor ops ops.toList f s
  | true => match plan ops with
    | some (fs, pl) => match Nat.beq fs 0 || allL (zeroB P) ops.toList with
      | true => match evalPlan P call s floor ops pl f s [] [] with
        | some (f', s', _) => some (f', s')
        | none => none
      | false => none
    | none => none
inductive AX where
  | normal
  | exit (id : Nat)
  | goto (l : Nat)
  | ret
abbrev CodeE := Nat → Code → Fr → AS → Option (AX × Fr × AS)
structure Ev where
  code : CodeE
  loop : CodeE
  scope : Nat → Code → Code → Fr → AS → Option (AX × Fr × AS)
  call : CallE
noncomputable def codeRegion [Know] (P : Program) (E : Ev) (floor : Nat) (ops : Array Oper) (draw : Bool) (f : Fr) (s : AS) : Option (AX × Fr × AS) := match evalRegion P E.call floor ops draw f s with
  | some (f', s') => forceF f' fun f'' => some (.normal, f'', s')
  | none => none
noncomputable def codeSeq (E : Ev) (floor : Nat) (a b : Code) (f : Fr) (s : AS) : Option (AX × Fr × AS) := match E.code floor a f s with
  | some (.normal, f', s') => E.code floor b f' s'
  | r => r
noncomputable def codeCond (E : Ev) (floor : Nat) (o : Operand) (a b : Code) (f : Fr) (s : AS) : Option (AX × Fr × AS) := match opnd f o with
  | .lit (.bool true) => E.code floor a f s
  | .lit (.bool false) => E.code floor b f s
  | _ => none
noncomputable def codeBlock (E : Ev) (floor id : Nat) (c : Code) (f : Fr) (s : AS) : Option (AX × Fr × AS) := match E.code floor c f s with
  | some (.exit j, f', s') => match Nat.beq j id with
    | true => some (.normal, f', s')
    | false => some (.exit j, f', s')
  | r => r
noncomputable def codeStep [Know] (P : Program) (E : Ev) (floor : Nat) (c : Code) (f : Fr) (s : AS) : Option (AX × Fr × AS) :=
  match c with
  | .skip => some (.normal, f, s)
  | .label _ => some (.normal, f, s)
  | .region _ ops draw => codeRegion P E floor ops draw f s
  | .seq a b => codeSeq E floor a b f s
  | .cond o a b => codeCond E floor o a b f s
  | .block id c => codeBlock E floor id c f s
  | .loop c => E.loop floor c f s
  | .scope c => E.scope floor c c f s
  | .exit id => some (.exit id, f, s)
  | .goto l => some (.goto l, f, s)
  | .ret => some (.ret, f, s)
  | _ => none
noncomputable def loopStep (E : Ev) (floor : Nat) (c : Code) (f : Fr) (s : AS) : Option (AX × Fr × AS) :=
  match E.code floor c f s with
  | some (.normal, f', s') => E.loop floor c f' s'
  | r => r
noncomputable def scopeStep (E : Ev) (floor : Nat) (c cur : Code) (f : Fr) (s : AS) : Option (AX × Fr × AS) :=
  match E.code floor cur f s with
  | some (.goto l, f', s') => match findLabel c l with
    | some rest => E.scope floor c rest f' s'
    | none => some (.goto l, f', s')
  | r => r
noncomputable def resA (P : Program) (f : Fr) (s : AS) : List ResultVar → Option (List AV)
  | [] => some []
  | .tmp t :: r => match resA P f s r with
    | some l => some (getF f t :: l)
    | none => none
  | .cell a t :: r => match getF f a with
    | .ptr k off => match look k s.h with
      | some b => match partOf P t b off, resA P f s r with
        | some v, some l => some (v :: l)
        | _, _ => none
      | none => none
    | _ => none
noncomputable def frame (m : Nat) (args : List AV) : Fr := forceN (lenL args + (m - lenL args)) fun n => ⟨n, trInit args 0 (trFull (Nat.log2 n + 1))⟩
noncomputable def callStep (P : Program) (E : Ev) (floor : Nat) (g : FuncId) (args : List AV) (s : AS) : Option (AV × AS) :=
  match P.funcs[g]? with
  | some fn => match fn.body with
    | some c => match E.code floor c (frame fn.ntmps args) ⟨s.n, s.h, [], s.gl⟩ with
      | some (.normal, f', s') | some (.ret, f', s') => match resA P f' s' fn.results.toList with
        | some [v] => match isLit v && allL isLit args with
          | true => some (v, ⟨s'.n, dropNew s.n s'.h, unionW (oldW s.n s'.wr) s.wr, s'.gl⟩)
          | false => some (v, ⟨s'.n, s'.h, unionW (oldW s.n s'.wr) s.wr, s'.gl⟩)
        | some vs => match isLit (mkTup vs) && allL isLit args with
          | true => some (mkTup vs, ⟨s'.n, dropNew s.n s'.h, unionW (oldW s.n s'.wr) s.wr, s'.gl⟩)
          | false => some (mkTup vs, ⟨s'.n, s'.h, unionW (oldW s.n s'.wr) s.wr, s'.gl⟩)
        | none => none
      | _ => none
    | none => none
  | none => none
noncomputable def evStep [Know] (P : Program) (E : Ev) : Ev := ⟨codeStep P E, loopStep E, scopeStep E, knowCall (callStep P E)⟩
noncomputable def ev [Know] (P : Program) (n : Nat) : Ev := Nat.rec ⟨fun _ _ _ _ => none, fun _ _ _ _ => none, fun _ _ _ _ _ => none, fun _ _ _ _ => none⟩ (fun _ E => evStep P E) n
@[reducible] noncomputable def noKnow : Know := ⟨[], []⟩
def Globs (gl : List (Nat × List AV)) (w : World) : Prop := ∀ g B, look g gl = some B → g < w.heap.size ∧ ∀ i v, B[i]? = some v → ∃ u, v = .lit u ∧ w.cell? ⟨g, i, none⟩ = some u
noncomputable def comes [Know] (P : Program) (gl : List (Nat × List AV)) (n : Nat) (g : FuncId) (l : List AV) : Option AV := match (ev P n).call 0 g l ⟨0, [], [], gl⟩ with
  | some (v, _) => some v
  | none => none
noncomputable def saysG (P : Program) (gl : List (Nat × List AV)) (n : Nat) (g : FuncId) (l : List Value) (b : Bool) : Bool := match (@ev noKnow P n).call 0 g (mapL .lit l) ⟨0, [], [], gl⟩ with
  | some (.lit (.bool c), _) => c == b
  | _ => false
end Go.Proofs.YtdfnejpfpkaplaaGreatDoor
