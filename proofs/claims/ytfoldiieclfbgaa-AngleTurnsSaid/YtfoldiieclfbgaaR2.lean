/- Texts put together: N16 N17 N18 N19 N20 N21 N22 N23 N24 N25 N26 N32 N33 N34 N37 N38 N39 N41of A3 A8 A9 A11 A10 A5 A6 N40. -/
import Derived.Test.YtfoldiieclfbgaaR1
import Derived.Laws.AppendOwn
import Derived.Deep.LoopGhost
import Derived.Maps.AppendAt
import Derived.RangeFuncNested
import Derived.RangeFuncBound
import Derived.RangeFuncCalls
import Derived.RangeFuncLeaves
import Derived.RangeFuncFrom
import Derived.Shelf.Abstract
import Derived.Shelf.RegionOpen
import Derived.WalkKit
import Derived.OwnWalkIn
import Derived.TacticsInMore
import Derived.LoopNIn
import Derived.LoopIn
import Derived.WalkMore
import Derived.Test.YtfoldiieclfbgaaRows
import Derived.Sort.QuietIn
set_option linter.unusedSimpArgs false
set_option linter.unusedVariables false
namespace Go.Proofs.Ytfoldiieclfbgaa
open Go Go.RowKit Nt

@[irreducible] def brB (n : Nat) : Bool := decide (nd 256 n ≤ 8)
@[irreducible] def brN (n : Nat) : Nat := if nd 256 n ≤ 8 then n else 0
theorem brB_yes {n : Nat} (h : nd 256 n ≤ 8) : brB n = true := by unfold brB; exact decide_eq_true h
theorem brB_no {n : Nat} (h : ¬ nd 256 n ≤ 8) : brB n = false := by unfold brB; exact decide_eq_false h
theorem brN_yes {n : Nat} (h : nd 256 n ≤ 8) : brN n = n := by unfold brN; rw [if_pos h]
theorem brN_no {n : Nat} (h : ¬ nd 256 n ≤ 8) : brN n = 0 := by unfold brN; rw [if_neg h]
theorem br_lt {n : Nat} : nd 256 n ≤ 8 ↔ n < 18446744073709551616 := by
  rw [← lt_pow_iff (by omega)]
theorem brN_lt (n : Nat) : brN n < 18446744073709551616 := by
  by_cases h : nd 256 n ≤ 8
  · rw [brN_yes h]; exact br_lt.1 h
  · rw [brN_no h]; omega
/-- The value of the bytes ahead of the place k. -/
@[irreducible] def preN (n k : Nat) : Nat := n / 256 ^ (nd 256 n - k)
theorem preN_zero (n : Nat) : preN n 0 = 0 := by unfold preN; rw [Nat.sub_zero]; exact Nat.div_eq_of_lt (lt_nd (by omega))
theorem preN_full (n : Nat) : preN n (nd 256 n) = n := by unfold preN; rw [Nat.sub_self, Nat.pow_zero, Nat.div_one]
theorem preN_succ (n k : Nat) (h : k < nd 256 n) : preN n (k + 1) = 256 * preN n k + dgt 256 n (nd 256 n - 1 - k) := by
  unfold preN
  obtain ⟨m, hm⟩ : ∃ m, nd 256 n = k + 1 + m := ⟨nd 256 n - k - 1, by omega⟩
  rw [hm, show k + 1 + m - (k + 1) = m by omega, show k + 1 + m - k = m + 1 by omega, show k + 1 + m - 1 - k = m by omega, div_eq_dgt (by omega) n m, Nat.add_comm]
theorem preN_le (n k : Nat) : preN n k ≤ n := by unfold preN; exact Nat.div_le_self _ _
set_option maxRecDepth 100000 in
set_option maxHeartbeats 400000 in
theorem brief_c (n : Nat) (w : World) (hf : fits n) :
    Calls Try.prog 89 #[.string (natS n)] w fun e w' => e = .returned (.tuple #[.int .u64 (brN n : Nat), .bool (brB n)]) ∧ w = w' := by
  have hsz := natS_size n
  unfold fits at hf
  by_cases h : nd 256 n ≤ 8
  · have HB := Lib.hid (brB_yes h)
    have HN := Lib.hid (brN_yes h)
    have hlt8 : n < 18446744073709551616 := br_lt.1 h
    have HL := Lib.hid hlt8
    have h8 : ¬ 8 < nd 256 n := by omega
    clear hlt8
    go_enter Try.func89, Try.ntmps89
    go_wp2
    go_loop [2, 10] (fun v i => ∃ k : Nat, k ≤ nd 256 n ∧ i = .int .i64 k ∧ v = .int .u64 (preN n k : Nat)) (fun _ i => nd 256 n - (intOf i).toNat)
    case atStart => exact ⟨0, Nat.zero_le _, rfl, by rw [preN_zero]; rfl⟩
    case round =>
      obtain ⟨k, hk, rfl, rfl⟩ := hrel
      by_cases hlt : k < nd 256 n
      · have hks : k < (natS n).size := by omega
        have e := natS_get n k hks
        have es := preN_succ n k hlt
        have hp1 := preN_le n (k + 1)
        have hHL := HL.out
        have hv : bits .or .u64 (IntKind.u64.wrap ((preN n k : Nat) * 256)) (IntKind.u64.wrap (((natS n)[k].toNat : Nat) : Int)) = ((preN n (k + 1) : Nat) : Int) := by
          have hb := (natS n)[k].toNat_lt
          have e1 : IntKind.u64.wrap ((preN n k : Nat) * 256) = ((256 * preN n k : Nat) : Int) := by rw [IntKind.wrap_u64]; omega
          have e2 : IntKind.u64.wrap (((natS n)[k].toNat : Nat) : Int) = (((natS n)[k].toNat : Nat) : Int) := by rw [IntKind.wrap_u64]; omega
          rw [e1, e2, bits_or_u64_nat _ _ (by omega) (by omega), es, ← e]
          have := or_hi (preN n k) (natS n)[k].toNat 8 hb
          exact congrArg Int.ofNat this
        have HV := Lib.hid hv
        have E := Lib.hid e
        have ES := Lib.hid es
        clear e es hv hp1 hHL
        go_wp2
        go_round
        case rel => exact ⟨k + 1, by omega, by go_num, by rw [HV.out]⟩
        case measure => simp [intOf]; omega
      · obtain rfl : k = nd 256 n := by omega
        rw [preN_full]
        go_wp2
        go_ret2
        exact ⟨by rw [HB.out, HN.out]; rfl, rfl⟩
  · have HB := Lib.hid (brB_no h)
    have HN := Lib.hid (brN_no h)
    have h8 : 8 < nd 256 n := by omega
    go_enter Try.func89, Try.ntmps89
    go_wp2
    go_ret2
    exact ⟨by rw [HB.out, HN.out]; rfl, rfl⟩
/-- The cells of the array when k bytes stand at its end. -/
def ofF (n k j : Nat) : Nat := if 8 - k ≤ j ∧ j < 8 then dgt 256 n (7 - j) else 0
theorem ofF_step (n k i j : Nat) (h : i + (k + 1) = 8) (hj : j < 8) : (if j = i then dgt 256 n k else ofF n k j) = ofF n (k + 1) j := by
  unfold ofF
  by_cases h1 : j = i
  · rw [if_pos h1, if_pos (by omega)]; congr 1; omega
  · rw [if_neg h1]
    by_cases h2 : 8 - k ≤ j ∧ j < 8
    · rw [if_pos h2, if_pos (by omega)]
    · rw [if_neg h2, if_neg (by omega)]
theorem add_plainO (g k j : Nat) : (⟨g, k, none⟩ : Addr).add j = ⟨g, k + j, none⟩ := by
  unfold Addr.add; split
  · rename_i h; subst h; rfl
  · simp
theorem neqz_true {x : Nat} (h : x ≠ 0) : (((x : Nat) : Int) != 0) = true := by rw [bne_iff_ne]; omega
theorem neqz_false {x : Nat} (h : x = 0) : (((x : Nat) : Int) != 0) = false := by subst h; rfl
theorem arr_slice (g j : Nat) (h : j ≤ 8) : ∃ A : Option Addr, ((8 - j ≠ 0 → A = some ⟨g, j, none⟩) ∧ ∃ ad, A = some ad) ∧ ∀ w, (Instr.sliceAt 137 (.pointer (some ⟨g, 0, none⟩)) (some (.int .i64 j)) none none).run Try.prog w = .ok (.slice A (8 - j) (8 - j)) w := by
  refine ⟨if 8 = j then some ⟨g, 0, none⟩ else some ⟨g, j, none⟩, ⟨fun h0 => by rw [if_neg (by omega)], by split <;> exact ⟨_, rfl⟩⟩, fun w => ?_⟩
  have hal : Try.prog.arrayLen 137 = 8 := by kernel_rfl
  have ht : Try.prog.underlying 137 = some (.array (Try.prog.arrayLen 137) (Try.prog.elem 137)) := by kernel_rfl
  have he : Try.prog.elem 137 = 5 := by kernel_rfl
  rw [run_sliceAt_array_l w 137 ⟨g, 0, none⟩ ht .i64 _ (by omega) (by rw [hal]; omega), he, Try.sizeOf5 w, hal]
  simp only [Result.andThen, slicedAt, Int.toNat_natCast]
  by_cases h1 : 8 = j
  · rw [if_pos h1, if_pos h1]
  · rw [if_neg h1, if_neg h1, Nat.mul_one, add_plain0]
set_option maxRecDepth 100000 in
set_option maxHeartbeats 400000 in
theorem Of_n (n : Nat) (w : World) (hn : n < 18446744073709551616) :
    Calls Try.prog 63 #[.int .u64 (n : Nat)] w fun e w' => e = .returned (.string (natS n)) ∧ Below w.heap.size w w' := by
  have H8 := Lib.hid (br_lt.2 hn)
  have HN := Lib.hid hn
  clear hn
  go_enter Try.func63, Try.ntmps63
  go_wp2
  have h0 : (#[Value.int IntKind.u8 0, Value.int IntKind.u8 0, Value.int IntKind.u8 0, Value.int IntKind.u8 0, Value.int IntKind.u8 0, Value.int IntKind.u8 0, Value.int IntKind.u8 0, Value.int IntKind.u8 0] : Array Value) = fcells .u8 (ofF n 0) 8 := by
    rw [fcells_congr (f' := fun _ => 0) (fun j hj => by unfold ofF; rw [if_neg (by omega)])]; rfl
  rw [h0]
  have HB0 := Lib.hid (Blk.new w 137 (fcells .u8 (ofF n 0) 8))
  have hbl : Below w.heap.size w (w.alloc (.cells (fcells .u8 (ofF n 0) 8) 137)) := (Below.refl _ _).alloc (Nat.le_refl _) _
  generalize w.alloc (.cells (fcells .u8 (ofF n 0) 8) 137) = w1 at *
  obtain ⟨g, hg⟩ : ∃ g, g = w.heap.size := ⟨_, rfl⟩
  rw [← hg] at HB0 hbl ⊢
  have HG := Lib.hid hg
  clear hg h0
  go_loopw [0, 4] (fun x i wr => ∃ (k m j : Nat), x = .int .u64 m ∧ i = .int .i64 j ∧ Hid (j + k = 8) ∧ Hid (m = n / 256 ^ k) ∧ Hid (k ≤ nd 256 n) ∧ Hid (Blk wr g 137 (fcells .u8 (ofF n k) 8)) ∧ Below g w wr) (fun _ i _ => (intOf i).toNat)
  case atStart => exact ⟨0, n, 8, rfl, rfl, Lib.hid rfl, Lib.hid (by rw [Nat.pow_zero, Nat.div_one]), Lib.hid (Nat.zero_le _), HB0, hbl⟩
  case round =>
    obtain ⟨k, m, j, rfl, rfl, hj, hm, hk, hblk, hb⟩ := hrel
    by_cases h0 : m = 0
    · have hz := neqz_false h0
      have hnd : nd 256 n = k := by
        have h1 := hm.out
        rw [h0] at h1
        have h2 : n < 256 ^ k := by
          rcases Nat.lt_or_ge n (256 ^ k) with h | h
          · exact h
          · have := Nat.div_pos h (Nat.pow_pos (n := k) (show 0 < 256 by omega)); omega
        have := nd_le (b := 256) (by omega) h2
        have := hk.out; omega
      have HND := Lib.hid hnd
      obtain ⟨A, hA, hsl⟩ := arr_slice g j (by have := hj.out; omega)
      have hcv : ∀ W, W = wr → (convert 81 22 (.slice A (8 - j) (8 - j))).run Try.prog W = .ok (.string (natS n)) W := by
        rintro W rfl
        have hl : ((dl 256 n (nd 256 n)).reverse.map UInt8.ofNat).length = 8 - j := by simp [dl_length, hnd]; have := hj.out; omega
        rcases Nat.eq_zero_or_pos k with hk0 | hk0
        · have e0 : (dl 256 n (nd 256 n)).reverse.map UInt8.ofNat = [] := by rw [hnd, hk0]; rfl
          have h8 : 8 - j = 0 := by have := hj.out; omega
          obtain ⟨ad, rfl⟩ := hA.2
          have h := run_convert_bytes_back (P := Try.prog) W 81 22 5 ad (8 - j) ((dl 256 n (nd 256 n)).reverse.map UInt8.ofNat) Try.underlying81 Try.underlying5 Try.underlying22 (fun i hi => by rw [hl] at hi; omega)
          rw [hl, ← natS_def] at h
          exact h
        · obtain rfl := hA.1 (by have := hj.out; omega)
          have h := run_convert_bytes_back (P := Try.prog) W 81 22 5 ⟨g, j, none⟩ (8 - j) ((dl 256 n (nd 256 n)).reverse.map UInt8.ofNat) Try.underlying81 Try.underlying5 Try.underlying22 (fun i hi => by
            have hi' : i < 8 - j := by rw [← hl]; exact hi
            rw [add_plainO, hblk.out.cell, fcells_get _ _ _ _ (by omega)]
            have e := natS_get n i (by rw [natS_size, hnd]; have := hj.out; omega)
            rw [ba_get] at e
            simp only [natS_def] at e
            rw [List.getElem_toArray] at e
            rw [e]
            unfold ofF
            have hj' := hj.out
            rw [if_pos (by omega), hnd, show 7 - (j + i) = k - 1 - i by omega])
          rw [hl, ← natS_def] at h
          exact h
      have hcv' := hcv wr rfl
      have hmz := Lib.hid h0
      clear hcv h0 hnd
      go_wp2
      go_ret
      exact ⟨rfl, by rw [← HG.out]; exact hb⟩
    · have hz := neqz_true h0
      have hnd : k < nd 256 n := by
        rcases Nat.lt_or_ge k (nd 256 n) with h | h
        · exact h
        · have := (lt_pow_iff (b := 256) (by omega) k n).2 h
          have h2 := hm.out
          rw [Nat.div_eq_of_lt this] at h2; omega
      obtain ⟨i, hi⟩ : ∃ i, j = i + 1 := ⟨j - 1, by have := hj.out; have := H8.out; omega⟩
      subst hi
      have hi8 : i < 8 := by have := hj.out; omega
      have hij : ((i : Int) + 1) - 1 = (i : Int) := by omega
      have hfz := hblk.out.frozen i
      have hck := hblk.out.cell i
      rw [fcells_get _ _ _ _ hi8] at hck
      have hv : IntKind.u8.wrap (m : Int) = ((dgt 256 n k : Nat) : Int) := by rw [wrap_u8, hm.out, dgt_def]
      have hm2 : (m : Int) / 256 = ((m / 256 : Nat) : Int) := by omega
      obtain ⟨m', hm'⟩ : ∃ m', m' = m / 256 := ⟨_, rfl⟩
      rw [← hm'] at hm2
      have HM' : Hid (m' = n / 256 ^ (k + 1)) := Lib.hid (by rw [hm', hm.out, Nat.pow_succ, Nat.div_div_eq_div_mul])
      have HB1 := Lib.hid (hblk.out.set_ i (.int .u8 (dgt 256 n k : Nat)))
      rw [fcells_set, fcells_congr (f' := ofF n (k + 1)) (fun x hx => ofF_step n k i x (by have := hj.out; omega) hx)] at HB1
      have hb1 := hb.setCell (p := ⟨g, i, none⟩) (Nat.le_refl _) (.int .u8 (dgt 256 n k : Nat))
      have HJ : Hid (i + (k + 1) = 8) := Lib.hid (by have := hj.out; omega)
      have HK : Hid (k + 1 ≤ nd 256 n) := Lib.hid (by omega)
      clear h0 hnd hm'
      go_wp2
      go_roundw
      case rel => exact ⟨k + 1, m', i, rfl, rfl, HJ, HM', HK, HB1, hb1⟩
      case measure => simp [intOf]
end Go.Proofs.Ytfoldiieclfbgaa
set_option linter.unusedSimpArgs false
set_option linter.unusedVariables false
namespace Go.Proofs.Ytfoldiieclfbgaa
open Go Go.RowKit Nt

/-! The order of texts. -/
def bvL (l : List UInt8) : Nat := of 256 (l.reverse.map UInt8.toNat)
theorem bvL_cons (x : UInt8) (l : List UInt8) : bvL (x :: l) = bvL l + 256 ^ l.length * x.toNat := by
  unfold bvL
  rw [List.reverse_cons, List.map_append, of_append]
  simp [of_cons, of_nil]
theorem bvL_lt (l : List UInt8) : bvL l < 256 ^ l.length := by
  have := of_lt (b := 256) (by omega) (l.reverse.map UInt8.toNat) (fun x hx => by obtain ⟨y, _, rfl⟩ := List.mem_map.1 hx; exact y.toNat_lt)
  rwa [List.length_map, List.length_reverse] at this
theorem bytesLess_iff : ∀ (l m : List UInt8), l.length = m.length → Op.bytesLess l m = decide (bvL l < bvL m)
  | [], [], _ => by simp [Op.bytesLess, bvL]
  | [], _ :: _, h => by simp at h
  | _ :: _, [], h => by simp at h
  | x :: l, y :: m, h => by
    have hl : l.length = m.length := by simpa using h
    have ih := bytesLess_iff l m hl
    have h1 := bvL_lt l
    have h2 := bvL_lt m
    rw [Op.bytesLess, ih, bvL_cons, bvL_cons, hl]
    rw [hl] at h1
    rw [Bool.eq_iff_iff, Bool.or_eq_true, Bool.and_eq_true, decide_eq_true_iff, decide_eq_true_iff, beq_iff_eq, decide_eq_true_iff, UInt8.lt_iff_toNat_lt]
    rcases Nat.lt_trichotomy x.toNat y.toNat with h3 | h3 | h3
    · have : 256 ^ m.length * (x.toNat + 1) ≤ 256 ^ m.length * y.toNat := Nat.mul_le_mul_left _ h3
      rw [Nat.mul_add] at this
      exact ⟨fun _ => by omega, fun _ => Or.inl h3⟩
    · have e : x = y := UInt8.toNat_inj.1 h3
      subst e
      constructor
      · rintro (h | ⟨_, h⟩)
        · omega
        · omega
      · intro h; exact Or.inr ⟨rfl, by omega⟩
    · have : 256 ^ m.length * (y.toNat + 1) ≤ 256 ^ m.length * x.toNat := Nat.mul_le_mul_left _ h3
      rw [Nat.mul_add] at this
      constructor
      · rintro (h | ⟨h, _⟩)
        · omega
        · subst h; omega
      · intro h; omega
theorem ba_toList (s : ByteArray) : s.toList = s.data.toList := Go.ByteArray.toList_eq s
theorem natS_less (a b : Nat) (h : nd 256 a = nd 256 b) : Op.bytesLess (natS a).toList (natS b).toList = decide (a < b) := by
  have e : ∀ n, bvL (natS n).toList = n := fun n => by rw [ba_toList]; exact bytesN_natS n
  have hl : (natS a).toList.length = (natS b).toList.length := by
    rw [ba_toList, ba_toList, Array.length_toList, Array.length_toList]
    exact (natS_size a).trans (h.trans (natS_size b).symm)
  rw [bytesLess_iff _ _ hl, e, e]
theorem natS_list_eq (a b : Nat) : (natS a).toList = (natS b).toList ↔ a = b := by
  constructor
  · intro h
    rw [ba_toList, ba_toList] at h
    exact natS_inj (ByteArray.ext (Array.toList_inj.1 h))
  · rintro rfl; rfl
theorem isNaN_nat (s : ByteArray) (w : World) :
    Calls Try.prog 123 #[.string s] w fun e w' => e = .returned (.bool false) ∧ w = w' := by
  go_enter Try.func123, Try.ntmps123
  go_wp2
  go_ret
  exact ⟨rfl, rfl⟩
set_option maxRecDepth 100000 in
theorem Compare_nat (a b : Nat) (w : World) (h : nd 256 a = nd 256 b) :
    Calls Try.prog 115 #[.string (natS a), .string (natS b)] w fun e w' => e = .returned (.int .i64 (cmpN a b)) ∧ w = w' := by
  have h1 := natS_less a b h
  have h2 : ((natS a).toList == (natS b).toList) = decide (a = b) := by
    rw [Bool.eq_iff_iff, beq_iff_eq, decide_eq_true_iff, natS_list_eq]
  rcases Nat.lt_trichotomy a b with hlt | heq | hgt
  · have e1 : decide (a < b) = true := decide_eq_true hlt
    rw [e1] at h1
    have HC := Lib.hid (cmpN_lt hlt)
    clear h2 hlt
    go_enter Try.func115, Try.ntmps115
    go_wp2_with (go_at_call 123; refine (isNaN_nat _ _).mono ?_; rintro e w' ⟨rfl, rfl⟩)
    go_ret
    exact ⟨ret_int HC.out.symm, rfl⟩
  · subst heq
    have e1 : decide (a < a) = false := decide_eq_false (by omega)
    rw [e1] at h1
    have HC := Lib.hid (cmpN_eq a)
    clear h2
    go_enter Try.func115, Try.ntmps115
    go_wp2_with (go_at_call 123; refine (isNaN_nat _ _).mono ?_; rintro e w' ⟨rfl, rfl⟩)
    go_ret
    exact ⟨ret_int HC.out.symm, rfl⟩
  · have e1 : decide (a < b) = false := decide_eq_false (by omega)
    have e2 : decide (a = b) = false := decide_eq_false (by omega)
    rw [e1] at h1
    rw [e2] at h2
    have h3 : ¬ (natS a).toList = (natS b).toList := fun c => by rw [natS_list_eq] at c; omega
    have HC := Lib.hid (cmpN_gt hgt)
    clear e1 e2
    go_enter Try.func115, Try.ntmps115
    go_wp2_with (go_at_call 123; refine (isNaN_nat _ _).mono ?_; rintro e w' ⟨rfl, rfl⟩)
    go_ret
    exact ⟨ret_int HC.out.symm, rfl⟩
theorem may2 {a b : Nat} (ha : fits a) (hb : fits b) : mayE [natS a, natS b] = 0 := mayE_ok (fun s hs => by
  rcases List.mem_cons.1 hs with rfl | hs
  · exact (may_natS a).2 ha
  · rw [List.mem_singleton.1 hs]; exact (may_natS b).2 hb)
theorem may1 {a : Nat} (ha : fits a) : mayE [natS a] = 0 := mayE_ok (fun s hs => by rw [List.mem_singleton.1 hs]; exact (may_natS a).2 ha)
theorem may1_no {s : ByteArray} (h : ¬ May s) : mayE [s] = 2 := mayE_no (List.mem_singleton.2 rfl) h
theorem may2_no {s t : ByteArray} (h : ¬ (May s ∧ May t)) : mayE [s, t] = 2 := by
  by_cases h1 : May s
  · exact mayE_no (s := t) (by simp) (fun c => h ⟨h1, c⟩)
  · exact mayE_no (s := s) (by simp) h1
set_option maxRecDepth 100000 in
theorem Small_c (n : Nat) (w : World) (hf : fits n) :
    Calls Try.prog 67 #[.string (natS n)] w fun e w' => e = .returned (.tuple #[.int .u64 (brN n : Nat), .bool (brB n)]) ∧ Below w.heap.size w w' := by
  have hm := may1 hf
  go_enter Try.func67, Try.ntmps67
  go_wp2_with (first | (go_at_call 94; refine (Check_c _ _).mono ?_; rintro e w1 ⟨rfl, hb⟩) | (go_at_call 89; refine (brief_c n _ hf).mono ?_; rintro e w' ⟨rfl, rfl⟩))
  go_ret2
  exact ⟨rfl, hb⟩
set_option maxRecDepth 100000 in
theorem Small_no (s : ByteArray) (w : World) (h : ¬ May s) :
    Calls Try.prog 67 #[.string s] w fun e w' => e = .returned (.tuple #[.int .u64 0, .bool false]) ∧ Below w.heap.size w w' := by
  have hm := may1_no h
  go_enter Try.func67, Try.ntmps67
  go_wp2_with (first | (go_at_call 94; refine (Check_c _ _).mono ?_; rintro e w1 ⟨rfl, hb⟩))
  go_ret2
  exact ⟨rfl, hb⟩
/-- Two integers and memory below as it was. -/
def IntPost (a b : Int) (w : World) (e : Ending) (w' : World) : Prop := e = .returned (.tuple #[.int .i64 a, .int .i64 b]) ∧ Below w.heap.size w w'
set_option maxRecDepth 100000 in
theorem Cmp_no (s t : ByteArray) (w : World) (h : ¬ (May s ∧ May t)) :
    Calls Try.prog 88 #[.string s, .string t] w (IntPost 0 2 w) := by
  have hm := may2_no h
  go_enter Try.func88, Try.ntmps88
  go_wp2_with (first | (go_at_call 91; refine (all_c _ 2 [s, t] _ (by simp) (strs_new w 22 [s, t])).mono ?_; rintro e w' ⟨rfl, rfl⟩))
  go_ret2
  exact ⟨rfl, (Below.refl _ _).alloc (Nat.le_refl _) _⟩
theorem compareInt_nd (a b : Nat) (h : nd 256 a ≠ nd 256 b) : Go.Lib.compareInt (nd 256 a : Nat) (nd 256 b : Nat) = cmpN a b := by
  unfold Go.Lib.compareInt
  rcases Nat.lt_or_gt_of_ne h with h1 | h1
  · rw [if_pos (by omega), cmpN_lt (lt_of_nd (by omega) h1)]
  · rw [if_neg (by omega), if_pos (by omega), cmpN_gt (lt_of_nd (by omega) h1)]
set_option maxRecDepth 100000 in
theorem NCmp_c (a b : Nat) (w : World) (ha : fits a) (hb : fits b) :
    Calls Try.prog 88 #[.string (natS a), .string (natS b)] w (IntPost (cmpN a b) 0 w) := by
  have hm := may2 ha hb
  have hsa := natS_size a
  have hsb := natS_size b
  by_cases h : nd 256 a = nd 256 b
  · have hz : ((nd 256 a : Int) != (nd 256 b : Int)) = false := by rw [h]; simp
    have H := Lib.hid h
    clear h
    go_enter Try.func88, Try.ntmps88
    go_wp2_with (first | (go_at_call 91; refine (all_c _ 2 [natS a, natS b] _ (by simp) (strs_new w 22 [natS a, natS b])).mono ?_; rintro e w' ⟨rfl, rfl⟩) | (go_at_call 115; refine (Compare_nat a b _ H.out).mono ?_; rintro e w' ⟨rfl, rfl⟩))
    go_ret2
    exact ⟨rfl, (Below.refl _ _).alloc (Nat.le_refl _) _⟩
  · have hz : ((nd 256 a : Int) != (nd 256 b : Int)) = true := by rw [bne_iff_ne]; omega
    have H := Lib.hid (compareInt_nd a b h)
    clear h
    go_enter Try.func88, Try.ntmps88
    go_wp2_with (first | (go_at_call 91; refine (all_c _ 2 [natS a, natS b] _ (by simp) (strs_new w 22 [natS a, natS b])).mono ?_; rintro e w' ⟨rfl, rfl⟩) | (go_at_call 114; refine (Try.cmp_Compare_int _ _ _).mono ?_; rintro e w' ⟨rfl, rfl⟩))
    go_ret2
    exact ⟨by rw [← H.out]; rfl, (Below.refl _ _).alloc (Nat.le_refl _) _⟩
end Go.Proofs.Ytfoldiieclfbgaa
set_option linter.unusedSimpArgs false
set_option linter.unusedVariables false
namespace Go.Proofs.Ytfoldiieclfbgaa
open Go Go.RowKit Nt

theorem fits_words {n : Nat} (h : fits n) : nd W n ≤ 2048 := by
  unfold fits at h; rw [← words_bytes]; omega
theorem sum_words {a b : Nat} {m : Nat} (ha : nd W a ≤ m) (hb : nd W b ≤ m) : nd W (a + b) ≤ m + 1 := by
  refine nd_le W2 ?_
  have h1 := (lt_pow_iff W2 m a).2 ha
  have h2 := (lt_pow_iff W2 m b).2 hb
  rw [Nat.pow_succ]
  have h3 : 2 * W ^ m ≤ W ^ m * W := by rw [Nat.mul_comm]; exact Nat.mul_le_mul_left _ W2
  omega
theorem mul_words (a b : Nat) : nd W (a * b) ≤ nd W a + nd W b := by
  refine nd_le W2 ?_
  rw [Nat.pow_add]
  have h1 := lt_nd (n := a) W2
  have h2 := lt_nd (n := b) W2
  rcases Nat.eq_zero_or_pos b with h | h
  · subst h; rw [Nat.mul_zero]; exact Nat.mul_pos (Nat.pow_pos W0) (Nat.pow_pos W0)
  · exact Nat.lt_of_lt_of_le ((Nat.mul_lt_mul_right h).2 h1) (Nat.mul_le_mul_left _ (by omega))
/-- Do two brief numbers have a brief sum? -/
@[irreducible] def bsB (a b : Nat) : Bool := brB a && brB b && decide (a + b < 18446744073709551616)
@[irreducible] def bsS (a b : Nat) : ByteArray := if bsB a b = true then natS (a + b) else ⟨#[]⟩
theorem bsB_yes {a b : Nat} (h1 : brB a = true) (h2 : brB b = true) (h3 : a + b < 18446744073709551616) : bsB a b = true := by unfold bsB; rw [h1, h2, decide_eq_true h3]; rfl
theorem bsB_no1 {a b : Nat} (h : brB a = false) : bsB a b = false := by unfold bsB; rw [h]; rfl
theorem bsB_no2 {a b : Nat} (h : brB b = false) : bsB a b = false := by unfold bsB; rw [h, Bool.and_false]; rfl
theorem bsB_no3 {a b : Nat} (h : ¬ a + b < 18446744073709551616) : bsB a b = false := by unfold bsB; rw [decide_eq_false h, Bool.and_false]
theorem bsS_yes {a b : Nat} (h : bsB a b = true) : bsS a b = natS (a + b) := by unfold bsS; rw [if_pos h]
theorem bsS_no {a b : Nat} (h : bsB a b = false) : bsS a b = ⟨#[]⟩ := by unfold bsS; rw [if_neg (by rw [h]; decide)]
theorem brB_true {n : Nat} (h : brB n = true) : nd 256 n ≤ 8 := by unfold brB at h; exact of_decide_eq_true h
/-- A text and a yes or no. -/
def StrBPost (s : ByteArray) (b : Bool) (w : World) (e : Ending) (w' : World) : Prop := e = .returned (.tuple #[.string s, .bool b]) ∧ Below w.heap.size w w'
theorem add_some (a b : Nat) : ∃ s cc : Nat, ∀ w, (callFunc 110 #[.int .u64 (brN a : Nat), .int .u64 (brN b : Nat), .int .u64 0]).run Try.prog w = .ok (.value (.tuple #[.int .u64 (s : Nat), .int .u64 (cc : Nat)])) w :=
  ⟨_, _, fun w => Try.bits_Add64 (brN a) (brN b) 0 (by omega) w⟩
set_option maxRecDepth 100000 in
theorem briefSum_c (a b : Nat) (w : World) (ha : fits a) (hb : fits b) :
    Calls Try.prog 92 #[.string (natS a), .string (natS b)] w (StrBPost (bsS a b) (bsB a b) w) := by
  have hadd0 := fun w => Try.bits_Add64 (brN a) (brN b) 0 (by omega) w
  by_cases h1 : brB a = true
  · by_cases h2 : brB b = true
    · have e1 := brN_yes (brB_true h1)
      have e2 := brN_yes (brB_true h2)
      have l1 := br_lt.1 (brB_true h1)
      have l2 := br_lt.1 (brB_true h2)
      by_cases h3 : a + b < 18446744073709551616
      · have hadd : ∀ w, (callFunc 110 #[.int .u64 (brN a : Nat), .int .u64 (brN b : Nat), .int .u64 0]).run Try.prog w = .ok (.value (.tuple #[.int .u64 (a + b : Nat), .int .u64 0])) w := fun w => by
          have h := hadd0 w
          rw [show (brN a + brN b + 0) % 18446744073709551616 = a + b by omega, show (brN a + brN b + 0) / 18446744073709551616 = 0 by omega] at h
          exact h
        have HY := Lib.hid (bsB_yes h1 h2 h3)
        have H3 := Lib.hid h3
        clear hadd0 e1 e2 l1 l2 h3
        generalize hs : a + b = s at *
        have HS := Lib.hid hs
        clear hs
        go_enter Try.func92, Try.ntmps92
        go_wp2_with (first | simp only [hadd] | (go_at_call 89; refine (brief_c _ _ (by assumption)).mono ?_; rintro e w' ⟨rfl, rfl⟩) | (go_at_call 63; refine (Of_n s _ H3.out).mono ?_; rintro e w' ⟨rfl, hb'⟩))
        go_ret2
        exact ⟨by rw [bsS_yes HY.out, HY.out, HS.out]; rfl, hb'⟩
      · have hcar : ∀ w, (callFunc 110 #[.int .u64 (brN a : Nat), .int .u64 (brN b : Nat), .int .u64 0]).run Try.prog w = .ok (.value (.tuple #[.int .u64 ((a + b) % 18446744073709551616 : Nat), .int .u64 1])) w := fun w => by
          have h := hadd0 w
          rw [show (brN a + brN b + 0) % 18446744073709551616 = (a + b) % 18446744073709551616 by rw [e1, e2, Nat.add_zero], show (brN a + brN b + 0) / 18446744073709551616 = 1 by omega] at h
          exact h
        have HY := Lib.hid (bsB_no3 h3)
        clear hadd0 e1 e2 l1 l2 h3
        generalize hs : (a + b) % 18446744073709551616 = s at *
        clear hs
        go_enter Try.func92, Try.ntmps92
        go_wp2_with (first | simp only [hcar] | (go_at_call 89; refine (brief_c _ _ (by assumption)).mono ?_; rintro e w' ⟨rfl, rfl⟩))
        go_ret2
        exact ⟨by rw [bsS_no HY.out, HY.out]; rfl, Below.refl _ _⟩
    · have h2' : brB b = false := by simpa using h2
      have HY := Lib.hid (bsB_no2 (a := a) h2')
      obtain ⟨s, cc, hcar⟩ := add_some a b
      clear hadd0 h2
      go_enter Try.func92, Try.ntmps92
      go_wp2_with (first | simp only [hcar] | (go_at_call 89; refine (brief_c _ _ (by assumption)).mono ?_; rintro e w' ⟨rfl, rfl⟩))
      go_ret2
      exact ⟨by rw [bsS_no HY.out, HY.out]; rfl, Below.refl _ _⟩
  · have h1' : brB a = false := by simpa using h1
    have HY := Lib.hid (bsB_no1 (b := b) h1')
    obtain ⟨s, cc, hcar⟩ := add_some a b
    clear hadd0 h1
    go_enter Try.func92, Try.ntmps92
    go_wp2_with (first | simp only [hcar] | (go_at_call 89; refine (brief_c _ _ (by assumption)).mono ?_; rintro e w' ⟨rfl, rfl⟩))
    go_ret2
    exact ⟨by rw [bsS_no HY.out, HY.out]; rfl, Below.refl _ _⟩
end Go.Proofs.Ytfoldiieclfbgaa
set_option linter.unusedSimpArgs false
set_option linter.unusedVariables false
namespace Go.Proofs.Ytfoldiieclfbgaa
open Go Go.RowKit Nt

theorem sum_take (l : List Nat) (k : Nat) (h : k < l.length) : (l.take (k + 1)).sum = (l.take k).sum + l[k] := by
  rw [List.take_succ_eq_append_getElem h, List.sum_append]; simp
theorem sum_lt (l : List Nat) (m : Nat) (h : ∀ n ∈ l, n < m) : l.sum ≤ l.length * m := by
  induction l with
  | nil => simp
  | cons x l ih =>
    have h1 := ih (fun n hn => h n (List.mem_cons_of_mem _ hn))
    have h2 := h x (List.mem_cons_self ..)
    rw [List.sum_cons, List.length_cons, Nat.add_mul]; omega
theorem sum_ndm (l : List Nat) (m : Nat) (h : ∀ n ∈ l, nd W n ≤ m) (hl : l.length ≤ 140737488355328) : nd W l.sum ≤ m + 1 := by
  have h1 := sum_lt l (W ^ m) (fun n hn => (lt_pow_iff W2 _ _).2 (h n hn))
  refine nd_le W2 ?_
  rw [Nat.pow_succ]
  refine Nat.lt_of_le_of_lt h1 ?_
  rw [Nat.mul_comm]
  refine (Nat.mul_lt_mul_left (Nat.pow_pos W0)).2 ?_
  rw [W_eq]; omega
theorem sum_nd (l : List Nat) (h : ∀ n ∈ l, fits n) (hl : l.length ≤ 140737488355328) : nd W l.sum ≤ 2049 := sum_ndm l 2048 (fun n hn => fits_words (h n hn)) hl
theorem mem_take {α : Type} {l : List α} {k : Nat} {x : α} (h : x ∈ l.take k) : x ∈ l := List.mem_of_mem_take h
theorem may_all {l : List Nat} (h : ∀ n ∈ l, fits n) : mayE (l.map natS) = 0 := mayE_ok (fun s hs => by
  obtain ⟨n, hn, rfl⟩ := List.mem_map.1 hs; exact (may_natS n).2 (h n hn))
theorem len2 (l : List Nat) (h : l.length = 2) : ∃ a b, l = [a, b] := by
  match l, h with
  | [a, b], _ => exact ⟨a, b, rfl⟩
theorem two_cells {w : World} {A : Option Addr} {l : List Nat} (h2 : l.length = 2) (h : Strs w A (l.map natS)) (hf : ∀ n ∈ l, fits n) (hA : ∀ ad, A = some ad → ad.block < w.heap.size) :
    ∃ (a b : Nat) (ad : Addr), A = some ad ∧ ad.block < w.heap.size ∧ w.cell? ad = some (.string (natS a)) ∧ w.cell? (ad.add 1) = some (.string (natS b)) ∧ fits a ∧ fits b ∧ l.sum = a + b := by
  obtain ⟨a, b, rfl⟩ := len2 l h2
  obtain ⟨ad, rfl, hc0⟩ := h.at_ (k := 0) (by simp)
  obtain ⟨ad', e1, hc1⟩ := h.at_ (k := 1) (by simp)
  obtain rfl : ad = ad' := Option.some.inj e1
  rw [show ad.add 0 = ad by unfold Addr.add; rw [if_pos rfl]] at hc0
  exact ⟨a, b, ad, rfl, hA ad rfl, hc0, hc1, hf a (by simp), hf b (by simp), by simp⟩
theorem bsB_res {a b : Nat} (h : bsB a b = true) : resS (a + b) = natS (a + b) ∧ resE (a + b) = 0 := by
  have hs : a + b < 18446744073709551616 := by
    unfold bsB at h
    rw [Bool.and_eq_true, Bool.and_eq_true, decide_eq_true_iff] at h
    exact h.2
  have hf : fits (a + b) := by have := br_lt.2 hs; unfold fits; omega
  exact ⟨resS_ok hf, resE_ok hf⟩
/-- What stands in the strings' world. -/
def SB (w w' : World) : Prop := Below w.heap.size w w'
theorem SB_step {w w1 w2 : World} (h : SB w w1) (h2 : Below w1.heap.size w1 w2) : SB w w2 := Below.trans h (h2.mono h.size)
theorem SB_any {w w' : World} (h : SB w w') (n : Nat) : SB w (w'.drewN n) := below_drewN h n
set_option maxRecDepth 100000 in
set_option maxHeartbeats 1000000 in
theorem Sum_c (A : Option Addr) (c : Nat) (l : List Nat) (w : World) (hl : l.length ≤ 140737488355328) (hf : ∀ n ∈ l, fits n) (h : Strs w A (l.map natS)) (hA : ∀ ad, A = some ad → ad.block < w.heap.size) :
    Calls Try.prog 66 #[.slice A l.length c] w (StrPost (resS l.sum) (resE l.sum) w) := by
  have HS := Lib.hid h
  have HF := Lib.hid hf
  have HA := Lib.hid hA
  have hm := may_all hf
  have HL := Lib.hid hl
  have hl1 : l.length ≤ 9223372036854775807 := by omega
  have hall := all_c A c (l.map natS) w (by rw [List.length_map]; exact hl1) h
  rw [List.length_map, hm] at hall
  have HALL := Lib.hid hall
  clear h hf hA hall hm
  go_enter Try.func66, Try.ntmps66
  go_upto_if 17 with (go_at_call 91; refine HALL.out.mono ?_; rintro e w' ⟨rfl, rfl⟩)
  go_cut [] (fun wc => Below w.heap.size w wc)
  case first =>
    by_cases h2 : l.length = 2
    · obtain ⟨a, b, ad, rfl, hbk, hc0, hc1, ha, hb, hsum⟩ := two_cells h2 HS.out HF.out HA.out
      have hz : ((l.length : Int) == 2) = true := by rw [h2]; rfl
      have L0 : ∀ w', SB w w' → w'.cell? ad = some (.string (natS a)) := fun w' h => (Below.cell h (p := ad) hbk).trans hc0
      have L1 : ∀ w', SB w w' → w'.cell? ⟨ad.block, ad.off + 1, none⟩ = some (.string (natS b)) := fun w' h => (Below.cell h (p := ad.add 1) (by rw [block_of_add']; exact hbk)).trans hc1
      have L2 : SB w w.drew := (Below.refl _ _).drew
      have HSUM := Lib.hid hsum
      have H2 := Lib.hid h2
      have hle : (1 : Int) < (l.length : Int) := by omega
      have hle2 : 1 < l.length := by omega
      have hle0 : 0 < l.length := by omega
      have hle3 : (0 : Int) < (l.length : Int) := by omega
      clear hc0 hc1 hsum h2
      have hbs := briefSum_c a b
      have HBS := Lib.hid hbs
      clear hbs
      go_wp2_with fail
      go_region_held3 (SB w) (first | assumption | exact SB_step (by assumption) (by assumption) | exact SB_any (by assumption) _)
        (first
          | (go_at_call 92; refine (HBS.out _ (by assumption) (by assumption)).mono ?_; rintro e w' ⟨rfl, hb2⟩))
      rename_i hHeld
      have hsb : SB w _ := hHeld
      have HSB := Lib.hid hsb
      clear L0 L1 L2 hsb hHeld
      by_cases hB : bsB a b = true
      · have HB := Lib.hid hB
        rw [hB]
        clear hB
        go_wp2_with fail
        go_ret2
        obtain ⟨e1, e2⟩ := bsB_res HB.out
        refine ⟨?_, HSB.out⟩
        rw [bsS_yes HB.out, HSUM.out, e1, e2]; rfl
      · have hB' : bsB a b = false := by simpa using hB
        rw [hB']
        clear hB hB'
        go_wp2_with fail
        go_meet
        exact HSB.out
    · have hz : ((l.length : Int) == 2) = false := by rw [beq_eq_false_iff_ne]; omega
      go_wp2_with fail
      go_meet
      exact Below.refl _ _
  case rest =>
    have hb0 := hcut
    go_wp2
    go_loopw [7, 32] (fun x i wr => ∃ (k : Nat) (A' : Option Addr) (c' : Nat), k ≤ l.length ∧ i = .int .i64 k ∧ x = .slice A' (nd W (l.take k).sum) c' ∧ nd W (l.take k).sum ≤ c' ∧ Hid (Row wr wr.heap.size A' (l.take k).sum (nd W (l.take k).sum)) ∧ Below w.heap.size w wr) (fun _ i _ => l.length - (intOf i).toNat)
    case atStart =>
      have e : nd W 0 = 0 := nd_zero _
      exact ⟨0, none, 0, Nat.zero_le _, rfl, by rw [List.take_zero, List.sum_nil, e], by rw [List.take_zero, List.sum_nil, e]; exact Nat.le_refl _, by rw [List.take_zero, List.sum_nil, e]; exact Lib.hid Row.none_, hb0⟩
    case round =>
      obtain ⟨k, A', c', hk, rfl, rfl, hc, hrow, hb⟩ := hrel
      by_cases hlt : k < l.length
      · obtain ⟨ad, rfl, hcell⟩ := HS.out.at_ (k := k) (by rw [List.length_map]; exact hlt)
        rw [List.getElem_map] at hcell
        have hc2 := (hb.cell (p := ad.add k) (by rw [block_of_add']; exact HA.out ad rfl)).trans hcell
        have hfk := HF.out l[k] (List.getElem_mem hlt)
        have hst := sum_take l k hlt
        have hndk := sum_nd (l.take k) (fun n hn => HF.out n (mem_take hn)) (by have := HL.out; rw [List.length_take]; omega)
        have hw2 := fits_words hfk
        generalize l[k] = x at *
        generalize (l.take k).sum = S at *
        have HST := Lib.hid hst
        clear hst hcell
        go_wp2_with (first
          | (go_at_call 84; refine (words_c _ _ (by assumption)).mono ?_; intro e w1 hp; obtain ⟨A1, c1, rfl, hc1, hr1, hb1⟩ := hp.get; have hr0 := (hrow.out.below hb1).more hb1.size; have HR1 := Lib.hid hr1; clear hr1)
          | (go_at_call 93; refine (Add_c _ _ _ _ _ _ _ _ (by omega) (by omega) hr0 HR1.out (Nat.le_refl _)).mono ?_; intro e w2 hp; obtain ⟨A2, c2, rfl, hc2', hr2, hb2⟩ := hp.get))
        have HR2 := Lib.hid hr2
        have hbb := hb.trans ((hb1.mono hb.size).trans (hb2.mono (Nat.le_trans hb.size hb1.size)))
        clear hr2 hr0
        go_roundw
        case rel => exact ⟨k + 1, A2, c2, by omega, by go_num, by rw [HST.out], by rw [HST.out]; exact hc2', by rw [HST.out]; exact HR2, hbb⟩
        case measure => simp [intOf]; omega
      · obtain rfl : k = l.length := by omega
        rw [List.take_length] at hc hrow ⊢
        have hnd := sum_nd l HF.out HL.out
        have HN := Lib.hid hnd
        clear hnd
        go_wp2_with (go_at_call 87; refine (made_c _ _ _ _ _ (by have := HN.out; omega) hrow.out (Nat.le_refl _)).mono ?_; rintro e w' ⟨rfl, hb'⟩)
        go_ret2
        exact ⟨rfl, hb.trans (hb'.mono hb.size)⟩
/-- The sum of two. -/
theorem NAdd_c (a b : Nat) (w : World) (ha : fits a) (hb : fits b) :
    Calls Try.prog 73 #[.string (natS a), .string (natS b)] w (StrPost (resS (a + b)) (resE (a + b)) w) := by
  have hs := fun w' (h : Strs w' (some ⟨w.heap.size, 0, none⟩) ([a, b].map natS)) (hA : w.heap.size < w'.heap.size) => Sum_c (some ⟨w.heap.size, 0, none⟩) 2 [a, b] w' (by simp) (fun n hn => by
    rcases List.mem_cons.1 hn with rfl | hn
    · exact ha
    · rw [List.mem_singleton.1 hn]; exact hb) h (fun ad e => by cases e; exact hA)
  have HS := Lib.hid hs
  clear hs
  have he : [a, b].sum = a + b := by simp
  have HE := Lib.hid he
  clear he
  go_enter Try.func73, Try.ntmps73
  go_wp2_with fail
  refine (HS.out _ (strs_new w 22 [natS a, natS b]) (by simp)).mono ?_
  rw [HE.out]
  rintro e w' ⟨rfl, hb'⟩
  go_wp2_with fail
  go_ret2
  exact ⟨rfl, ((Below.refl _ _).alloc (Nat.le_refl _) _).trans (hb'.mono (by simp))⟩
set_option maxRecDepth 100000 in
theorem Sum_no (A : Option Addr) (c : Nat) (ss : List ByteArray) (w : World) (hl : ss.length ≤ 9223372036854775807) (hn : ∃ s ∈ ss, ¬ May s) (h : Strs w A ss) :
    Calls Try.prog 66 #[.slice A ss.length c] w (StrPost ⟨#[]⟩ 2 w) := by
  have hm : mayE ss = 2 := by obtain ⟨s, h1, h2⟩ := hn; exact mayE_no h1 h2
  have hall := all_c A c ss w hl h
  rw [hm] at hall
  have HALL := Lib.hid hall
  clear h hall hm hn
  go_enter Try.func66, Try.ntmps66
  go_wp2_with (go_at_call 91; refine HALL.out.mono ?_; rintro e w' ⟨rfl, rfl⟩)
  go_ret2
  exact ⟨rfl, Below.refl _ _⟩
theorem NAdd_no (s t : ByteArray) (w : World) (h : ¬ (May s ∧ May t)) :
    Calls Try.prog 73 #[.string s, .string t] w (StrPost ⟨#[]⟩ 2 w) := by
  have hs := fun w' (h' : Strs w' (some ⟨w.heap.size, 0, none⟩) [s, t]) => Sum_no (some ⟨w.heap.size, 0, none⟩) 2 [s, t] w' (by simp) (by
    by_cases h1 : May s
    · exact ⟨t, by simp, fun c => h ⟨h1, c⟩⟩
    · exact ⟨s, by simp, h1⟩) h'
  have HS := Lib.hid hs
  clear hs
  go_enter Try.func73, Try.ntmps73
  go_wp2_with fail
  refine (HS.out _ (strs_new w 22 [s, t])).mono ?_
  rintro e w' ⟨rfl, hb'⟩
  go_wp2_with fail
  go_ret2
  exact ⟨rfl, ((Below.refl _ _).alloc (Nat.le_refl _) _).trans (hb'.mono (by simp))⟩
end Go.Proofs.Ytfoldiieclfbgaa
set_option linter.unusedSimpArgs false
set_option linter.unusedVariables false
namespace Go.Proofs.Ytfoldiieclfbgaa
open Go Go.RowKit Nt

theorem fits_le {m n : Nat} (h : fits n) (hm : m ≤ n) : fits m := by unfold fits at *; exact Nat.le_trans (nd_mono (by omega) hm) h
theorem natS_empty {n : Nat} (h : n = 0) : (natS n).toList = [] := by subst h; rw [natS_zero, ba_toList]
theorem natS_full {n : Nat} (h : n ≠ 0) : ¬ (natS n).toList = [] := fun c => by
  rw [ba_toList] at c
  have h1 : (natS n).size = 0 := by show (natS n).data.size = 0; rw [← Array.length_toList, c]; rfl
  rw [natS_size, nd_eq_zero (by omega)] at h1; exact h h1
theorem natS_full2 {n : Nat} (h : n ≠ 0) : (natS n).toList.isEmpty = false := by
  have := natS_full h
  cases h2 : (natS n).toList with
  | nil => exact absurd h2 this
  | cons x l => rfl
theorem cmp_neg {a b : Nat} (h : a < b) : decide (cmpN a b < 0) = true := by rw [cmpN_lt h]; rfl
theorem cmp_pos {a b : Nat} (h : b ≤ a) : decide (cmpN a b < 0) = false := by
  rcases Nat.eq_or_lt_of_le h with h1 | h1
  · subst h1; rw [cmpN_eq]; rfl
  · rw [cmpN_gt h1]; rfl
set_option maxRecDepth 100000 in
theorem NSub_no (s t : ByteArray) (w : World) (h : ¬ (May s ∧ May t)) :
    Calls Try.prog 64 #[.string s, .string t] w (StrPost ⟨#[]⟩ 2 w) := by
  have H := Lib.hid h
  clear h
  go_enter Try.func64, Try.ntmps64
  go_wp2_with (go_at_call 88; refine (Cmp_no _ _ _ H.out).mono ?_; rintro e w' ⟨rfl, hb⟩)
  go_ret2
  exact ⟨rfl, hb⟩
set_option maxRecDepth 100000 in
theorem NSub_below (a b : Nat) (w : World) (ha : fits a) (hb : fits b) (h : a < b) :
    Calls Try.prog 64 #[.string (natS a), .string (natS b)] w (StrPost ⟨#[]⟩ 20 w) := by
  have hc := cmp_neg h
  clear h
  go_enter Try.func64, Try.ntmps64
  go_wp2_with (go_at_call 88; refine (NCmp_c _ _ _ ha hb).mono ?_; rintro e w' ⟨rfl, hb⟩)
  go_ret2
  exact ⟨rfl, hb⟩
set_option maxRecDepth 100000 in
theorem NSub_c (a b : Nat) (w : World) (ha : fits a) (hb : fits b) (h : b ≤ a) :
    Calls Try.prog 64 #[.string (natS a), .string (natS b)] w (StrPost (natS (a - b)) 0 w) := by
  have hc := cmp_pos h
  have hfs := fits_le ha (Nat.sub_le a b)
  by_cases h1 : nd 256 a ≤ 8
  · have hB := brB_yes h1
    have h2 : nd 256 b ≤ 8 := Nat.le_trans (nd_mono (by omega) h) h1
    have e1 := brN_yes h1
    have e2 := brN_yes h2
    have hsub : IntKind.u64.wrap ((a : Int) - (b : Int)) = ((a - b : Nat) : Int) := by
      have := br_lt.1 h1
      rw [IntKind.wrap_u64]; omega
    have HLt := Lib.hid (Nat.lt_of_le_of_lt (Nat.sub_le a b) (br_lt.1 h1))
    clear h h1 h2
    go_enter Try.func64, Try.ntmps64
    go_wp2_with (first
      | (go_at_call 88; refine (NCmp_c _ _ _ ha hb).mono ?_; rintro e w' ⟨rfl, hb1⟩)
      | (go_at_call 89; refine (brief_c _ _ (by assumption)).mono ?_; rintro e w' ⟨rfl, rfl⟩)
      | (go_at_call 63; refine (Of_n _ _ HLt.out).mono ?_; rintro e w' ⟨rfl, hb2⟩))
    go_ret2
    exact ⟨rfl, hb1.trans (hb2.mono hb1.size)⟩
  · have hB := brB_no h1
    have H := Lib.hid h
    have hwa := fits_words ha
    have hwb := fits_words hb
    have hws := fits_words hfs
    have e3 := resS_ok hfs
    have e4 := resE_ok hfs
    clear h h1
    go_enter Try.func64, Try.ntmps64
    go_upto_region 10 with (first
      | (go_at_call 88; refine (NCmp_c _ _ _ ha hb).mono ?_; rintro e w1 ⟨rfl, hb1⟩)
      | (go_at_call 89; refine (brief_c _ _ (by assumption)).mono ?_; rintro e w' ⟨rfl, rfl⟩))
    go_wp2_with fail
    refine (words_c a _ ha).mono ?_
    intro e w2 hp
    obtain ⟨A1, c1, rfl, hc1, hr1, hb2⟩ := hp.get
    have HR1 := Lib.hid hr1
    clear hr1 hp
    go_wp2_with fail
    refine (words_c b _ hb).mono ?_
    intro e w3 hp
    obtain ⟨A2, c2, rfl, hc2, hr2, hb3⟩ := hp.get
    have HR2 := Lib.hid hr2
    clear hr2 hp
    go_wp2_with fail
    refine (Sub_c A1 A2 c1 c2 a b w3.heap.size w3 H.out (by omega) ((HR1.out.below hb3).more hb3.size) HR2.out (Nat.le_refl _)).mono ?_
    intro e w4 hp
    obtain ⟨A3, c3, rfl, hc3, hr3, hb4⟩ := hp.get
    have HR3 := Lib.hid hr3
    clear hr3 hp
    go_wp2_with fail
    refine (made_c A3 c3 (a - b) w4.heap.size w4 (by omega) HR3.out (Nat.le_refl _)).mono ?_
    rintro e w5 ⟨rfl, hb5⟩
    rw [e3, e4]
    go_wp2_with fail
    go_ret2
    exact ⟨rfl, hb1.trans ((hb2.mono hb1.size).trans ((hb3.mono (Nat.le_trans hb1.size hb2.size)).trans ((hb4.mono (Nat.le_trans hb1.size (Nat.le_trans hb2.size hb3.size))).trans (hb5.mono (Nat.le_trans hb1.size (Nat.le_trans hb2.size (Nat.le_trans hb3.size hb4.size)))))))⟩
/-- Is the product of two too long by the lengths alone? -/
theorem mul_long {a b : Nat} (ha : a ≠ 0) (hb : b ≠ 0) : nd 256 a - 1 + (nd 256 b - 1) < nd 256 (a * b) := by
  have h1 : nd 256 a ≠ 0 := fun c => ha ((nd_eq_zero (by omega)).1 c)
  have h2 : nd 256 b ≠ 0 := fun c => hb ((nd_eq_zero (by omega)).1 c)
  refine (pow_le_iff (by omega) _ _).1 ?_
  rw [Nat.pow_add]
  exact Nat.mul_le_mul ((pow_le_iff (by omega) _ _).2 (by omega)) ((pow_le_iff (by omega) _ _).2 (by omega))
theorem small_prod {x y : Nat} (h : x * y < 18446744073709551616) : x * y / 18446744073709551616 = 0 ∧ x * y % 18446744073709551616 = x * y := ⟨Nat.div_eq_of_lt h, Nat.mod_eq_of_lt h⟩
@[irreducible] def longI (z : Int) : Bool := decide (131072 < z)
@[local go_sem] theorem gt_longI (z : Int) : decide ((131072 : Int) < z) = longI z := by unfold longI; rfl
set_option maxRecDepth 100000 in
theorem NMul_no (s t : ByteArray) (w : World) (h : ¬ (May s ∧ May t)) :
    Calls Try.prog 72 #[.string s, .string t] w (StrPost ⟨#[]⟩ 2 w) := by
  have hm := may2_no h
  go_enter Try.func72, Try.ntmps72
  go_wp2_with (first | (go_at_call 91; refine (all_c _ 2 [s, t] _ (by simp) (strs_new w 22 [s, t])).mono ?_; rintro e w' ⟨rfl, rfl⟩))
  go_ret2
  exact ⟨rfl, (Below.refl _ _).alloc (Nat.le_refl _) _⟩
set_option maxRecDepth 100000 in
theorem NMul_small (a b : Nat) (w : World) (ha : fits a) (hb : fits b) (h1 : brB a = true) (h2 : brB b = true) (h3 : a * b < 18446744073709551616) :
    Calls Try.prog 72 #[.string (natS a), .string (natS b)] w (StrPost (natS (a * b)) 0 w) := by
  have hm := may2 ha hb
  have e1 := brN_yes (brB_true h1)
  have e2 := brN_yes (brB_true h2)
  have hmul := fun w => Try.bits_Mul64 a b (br_lt.1 (brB_true h1)) (br_lt.1 (brB_true h2)) w
  obtain ⟨q1, q2⟩ := small_prod h3
  rw [q1, q2] at hmul
  have HM := Lib.hid hmul
  have HP := Lib.hid h3
  clear hmul q1 q2 h3
  go_enter Try.func72, Try.ntmps72
  go_wp2_with (first
    | (go_at_call 91; refine (all_c _ 2 [natS a, natS b] _ (by simp) (strs_new w 22 [natS a, natS b])).mono ?_; rintro e w' ⟨rfl, rfl⟩)
    | (go_at_call 89; refine (brief_c _ _ (by assumption)).mono ?_; rintro e w' ⟨rfl, rfl⟩)
    | (go_at_call 98; refine (HM.out _).mono ?_; rintro e w' ⟨rfl, rfl⟩)
    | (go_at_call 63; refine (Of_n _ _ HP.out).mono ?_; rintro e w' ⟨rfl, hb2⟩))
  go_ret2
  exact ⟨rfl, ((Below.refl _ _).alloc (Nat.le_refl _) _).trans (hb2.mono (by simp))⟩
theorem mul_cases (a b : Nat) : (brB a = true ∧ brB b = true ∧ a * b < 18446744073709551616) ∨ brB a = false ∨ (brB a = true ∧ brB b = false) ∨ (brB a = true ∧ brB b = true ∧ ¬ a * b < 18446744073709551616) := by
  by_cases h3 : a * b < 18446744073709551616 <;> cases brB a <;> cases brB b <;> simp [h3]
theorem big_prod {a b : Nat} (h1 : brB a = true) (h2 : brB b = true) (h : ¬ a * b < 18446744073709551616) : ∃ hi lo : Nat, ((hi : Int) == 0) = false ∧
    ∀ w, Calls Try.prog 98 #[.int .u64 (a : Nat), .int .u64 (b : Nat)] w fun e w' => e = .returned (.tuple #[.int .u64 (hi : Nat), .int .u64 (lo : Nat)]) ∧ w' = w :=
  ⟨_, _, eqz_false (by have := Nat.div_pos (a := a * b) (b := 18446744073709551616) (by omega) (by omega); omega), fun w => Try.bits_Mul64 a b (br_lt.1 (brB_true h1)) (br_lt.1 (brB_true h2)) w⟩
/-- The test of the lengths. -/
theorem mul_test (a b : Nat) (ha : fits a) (hb : fits b) : (a = 0 ∨ b = 0 ∨ longI (8 * ((nd 256 a : Int) - 1) + 8 * ((nd 256 b : Int) - 1)) = false) ∨ (a ≠ 0 ∧ b ≠ 0 ∧ longI (8 * ((nd 256 a : Int) - 1) + 8 * ((nd 256 b : Int) - 1)) = true ∧ ¬ fits (a * b)) := by
  by_cases h1 : a = 0
  · exact Or.inl (Or.inl h1)
  by_cases h2 : b = 0
  · exact Or.inl (Or.inr (Or.inl h2))
  by_cases h3 : 131072 < 8 * ((nd 256 a : Int) - 1) + 8 * ((nd 256 b : Int) - 1)
  · refine Or.inr ⟨h1, h2, by unfold longI; exact decide_eq_true h3, fun c => ?_⟩
    have := mul_long h1 h2
    unfold fits at c; omega
  · exact Or.inl (Or.inr (Or.inr (by unfold longI; exact decide_eq_false h3)))
set_option maxRecDepth 100000 in
set_option maxHeartbeats 2000000 in
theorem NMul_c (a b : Nat) (w : World) (ha : fits a) (hb : fits b) :
    Calls Try.prog 72 #[.string (natS a), .string (natS b)] w (StrPost (resS (a * b)) (resE (a * b)) w) := by
  have hm := may2 ha hb
  have hza := natS_size a
  have hzb := natS_size b
  have hna : nd 256 a ≤ 16384 := ha
  have hnb : nd 256 b ≤ 16384 := hb
  have hwa := fits_words ha
  have hwb := fits_words hb
  have hwm := mul_words a b
  rcases mul_cases a b with ⟨h1, h2, h3⟩ | h | ⟨h1, h2⟩ | ⟨h1, h2, h3⟩
  case' inl =>
    have hf : fits (a * b) := by have := br_lt.2 h3; unfold fits; omega
    rw [resS_ok hf, resE_ok hf]
    exact NMul_small a b w ha hb h1 h2 h3
  case' inr.inl =>
    go_enter Try.func72, Try.ntmps72
    go_upto_region 10 with (first
      | (go_at_call 91; refine (all_c _ 2 [natS a, natS b] _ (by simp) (strs_new w 22 [natS a, natS b])).mono ?_; rintro e w' ⟨rfl, rfl⟩)
      | (go_at_call 89; refine (brief_c _ _ (by assumption)).mono ?_; rintro e w' ⟨rfl, rfl⟩))
  case' inr.inr.inl =>
    go_enter Try.func72, Try.ntmps72
    go_upto_region 10 with (first
      | (go_at_call 91; refine (all_c _ 2 [natS a, natS b] _ (by simp) (strs_new w 22 [natS a, natS b])).mono ?_; rintro e w' ⟨rfl, rfl⟩)
      | (go_at_call 89; refine (brief_c _ _ (by assumption)).mono ?_; rintro e w' ⟨rfl, rfl⟩))
  case' inr.inr.inr =>
    have e1 := brN_yes (brB_true h1)
    have e2 := brN_yes (brB_true h2)
    obtain ⟨hi, lo, hz, hmul⟩ := big_prod h1 h2 h3
    have HM := Lib.hid hmul
    clear hmul h3
    go_enter Try.func72, Try.ntmps72
    go_upto_region 10 with (first
      | (go_at_call 91; refine (all_c _ 2 [natS a, natS b] _ (by simp) (strs_new w 22 [natS a, natS b])).mono ?_; rintro e w' ⟨rfl, rfl⟩)
      | (go_at_call 89; refine (brief_c _ _ (by assumption)).mono ?_; rintro e w' ⟨rfl, rfl⟩)
      | (go_at_call 98; refine (HM.out _).mono ?_; rintro e w' ⟨rfl, rfl⟩))
  all_goals
    have hbw : Below w.heap.size w (w.alloc (.cells #[.string (natS a), .string (natS b)] 22)) := (Below.refl _ _).alloc (Nat.le_refl _) _
    generalize w.alloc (.cells #[.string (natS a), .string (natS b)] 22) = w1 at *
    rcases mul_test a b ha hb with h0 | ⟨h1, h2, h3, h4⟩
    · rcases h0 with h0 | h0 | h0
      case' inl => have hE := natS_empty h0
      case' inr.inl => have hE := natS_empty h0
      all_goals
        have HO := Lib.hid h0
        have HHm := Lib.hid hwm
        clear h0 hwm
      case' inr.inr => have hE := HO.out
      all_goals
        go_upto_region 13 with fail
      all_goals
        go_wp2_with fail
        refine (words_c a _ ha).mono ?_
        intro e w2 hp
        obtain ⟨A1, c1, rfl, hc1, hr1, hb2⟩ := hp.get
        have HR1 := Lib.hid hr1
        clear hr1 hp
        go_wp2_with fail
        refine (words_c b _ hb).mono ?_
        intro e w3 hp
        obtain ⟨A2, c2, rfl, hc2, hr2, hb3⟩ := hp.get
        have HR2 := Lib.hid hr2
        clear hr2 hp
        go_wp2_with fail
        refine (Mul_c A1 A2 c1 c2 a b w3.heap.size w3 (by omega) ((HR1.out.below hb3).more hb3.size) HR2.out (Nat.le_refl _)).mono ?_
        intro e w4 hp
        obtain ⟨A3, c3, rfl, hc3, hr3, hb4⟩ := hp.get
        have HR3 := Lib.hid hr3
        clear hr3 hp
        go_wp2_with fail
        refine (made_c A3 c3 (a * b) w4.heap.size w4 (by have := HHm.out; omega) HR3.out (Nat.le_refl _)).mono ?_
        rintro e w5 ⟨rfl, hb5⟩
        go_wp2_with fail
        go_ret2
        exact ⟨rfl, hbw.trans ((hb2.mono hbw.size).trans ((hb3.mono (Nat.le_trans hbw.size hb2.size)).trans ((hb4.mono (Nat.le_trans hbw.size (Nat.le_trans hb2.size hb3.size))).trans (hb5.mono (Nat.le_trans hbw.size (Nat.le_trans hb2.size (Nat.le_trans hb3.size hb4.size)))))))⟩
    · have n1 := natS_full h1
      have n2 := natS_full h2
      have m1 := natS_full2 h1
      have m2 := natS_full2 h2
      have R1 := Lib.hid (resS_no h4)
      have R2 := Lib.hid (resE_no h4)
      go_wp2_with fail
      go_ret2
      exact ⟨by rw [R1.out, R2.out]; rfl, hbw⟩
end Go.Proofs.Ytfoldiieclfbgaa
set_option linter.unusedSimpArgs false
set_option linter.unusedVariables false
namespace Go.Proofs.Ytfoldiieclfbgaa
open Go Go.RowKit Nt

theorem below_chain {a b c : World} (h1 : Below a.heap.size a b) (h2 : Below b.heap.size b c) : Below a.heap.size a c := h1.trans (h2.mono h1.size)
theorem nne_true {x : Nat} (h : x ≠ 0) : (((x : Nat) : Int) != 0) = true := by rw [bne_iff_ne]; omega
theorem nne_false {x : Nat} (h : x = 0) : (((x : Nat) : Int) != 0) = false := by subst h; rfl
/-- A slice of the call's own that holds these numbers. -/
def Own (w : World) (B : Nat) (T : TypeId) (k : IntKind) (v : Value) (l : List Nat) : Prop := w.ownsRow B T 1 v l.length (l.map (fun (x : Nat) => Value.int k (x : Int)))
theorem Own.nil (w : World) (B : Nat) (T : TypeId) (k : IntKind) : Own w B T k (.slice none 0 0) [] := World.ownsRow_nil w B T 1
theorem Own.form {w : World} {B : Nat} {T : TypeId} {k : IntKind} {v : Value} {l : List Nat} (h : Own w B T k v l) :
    (v = .slice none 0 0 ∧ l = []) ∨ ∃ g cap cs, v = .slice (some ⟨g, 0, none⟩) l.length cap ∧ B ≤ g ∧ g < w.heap.size ∧ Blk w g T cs ∧ l.length ≤ cap ∧ cap ≤ 9223372036854775807 ∧ ∀ j, (hj : j < l.length) → cs[j]? = some (.int k (l[j] : Nat)) := by
  rcases h.2 with ⟨rfl, h0⟩ | ⟨g, cap, cur, rfl, hB, hh, hn, hm, hs, ht⟩
  · exact Or.inl ⟨rfl, List.eq_nil_of_length_eq_zero h0⟩
  · refine Or.inr ⟨g, cap, cur, rfl, hB, Blk.lt hh, hh, hn, by simpa [maxLen] using hm, fun j hj => ?_⟩
    have e := congrArg (fun x => x[j]?) ht
    simp only [Nat.mul_one] at e
    rw [List.getElem?_take, if_pos hj, List.getElem?_map, List.getElem?_eq_getElem hj] at e
    rw [← Array.getElem?_toList]; exact e
theorem Own.cell {w : World} {B : Nat} {T : TypeId} {k : IntKind} {v : Value} {l : List Nat} (h : Own w B T k v l) {j : Nat} (hj : j < l.length) :
    ∃ g cap, v = .slice (some ⟨g, 0, none⟩) l.length cap ∧ B ≤ g ∧ g < w.heap.size ∧ w.cell? ⟨g, j, none⟩ = some (.int k (l[j] : Nat)) ∧ w.frozen? ⟨g, j, none⟩ = false := by
  rcases h.form with ⟨_, rfl⟩ | ⟨g, cap, cs, rfl, hB, hg, hb, _, _, hc⟩
  · simp at hj
  · exact ⟨g, cap, rfl, hB, hg, by rw [hb.cell, hc j hj], hb.frozen j⟩
theorem Own.below {w w' : World} {B B' : Nat} {T : TypeId} {k : IntKind} {v : Value} {l : List Nat} (h : Own w B T k v l) (hb : Below B' w w') (hB : ∀ g, v.ownBlock = some g → g < B') : Own w' B T k v l := by
  rcases h.2 with ⟨rfl, h0⟩ | ⟨g, cap, cur, rfl, hB1, hh, hn, hm, hs, ht⟩
  · exact ⟨h.1, Or.inl ⟨rfl, h0⟩⟩
  · exact ⟨h.1, Or.inr ⟨g, cap, cur, rfl, hB1, (hb.block g (hB g rfl)).trans hh, hn, hm, hs, ht⟩⟩
theorem Own.base {w : World} {B B' : Nat} {T : TypeId} {k : IntKind} {v : Value} {l : List Nat} (h : Own w B T k v l) (hB : B' ≤ B) : Own w B' T k v l := by
  rcases h.2 with ⟨rfl, h0⟩ | ⟨g, cap, cur, rfl, hB1, hh, hn, hm, hs, ht⟩
  · exact ⟨h.1, Or.inl ⟨rfl, h0⟩⟩
  · exact ⟨h.1, Or.inr ⟨g, cap, cur, rfl, by omega, hh, hn, hm, hs, ht⟩⟩
theorem Own.lt {w : World} {B : Nat} {T : TypeId} {k : IntKind} {v : Value} {l : List Nat} (h : Own w B T k v l) : ∀ g, v.ownBlock = some g → B ≤ g ∧ g < w.heap.size := World.ownsRow.lt h
theorem Own.whole {w w' : World} {B : Nat} {T : TypeId} {k : IntKind} {v : Value} {l : List Nat} (h : Own w B T k v l) (hb : Below w.heap.size w w') : Own w' B T k v l := h.below hb fun g e => (h.lt g e).2
theorem Own.drewN {w : World} {B : Nat} {T : TypeId} {k : IntKind} {v : Value} {l : List Nat} (h : Own w B T k v l) (n : Nat) : Own (w.drewN n) B T k v l := h
theorem Own.len {w : World} {B : Nat} {T : TypeId} {k : IntKind} {v : Value} {l : List Nat} (h : Own w B T k v l) : ∃ A c, v = .slice A l.length c ∧ l.length ≤ c := by
  rcases h.form with ⟨rfl, rfl⟩ | ⟨g, cap, cs, rfl, _, _, _, hc, _⟩
  · exact ⟨none, 0, rfl, Nat.le_refl _⟩
  · exact ⟨_, _, rfl, hc⟩
/-- What an append leaves as it was. -/
def Frm (w0 w' : World) (v : Value) : Prop := ∀ k, k < w0.heap.size → some k ≠ v.ownBlock → w'.heap[k]? = w0.heap[k]?
theorem Frm.cell {w0 w' : World} {v : Value} (h : Frm w0 w' v) {p : Addr} (hp : p.block < w0.heap.size) (hne : some p.block ≠ v.ownBlock) : w'.cell? p = w0.cell? p := World.cell?_of_block (h p.block hp hne)
theorem Row.frm {w0 w' : World} {v : Value} {A : Option Addr} {n L : Nat} (hr : Row w0 w0.heap.size A n L) (h : Frm w0 w' v) (hd : ∀ g, A = some ⟨g, 0, none⟩ → v.ownBlock ≠ some g) (hs : w0.heap.size ≤ w'.heap.size) : Row w' w'.heap.size A n L := fun hL => by
  obtain ⟨g, e, hg, hc⟩ := hr hL
  exact ⟨g, e, by omega, fun j hj => (h.cell (p := ⟨g, j, none⟩) hg (fun c => hd g e c.symm)).trans (hc j hj)⟩
theorem Own.frm {w0 w' : World} {B : Nat} {T : TypeId} {k : IntKind} {v u : Value} {l : List Nat} (ho : Own w0 B T k u l) (h : Frm w0 w' v) (hd : ∀ g, u.ownBlock = some g → v.ownBlock ≠ some g) : Own w' B T k u l := by
  rcases ho.2 with ⟨rfl, h0⟩ | ⟨g, cap, cur, rfl, hB1, hh, hn, hm, hs, ht⟩
  · exact ⟨ho.1, Or.inl ⟨rfl, h0⟩⟩
  · exact ⟨ho.1, Or.inr ⟨g, cap, cur, rfl, hB1, (h g (Blk.lt hh) (fun c => hd g rfl c.symm)).trans hh, hn, hm, hs, ht⟩⟩
/-- 'append(s, x)'. -/
theorem wpList_app1 {P : Program} (w0 : World) {ops : Array Oper} {rest : List Oper} {o : Oper} {a : Act} {Q : Exit → Act → World → Prop} (hgd : o.guard = none) (s x : Operand) (t : TypeId)
    (ho : o.op = .call { callee := .builtin .append, args := #[s, x], argTypes := #[t, t] })
    (B : Nat) (e U : TypeId) (i : TypeInfo) (k : IntKind) (bytes : Nat) (ht : P.underlying t = some (.slice e)) (hi : P.info? e = some i) (hz : i.zero = some (.int k 0))
    (hsize : i.size = 1) (hby : i.bytes = bytes) (hb8 : bytes ≤ 8)
    (v : Value) (l : List Nat) (y : Nat) (hs : a.eval s = v) (hx : a.eval x = .slice (some ⟨w0.heap.size, 0, none⟩) 1 1) (hown : Own w0 B e k v l)
    (hn : l.length + 1 ≤ 17592186044416) (hB : B ≤ w0.heap.size)
    (h : ∀ v' w', Own w' B e k v' (l ++ [y]) → Below B w0 w' → Frm w0 w' v → (∀ g, v'.ownBlock = some g → v.ownBlock = some g ∨ w0.heap.size ≤ g) → wpList P ops Q rest (a.put o.dst v') w') :
    wpList P ops Q (o :: rest) a (w0.alloc (.cells #[.int k (y : Nat)] U)) := by
  have hbytes : (l.length + 1) * bytes ≤ 140737488355328 := by
    have h1 : (l.length + 1) * bytes ≤ (l.length + 1) * 8 := Nat.mul_le_mul_left _ hb8
    omega
  have hown1 : (w0.alloc (.cells #[.int k (y : Nat)] U)).ownsRow B e 1 v l.length (l.map (fun (x : Nat) => Value.int k (x : Int))) := World.ownsRow.alloc hown _
  refine wpList_plain hgd fun _ hK => ?_
  obtain ⟨v', w', hrun, h2, hg, _, h5⟩ := run_append_own_at (P := P) (w0.alloc (.cells #[.int k (y : Nat)] U)) B t o.type e i (.int k 0) 1 bytes ht hi hz hsize hby rfl (by omega) v l.length (l.map (fun (x : Nat) => Value.int k (x : Int))) hown1
    ⟨w0.heap.size, 0, none⟩ 1 1 [.int k (y : Nat)] rfl (by
      intro j u hu
      have hj : j = 0 := by
        rcases Nat.lt_or_ge j 1 with h | h
        · omega
        · rw [List.getElem?_eq_none (by simpa using h)] at hu; cases hu
      subst hj
      rw [add_plain0, World.cell?_alloc_new]
      exact hu) (by
      intro u hu
      rw [List.mem_singleton.1 hu]; rfl) (by simp [maxLen]; omega) hbytes (by simp; omega)
  unfold Oper.wp execOp
  simp only [ho, resolve, invoke, builtin, Sem.run_bind, Sem.run_pure, Result.andThen_ok, List.map_toArray, List.map_cons, List.map_nil, hs, hx, hrun]
  refine hK _ _ (h v' w' ?_ ?_ ?_ ?_)
  · unfold Own
    simpa using h2
  · exact Below.grown ((Below.refl _ _).alloc hB _) hg (by simp; omega) (fun g e => (hown.lt g e).1)
  · intro k' hk hne
    rw [hg.block k' (by simp; omega) hne]
    exact Below.heap_alloc w0 _ k' hk
  · intro g hgo
    rcases h5 with h5 | h5
    · rw [← h5]; exact Or.inl hgo
    · rw [h5] at hgo
      have : g = w0.heap.size + 1 := by simpa using hgo.symm
      exact Or.inr (by omega)
/-- A block of bytes turned round. -/
def TurnPost (g n : Nat) (T : TypeId) (f : Nat → Nat) (w : World) (e : Ending) (w' : World) : Prop :=
  e = .returned (.tuple #[]) ∧ ∃ cs, Blk w' g T cs ∧ (∀ j, j < n → cs[j]? = some (.int .u8 (f (n - 1 - j) : Nat))) ∧ Below g w w'
/-- Where the byte at p stands when i have been exchanged. -/
def swF (f : Nat → Nat) (n i p : Nat) : Nat := if p < i ∨ n - i ≤ p then f (n - 1 - p) else f p
theorem sw_set {cs : Array Value} {n i : Nat} {f : Nat → Nat} (hc : ∀ j, j < n → cs[j]? = some (.int .u8 (swF f n i j : Nat))) (h : i < n - 1 - i) :
    ∀ j, j < n → ((cs.setIfInBounds i (.int .u8 (f (n - 1 - i) : Nat))).setIfInBounds (n - 1 - i) (.int .u8 (f i : Nat)))[j]? = some (.int .u8 (swF f n (i + 1) j : Nat)) := by
  intro j hj
  have hsz : n ≤ cs.size := by
    rcases Nat.lt_or_ge cs.size n with h1 | h1
    · have := hc (n - 1) (by omega)
      rw [Array.getElem?_eq_none (by omega)] at this; cases this
    · exact h1
  rw [Array.getElem?_setIfInBounds, Array.size_setIfInBounds]
  by_cases h1 : n - 1 - i = j
  · rw [if_pos h1, if_pos (by omega)]
    unfold swF
    rw [if_pos (by omega)]
    congr 4; omega
  · rw [if_neg h1, Array.getElem?_setIfInBounds]
    by_cases h2 : i = j
    · rw [if_pos h2, if_pos (by omega)]
      unfold swF
      rw [if_pos (by omega), h2]
    · rw [if_neg h2, hc j hj]
      unfold swF
      by_cases h3 : j < i ∨ n - i ≤ j
      · rw [if_pos h3, if_pos (by omega)]
      · rw [if_neg h3, if_neg (by omega)]
end Go.Proofs.Ytfoldiieclfbgaa
set_option linter.unusedSimpArgs false
set_option linter.unusedVariables false
namespace Go.Proofs.Ytfoldiieclfbgaa
open Go Go.RowKit Nt

@[irreducible] def T19 : Nat := 10000000000000000000
theorem T19_eq : T19 = 10000000000000000000 := by unfold T19; rfl
theorem T19_pow : T19 = 10 ^ 19 := by rw [T19_eq]
/-- The decimal digits, the lowest first, as bytes. -/
def digs (n L : Nat) : List Nat := (dl 10 n L).map (48 + ·)
theorem digs_zero (n : Nat) : digs n 0 = [] := rfl
theorem digs_succ (n L : Nat) : digs n (L + 1) = digs n L ++ [48 + dgt 10 n L] := by unfold digs; rw [dl_succ, List.map_append]; rfl
theorem digs_length (n L : Nat) : (digs n L).length = L := by unfold digs; rw [List.length_map, dl_length]
theorem digs_get (n L j : Nat) (h : j < (digs n L).length) : (digs n L)[j] = 48 + dgt 10 n j := by
  have hj : j < L := by rwa [digs_length] at h
  have e : (digs n L)[j]? = some (48 + dgt 10 n j) := by unfold digs; rw [List.getElem?_map, dl_get? _ _ _ _ hj]; rfl
  rw [List.getElem?_eq_getElem h] at e
  exact Option.some.inj e
/-- The decimal text. -/
@[irreducible] def decS (n : Nat) : ByteArray := if n = 0 then ⟨#[48]⟩ else ⟨((digs n (nd 10 n)).reverse.map UInt8.ofNat).toArray⟩
theorem decS_zero : decS 0 = ⟨#[48]⟩ := by unfold decS; rw [if_pos rfl]
theorem decS_pos {n : Nat} (h : n ≠ 0) : decS n = ⟨((digs n (nd 10 n)).reverse.map UInt8.ofNat).toArray⟩ := by unfold decS; rw [if_neg h]
/-- What is left of a chunk. -/
@[irreducible] def lowV (n L i : Nat) : Nat := n / 10 ^ (L + i) % 10 ^ (19 - i)
theorem lowV_def (n L i : Nat) : lowV n L i = n / 10 ^ (L + i) % 10 ^ (19 - i) := by unfold lowV; rfl
theorem lowV_lt (n L i : Nat) : lowV n L i < 10000000000000000000 := by
  rw [lowV_def]
  refine Nat.lt_of_lt_of_le (Nat.mod_lt _ (Nat.pow_pos (by omega))) ?_
  have : (10 : Nat) ^ (19 - i) ≤ 10 ^ 19 := Nat.pow_le_pow_right (by omega) (by omega)
  exact Nat.le_trans this (by decide)
theorem low_start (n L : Nat) : n / 10 ^ L % T19 = lowV n L 0 := by rw [lowV_def, T19_pow]; rfl
theorem low_digit (n L i : Nat) (hi : i < 19) : lowV n L i % 10 = dgt 10 n (L + i) := by
  obtain ⟨k, hk⟩ : ∃ k, 19 - i = k + 1 := ⟨18 - i, by omega⟩
  rw [lowV_def, hk, dgt_def, Nat.pow_succ, Nat.mul_comm, Nat.mod_mul_right_mod]
theorem low_next (n L i : Nat) (hi : i < 19) : lowV n L i / 10 = lowV n L (i + 1) := by
  obtain ⟨k, hk⟩ : ∃ k, 19 - i = k + 1 := ⟨18 - i, by omega⟩
  rw [lowV_def, lowV_def, hk, show 19 - (i + 1) = k by omega, show L + (i + 1) = L + i + 1 by omega, Nat.pow_succ 10 (L + i), ← Nat.div_div_eq_div_mul, Nat.pow_succ, Nat.mul_comm, Nat.mod_mul_right_div_self]
theorem low_whole (n L i : Nat) (hi : i ≤ 19) : n / 10 ^ (L + i) = lowV n L i + 10 ^ (19 - i) * (n / 10 ^ (L + 19)) := by
  rw [lowV_def, show L + 19 = (L + i) + (19 - i) by omega, Nat.pow_add 10 (L + i), ← Nat.div_div_eq_div_mul]
  exact (Nat.mod_add_div _ _).symm
theorem low_done {n L i : Nat} (hi : i ≤ 19) (h1 : n / 10 ^ (L + 19) = 0) (h2 : lowV n L i = 0) : n / 10 ^ (L + i) = 0 := by rw [low_whole n L i hi, h1, h2]; simp
theorem low_more {n L i : Nat} (hi : i ≤ 19) (h : n / 10 ^ (L + 19) ≠ 0 ∨ lowV n L i ≠ 0) : L + i < nd 10 n := by
  refine (pow_le_iff (by omega) _ _).1 ?_
  have h3 : n / 10 ^ (L + i) ≠ 0 := by
    rw [low_whole n L i hi]
    rcases h with h | h
    · have := Nat.mul_pos (Nat.pow_pos (n := 19 - i) (show 0 < 10 by omega)) (Nat.pos_of_ne_zero h); omega
    · omega
  rcases Nat.lt_or_ge n (10 ^ (L + i)) with h4 | h4
  · exact absurd (Nat.div_eq_of_lt h4) h3
  · exact h4
end Go.Proofs.Ytfoldiieclfbgaa
set_option linter.unusedSimpArgs false
set_option linter.unusedVariables false
namespace Go.Proofs.Ytfoldiieclfbgaa
open Go Go.RowKit Nt

/-- What a division leaves. -/
def DivPost (q r : Nat) (w : World) (e : Ending) (w' : World) : Prop :=
  ∃ A c A' c', e = .returned (.tuple #[.slice A (nd W q) c, .slice A' (nd W r) c']) ∧ nd W q ≤ c ∧ nd W r ≤ c' ∧ Row w' w'.heap.size A q (nd W q) ∧ Row w' w'.heap.size A' r (nd W r) ∧ Below w.heap.size w w'
theorem one_word {b : Nat} (h : nd W b = 1) : dgt W b 0 = b ∧ b ≠ 0 ∧ b < 18446744073709551616 := by
  have h1 : b < W ^ 1 := (lt_pow_iff W2 1 b).2 (by omega)
  rw [Nat.pow_one] at h1
  refine ⟨by rw [dgt_def, Nat.pow_zero, Nat.div_one, Nat.mod_eq_of_lt h1], fun c => ?_, by rw [← W_eq]; exact h1⟩
  subst c; rw [nd_zero] at h; omega
set_option maxRecDepth 100000 in
set_option maxHeartbeats 1000000 in
theorem Div_one (A A' : Option Addr) (c c' a b : Nat) (w : World) (hb1 : nd W b = 1) (hab : b ≤ a) (hL : nd W a ≤ 1000000000) (hr : Row w w.heap.size A a (nd W a)) (hr' : Row w w.heap.size A' b (nd W b)) :
    Calls Try.prog 120 #[.slice A (nd W a) c, .slice A' (nd W b) c'] w (DivPost (a / b) (a % b) w) := by
  have hcmp := cmp_pos hab
  have hcm := Cmp_c A A' c c' a b w.heap.size w hL (by omega) hr hr'
  have HCM := Lib.hid hcm
  obtain ⟨g', rfl, hg', hcell⟩ := hr'.at_ (k := 0) (by omega)
  obtain ⟨e1, e2, e3⟩ := one_word hb1
  rw [e1] at hcell
  have HR := Lib.hid hr
  have HR' := Lib.hid hr'
  have HE2 := Lib.hid e2
  have HE3 := Lib.hid e3
  have HLL := Lib.hid hL
  have H1 := Lib.hid hb1
  rw [hb1] at HCM ⊢
  clear hcm hr hr' e1 e2 e3 hab hL hb1
  go_enter Try.func120, Try.ntmps120
  go_wp2
  go_step3
  go_wp2_with (first
    | (go_at_call 124; refine HCM.out.mono ?_; rintro e w1 ⟨rfl, nn, rfl⟩)
    | (go_at_call 127; refine (Take_c A c a b _ _ HE2.out HE3.out HLL.out (HR.out.drewN nn) (Nat.le_refl _)).mono ?_; rintro e w2 ⟨A2, c2, rfl, hA2, hs2, hc2, hr2, hb2⟩; have HR2 := Lib.hid hr2; clear hA2 hr2)
    | (go_at_call 128; refine (Of_c _ _ (by exact Nat.lt_of_lt_of_le (Nat.mod_lt _ (Nat.pos_of_ne_zero HE2.out)) (Nat.le_of_lt HE3.out))).mono ?_; intro e w3 hp; obtain ⟨A3, c3, rfl, hc3, hr3, hb3⟩ := hp.get; have HR3 := Lib.hid hr3; clear hr3 hp))
  rw [Exit.noGoto_ret]
  go_ret2
  exact ⟨_, _, _, _, rfl, hc2, hc3, (HR2.out.below hb3).more hb3.size, HR3.out, (below_drewN (Below.refl _ _) nn).trans (hb2.trans (hb3.mono hb2.size))⟩
/-- Two texts and an error. -/
def Str2Post (s t : ByteArray) (r : Int) (w : World) (e : Ending) (w' : World) : Prop := e = .returned (.tuple #[.string s, .string t, .int .i64 r]) ∧ Below w.heap.size w w'
theorem bodyPost3 : True := trivial
set_option maxRecDepth 100000 in
set_option maxHeartbeats 1000000 in
theorem NDiv_of (a b : Nat) (w : World) (ha : fits a) (hb : fits b) (hb0 : b ≠ 0)
    (hdiv : ∀ (A A' : Option Addr) (c c' : Nat) (w : World), Row w w.heap.size A a (nd W a) → Row w w.heap.size A' b (nd W b) → Calls Try.prog 120 #[.slice A (nd W a) c, .slice A' (nd W b) c'] w (DivPost (a / b) (a % b) w)) :
    Calls Try.prog 102 #[.string (natS a), .string (natS b)] w (Str2Post (natS (a / b)) (natS (a % b)) 0 w) := by
  have hm := may2 ha hb
  have n1 := natS_full hb0
  have n2 := natS_full2 hb0
  have hq := fits_words (fits_le ha (Nat.div_le_self a b))
  have hrr := fits_words (fits_le ha (Nat.mod_le a b))
  have HDV := Lib.hid hdiv
  clear hdiv
  go_enter Try.func102, Try.ntmps102
  go_upto_region 6 with (first
    | (go_at_call 91; refine (all_c _ 2 [natS a, natS b] _ (by simp) (strs_new w 22 [natS a, natS b])).mono ?_; rintro e w' ⟨rfl, rfl⟩))
  have hbw : Below w.heap.size w (w.alloc (.cells #[.string (natS a), .string (natS b)] 22)) := (Below.refl _ _).alloc (Nat.le_refl _) _
  generalize w.alloc (.cells #[.string (natS a), .string (natS b)] 22) = w1 at *
  go_wp2_with fail
  refine (words_c a _ ha).mono ?_
  intro e w2 hp
  obtain ⟨A1, c1, rfl, hc1, hr1, hb2⟩ := hp.get
  have HR1 := Lib.hid hr1
  clear hr1 hp
  go_wp2_with fail
  refine (words_c b _ hb).mono ?_
  intro e w3 hp
  obtain ⟨A2, c2, rfl, hc2, hr2, hb3⟩ := hp.get
  have HR2 := Lib.hid hr2
  clear hr2 hp
  go_wp2_with fail
  refine (HDV.out A1 A2 c1 c2 w3 ((HR1.out.below hb3).more hb3.size) HR2.out).mono ?_
  rintro e w4 ⟨A3, c3, A4, c4, rfl, hc3, hc4, hr3, hr4, hb4⟩
  have HR3 := Lib.hid hr3
  have HR4 := Lib.hid hr4
  clear hr3 hr4
  go_wp2_with fail
  refine (Bytes_c A3 c3 (a / b) w4.heap.size w4 (by omega) HR3.out (Nat.le_refl _)).mono ?_
  rintro e w5 ⟨rfl, hb5⟩
  go_wp2_with fail
  refine (Bytes_c A4 c4 (a % b) w5.heap.size w5 (by omega) ((HR4.out.below hb5).more hb5.size) (Nat.le_refl _)).mono ?_
  rintro e w6 ⟨rfl, hb6⟩
  go_wp2
  have hfin : Below w.heap.size w w6 := hbw.trans ((hb2.mono hbw.size).trans ((hb3.mono (Nat.le_trans hbw.size hb2.size)).trans ((hb4.mono (Nat.le_trans hbw.size (Nat.le_trans hb2.size hb3.size))).trans ((hb5.mono (Nat.le_trans hbw.size (Nat.le_trans hb2.size (Nat.le_trans hb3.size hb4.size)))).trans (hb6.mono (Nat.le_trans hbw.size (Nat.le_trans hb2.size (Nat.le_trans hb3.size (Nat.le_trans hb4.size hb5.size)))))))))
  first
    | (go_ret3; exact ⟨rfl, hfin⟩)
    | exact bodyPost_ret (v := .tuple #[.string (natS (a / b)), .string (natS (a % b)), .int .i64 0]) (by simp [results, Try.results102, go_sem]) rfl ⟨rfl, hfin⟩
set_option maxRecDepth 100000 in
theorem NDiv_no (s t : ByteArray) (w : World) (h : ¬ (May s ∧ May t)) :
    Calls Try.prog 102 #[.string s, .string t] w (Str2Post ⟨#[]⟩ ⟨#[]⟩ 2 w) := by
  have hm := may2_no h
  go_enter Try.func102, Try.ntmps102
  go_wp2_with (first | (go_at_call 91; refine (all_c _ 2 [s, t] _ (by simp) (strs_new w 22 [s, t])).mono ?_; rintro e w' ⟨rfl, rfl⟩))
  have hfin : Below w.heap.size w (w.alloc (.cells #[.string s, .string t] 22)) := (Below.refl _ _).alloc (Nat.le_refl _) _
  first
    | (go_ret3; exact ⟨rfl, hfin⟩)
    | exact bodyPost_ret (v := .tuple #[.string ⟨#[]⟩, .string ⟨#[]⟩, .int .i64 2]) (by simp [results, Try.results102, go_sem]) rfl ⟨rfl, hfin⟩
end Go.Proofs.Ytfoldiieclfbgaa
set_option linter.unusedSimpArgs false
set_option linter.unusedVariables false
namespace Go.Proofs.Ytfoldiieclfbgaa
open Go Go.RowKit Nt

@[irreducible] def KA : Nat := 9223372036854775808
@[irreducible] def KB : Nat := 10
@[irreducible] def KP : Nat := 92233720368547758080
@[irreducible] def KQ : Nat := 13176245766935394011
theorem KA_eq : KA = 9223372036854775808 := by unfold KA; rfl
theorem KB_eq : KB = 10 := by unfold KB; rfl
theorem KP_eq : KP = 92233720368547758080 := by unfold KP; rfl
theorem KQ_eq : KQ = 13176245766935394011 := by unfold KQ; rfl
theorem KA_int : ((KA : Nat) : Int) = 9223372036854775808 := by rw [KA_eq]; rfl
theorem KB_int : ((KB : Nat) : Int) = 10 := by rw [KB_eq]; rfl
theorem K_mul : KA * KB = KP := by rw [KA_eq, KB_eq, KP_eq]
theorem K_div : KP / 7 = KQ := by rw [KP_eq, KQ_eq]
theorem K_mod : KP % 7 = 3 := by rw [KP_eq]
theorem fits_of_lt {n : Nat} (k : Nat) (h : n < 256 ^ k) (hk : k ≤ 16384) : fits n := by
  have := nd_le (b := 256) (by omega) h; unfold fits; omega
theorem fits_KA : fits KA := fits_of_lt 8 (by rw [KA_eq]; decide) (by omega)
theorem fits_KB : fits KB := fits_of_lt 8 (by rw [KB_eq]; decide) (by omega)
theorem fits_KP : fits KP := fits_of_lt 9 (by rw [KP_eq]; decide) (by omega)
theorem fits_7 : fits 7 := fits_of_lt 1 (by decide) (by omega)
theorem nd_KQ : nd 256 KQ = 8 := nd_unique (b := 256) (k := 7) (by omega) (by rw [KQ_eq]; decide) (by rw [KQ_eq]; decide)
theorem ndW_KP : nd W KP ≤ 2 := nd_le W2 (by rw [W_eq, KP_eq]; decide)
theorem ndW_7 : nd W 7 = 1 := nd_unique (b := W) (k := 0) W2 (by decide) (by rw [W_eq]; decide)
theorem natS_one {n : Nat} (h0 : 1 ≤ n) (h : n < 256) : natS n = ⟨#[UInt8.ofNat n]⟩ := by
  have e : nd 256 n = 1 := nd_unique (b := 256) (k := 0) (by omega) (by simpa using h0) (by simpa using h)
  rw [natS_def, e]
  have : dl 256 n 1 = [n] := by
    unfold dl; simp [List.range_succ, dgt_def, Nat.mod_eq_of_lt h]
  rw [this]; rfl
theorem natS_3 : natS 3 = ⟨#[3]⟩ := natS_one (by omega) (by omega)
theorem natS_1 : natS 1 = ⟨#[1]⟩ := natS_one (by omega) (by omega)
def KL : List Nat := [0, 8, 0, 8, 5, 7, 7, 4, 5, 8, 6, 3, 0, 2, 7, 3, 3, 2, 2, 9]
theorem KL_of : of 10 KL = KP := by rw [KP_eq]; decide
theorem dec_KP : decS KP = ⟨#[57, 50, 50, 51, 51, 55, 50, 48, 51, 54, 56, 53, 52, 55, 55, 53, 56, 48, 56, 48]⟩ := by
  have h0 : KP ≠ 0 := by rw [KP_eq]; decide
  have e : nd 10 KP = 20 := nd_unique (b := 10) (k := 19) (by omega) (by rw [KP_eq]; decide) (by rw [KP_eq]; decide)
  have h := dl_of (b := 10) (by omega) KL (by decide)
  rw [KL_of] at h
  rw [decS_pos h0, e]
  unfold digs
  rw [show (20 : Nat) = KL.length from rfl, h]
  decide
theorem may_zero : ¬ May ⟨#[0]⟩ := fun h => h.2 (by decide) (by decide)
theorem Of_KA (w : World) : Calls Try.prog 63 #[.int .u64 9223372036854775808] w fun e w' => e = .returned (.string (natS KA)) ∧ Below w.heap.size w w' := by
  have h := Of_n KA w (by rw [KA_eq]; decide)
  rw [KA_int] at h; exact h
theorem Of_KB (w : World) : Calls Try.prog 63 #[.int .u64 10] w fun e w' => e = .returned (.string (natS KB)) ∧ Below w.heap.size w w' := by
  have h := Of_n KB w (by rw [KB_eq]; decide)
  rw [KB_int] at h; exact h
theorem Of_7 (w : World) : Calls Try.prog 63 #[.int .u64 7] w fun e w' => e = .returned (.string (natS 7)) ∧ Below w.heap.size w w' := Of_n 7 w (by decide)
theorem Mul_K (w : World) : Calls Try.prog 72 #[.string (natS KA), .string (natS KB)] w (StrPost (natS KP) 0 w) := by
  have h := NMul_c KA KB w fits_KA fits_KB
  rw [K_mul, resS_ok fits_KP, resE_ok fits_KP] at h; exact h
theorem Div_K (w : World) : Calls Try.prog 102 #[.string (natS KP), .string (natS 7)] w (Str2Post (natS KQ) ⟨#[3]⟩ 0 w) := by
  have h := NDiv_of KP 7 w fits_KP fits_7 (by omega) (fun A A' c c' w h1 h2 => Div_one A A' c c' KP 7 w ndW_7 (by rw [KP_eq]; decide) (Nat.le_trans ndW_KP (by omega)) h1 h2)
  rw [K_div, K_mod, natS_3] at h; exact h
theorem Sub_K (w : World) : Calls Try.prog 64 #[.string ⟨#[]⟩, .string ⟨#[1]⟩] w (StrPost ⟨#[]⟩ 20 w) := by
  have h := NSub_below 0 1 w (fits_of_lt 0 (by decide) (by omega)) (fits_of_lt 1 (by decide) (by omega)) (by omega)
  rw [natS_zero, natS_1] at h; exact h
theorem Check_K (w : World) : Calls Try.prog 94 #[.string ⟨#[0]⟩] w fun e w' => e = .returned (.int .i64 2) ∧ Below w.heap.size w w' := by
  have h := Check_c ⟨#[0]⟩ w
  rw [may1_no may_zero] at h; exact h
end Go.Proofs.Ytfoldiieclfbgaa
set_option linter.unusedSimpArgs false
set_option linter.unusedVariables false
namespace Go.Proofs.Ytfoldiieclfbgaa
open Go Go.RowKit Nt

@[irreducible] def mayB (s : ByteArray) : Bool := decide (May s)
theorem mayB_yes {s : ByteArray} (h : May s) : mayB s = true := by unfold mayB; exact decide_eq_true h
theorem mayB_no {s : ByteArray} (h : ¬ May s) : mayB s = false := by unfold mayB; exact decide_eq_false h
theorem toList_empty {s : ByteArray} (h : s.size = 0) : s.toList = [] := by
  rw [ba_toList]; exact List.eq_nil_of_length_eq_zero (by rw [Array.length_toList]; exact h)
theorem toList_full {s : ByteArray} (h : 0 < s.size) : ¬ s.toList = [] := fun c => by
  rw [ba_toList] at c
  have : s.data.toList.length = 0 := by rw [c]; rfl
  rw [Array.length_toList] at this
  have h2 : s.size = s.data.size := rfl
  omega
theorem toList_full2 {s : ByteArray} (h : 0 < s.size) : s.toList.isEmpty = false := by
  have := toList_full h
  cases h2 : s.toList with
  | nil => exact absurd h2 this
  | cons x l => rfl
set_option maxRecDepth 100000 in
theorem rMay_c (s : ByteArray) (w : World) (hs : s.size ≤ 9223372036854775807) :
    Calls Try.prog 77 #[.string s] w fun e w' => e = .returned (.bool (mayB s)) ∧ w = w' := by
  by_cases h1 : 16384 < s.size
  · have HB := Lib.hid (mayB_no (s := s) (fun c => by have := c.1; omega))
    have h1' : ¬ (s.size : Int) ≤ 16384 := by omega
    have h1'' : ¬ s.size ≤ 16384 := by omega
    go_enter Try.func77, Try.ntmps77
    go_wp2
    go_ret
    exact ⟨by rw [HB.out]; rfl, rfl⟩
  · have h1' : (s.size : Int) ≤ 16384 := by omega
    have h1'' : s.size ≤ 16384 := by omega
    by_cases h2 : s.size = 0
    · have HB := Lib.hid (mayB_yes (s := s) ⟨by omega, fun h => by omega⟩)
      have hE := toList_empty h2
      have H2 := Lib.hid h2
      clear h2
      go_enter Try.func77, Try.ntmps77
      go_wp2
      go_ret
      exact ⟨by rw [HB.out]; rfl, rfl⟩
    · have h2' : 0 < s.size := by omega
      have hE := toList_full h2'
      have hE2 := toList_full2 h2'
      by_cases h3 : (s[0]'h2').toNat = 0
      · have HB := Lib.hid (mayB_no (s := s) (fun c => c.2 h2' h3))
        have h3' := nne_false h3
        have H3 := Lib.hid h3
        clear h3
        go_enter Try.func77, Try.ntmps77
        go_wp2
        go_ret
        exact ⟨by rw [HB.out]; rfl, rfl⟩
      · have HB := Lib.hid (mayB_yes (s := s) ⟨by omega, fun _ => h3⟩)
        have h3' := nne_true h3
        have H3 := Lib.hid h3
        clear h3
        go_enter Try.func77, Try.ntmps77
        go_wp2
        go_ret
        exact ⟨by rw [HB.out]; rfl, rfl⟩
@[irreducible] def refB (ss : List ByteArray) : Bool := decide (∃ s ∈ ss, ¬ May s)
theorem refB_yes {ss : List ByteArray} {s : ByteArray} (h : s ∈ ss) (hs : ¬ May s) : refB ss = true := by unfold refB; exact decide_eq_true ⟨s, h, hs⟩
theorem refB_no {ss : List ByteArray} (h : ∀ s ∈ ss, May s) : refB ss = false := by unfold refB; exact decide_eq_false (fun ⟨s, h1, h2⟩ => h2 (h s h1))
set_option maxRecDepth 100000 in
set_option maxHeartbeats 1000000 in
theorem rCmp_c (a b : Nat) (w : World) (ha : fits a) (hb : fits b) :
    Calls Try.prog 68 #[.string (natS a), .string (natS b)] w fun e w' => e = .returned (.int .i64 (cmpN a b)) ∧ Drawn w w' := by
  have hsa := natS_size a
  have hsb := natS_size b
  have hna : nd 256 a ≤ 16384 := ha
  have hnb : nd 256 b ≤ 16384 := hb
  rcases Nat.lt_trichotomy (nd 256 a) (nd 256 b) with h | h | h
  · have hn : ((nd 256 a : Int) != (nd 256 b : Int)) = true := by rw [bne_iff_ne]; omega
    have HC := Lib.hid (cmpN_lt (lt_of_nd (b := 256) (by omega) h))
    go_enter Try.func68, Try.ntmps68
    go_wp2
    go_ret
    exact ⟨ret_int HC.out.symm, Drawn.refl _⟩
  · obtain ⟨N, hN⟩ : ∃ N, N = nd 256 a := ⟨_, rfl⟩
    have hbN : nd 256 b = N := by omega
    rw [← hN] at hsa hna
    rw [hbN] at hsb hnb
    have hn : ((N : Int) != (N : Int)) = false := by simp
    have HN := Lib.hid hN
    have HBN := Lib.hid hbN
    have ga := fun k (h : k < (natS a).size) => natS_get a k h
    have gb := fun k (h : k < (natS b).size) => natS_get b k h
    rw [← hN] at ga
    rw [hbN] at gb
    have GA := Lib.hid ga
    have GB := Lib.hid gb
    clear hN hbN ga gb h ha hb
    go_enter Try.func68, Try.ntmps68
    go_wp2
    go_loopw [5] (fun i wr => ∃ (k : Nat), k ≤ N ∧ i = .int .i64 k ∧ Hid (∀ j, N - k ≤ j → j < N → dgt 256 a j = dgt 256 b j) ∧ Drawn w wr) (fun i _ => N - (intOf i).toNat)
    case atStart => exact ⟨0, Nat.zero_le _, rfl, Lib.hid (fun j h1 h2 => by omega), Drawn.refl _⟩
    case round =>
      obtain ⟨k, hk, rfl, hd, hdr⟩ := hrel
      by_cases hlt : k < N
      · have hka : k < (natS a).size := by omega
        have hkb : k < (natS b).size := by omega
        have ea := GA.out k hka
        have eb := GB.out k hkb
        have hA : a < 256 ^ N := by rw [HN.out]; exact lt_nd (by omega)
        have hB : b < 256 ^ N := by rw [← HBN.out]; exact lt_nd (by omega)
        have hdd := hd.out
        obtain ⟨p, hp⟩ : ∃ p, p = N - 1 - k := ⟨_, rfl⟩
        have hd2 : ∀ j, p + 1 ≤ j → j < N → dgt 256 a j = dgt 256 b j := fun j h1 h2 => hdd j (by omega) h2
        rw [← hp] at ea eb
        rcases Nat.lt_trichotomy (dgt 256 a p) (dgt 256 b p) with h1 | h1 | h1
        · have HC := Lib.hid (cmpN_lt (lt_of_digit (b := 256) (by omega) hA hB (by omega) hd2 h1))
          have h2 : (natS a)[k].toNat < (natS b)[k].toNat := by omega
          have h3 : ((natS a)[k].toNat : Int) < ((natS b)[k].toNat : Int) := by omega
          clear ea eb hA hB hdd hp hd2 h1
          go_wp2
          go_quiet (fail)
          go_wp2
          go_ret
          exact ⟨ret_int HC.out.symm, by first | exact Drawn.more hdr _ | exact Drawn.more (Drawn.more hdr _) _⟩
        · have h2 : ¬ (natS a)[k].toNat < (natS b)[k].toNat := by omega
          have h3 : ¬ (natS b)[k].toNat < (natS a)[k].toNat := by omega
          have h4 : ¬ ((natS a)[k].toNat : Int) < ((natS b)[k].toNat : Int) := by omega
          have h5 : ¬ ((natS b)[k].toNat : Int) < ((natS a)[k].toNat : Int) := by omega
          have HD : Hid (∀ j, N - (k + 1) ≤ j → j < N → dgt 256 a j = dgt 256 b j) := Lib.hid (fun j q1 q2 => by
            rcases Nat.lt_or_ge p j with q3 | q3
            · exact hd2 j q3 q2
            · obtain rfl : j = p := by omega
              exact h1)
          clear ea eb hA hB hdd hp hd2 h1
          go_wp2
          go_quiet (fail)
          go_wp2
          go_quiet (fail)
          go_wp2
          go_roundw
          case rel => exact ⟨k + 1, by omega, by go_num, HD, by first | exact Drawn.more hdr _ | exact Drawn.more (Drawn.more hdr _) _⟩
          case measure => simp [intOf]; omega
        · have HC := Lib.hid (cmpN_gt (lt_of_digit (b := 256) (by omega) hB hA (by omega) (fun j q1 q2 => (hd2 j q1 q2).symm) h1))
          have h2 : ¬ (natS a)[k].toNat < (natS b)[k].toNat := by omega
          have h3 : (natS b)[k].toNat < (natS a)[k].toNat := by omega
          have h4 : ¬ ((natS a)[k].toNat : Int) < ((natS b)[k].toNat : Int) := by omega
          have h5 : ((natS b)[k].toNat : Int) < ((natS a)[k].toNat : Int) := by omega
          clear ea eb hA hB hdd hp hd2 h1
          go_wp2
          go_quiet (fail)
          go_wp2
          go_quiet (fail)
          go_wp2
          go_ret
          exact ⟨ret_int HC.out.symm, by first | exact Drawn.more hdr _ | exact Drawn.more (Drawn.more hdr _) _⟩
      · obtain rfl : k = N := by omega
        have hA : a < 256 ^ k := by rw [HN.out]; exact lt_nd (by omega)
        have hB : b < 256 ^ k := by rw [← HBN.out]; exact lt_nd (by omega)
        have he : a = b := eq_of_digits hA hB (fun i hi => hd.out i (by omega) hi)
        have HE := Lib.hid he
        clear hA hB he
        go_wp2
        go_ret
        refine ⟨ret_int ?_, hdr⟩
        rw [HE.out]; exact (cmpN_eq _).symm
  · have hn : ((nd 256 a : Int) != (nd 256 b : Int)) = true := by rw [bne_iff_ne]; omega
    have HC := Lib.hid (cmpN_gt (lt_of_nd (b := 256) (by omega) h))
    have h2 : ¬ nd 256 a < nd 256 b := by omega
    go_enter Try.func68, Try.ntmps68
    go_wp2
    go_ret
    exact ⟨ret_int HC.out.symm, Drawn.refl _⟩
end Go.Proofs.Ytfoldiieclfbgaa
set_option linter.unusedSimpArgs false
set_option linter.unusedVariables false
namespace Go.Proofs.Ytfoldiieclfbgaa
open Go Go.RowKit Nt

theorem drawn_below {w w' : World} (h : Drawn w w') : Below w.heap.size w w' := by obtain ⟨n, rfl⟩ := h; exact below_drewN (Below.refl _ _) n
theorem beq_self_int (z : Int) : (z == z) = true := by simp
end Go.Proofs.Ytfoldiieclfbgaa
set_option linter.unusedSimpArgs false
set_option linter.unusedVariables false
namespace Go.Proofs.Ytfoldiieclfbgaa
open Go Go.RowKit Nt

set_option maxRecDepth 100000 in
theorem NLen_no (s : ByteArray) (w : World) (h : ¬ May s) :
    Calls Try.prog 83 #[.string s] w (IntPost 0 2 w) := by
  have hm := may1_no h
  go_enter Try.func83, Try.ntmps83
  go_wp2_with (go_at_call 94; refine (Check_c _ _).mono ?_; rintro e w1 ⟨rfl, hb⟩)
  go_ret2
  exact ⟨rfl, hb⟩
set_option maxRecDepth 100000 in
theorem NLen_c (n : Nat) (w : World) (hf : fits n) :
    Calls Try.prog 83 #[.string (natS n)] w (IntPost (nd 2 n : Nat) 0 w) := by
  have hm := may1 hf
  by_cases h0 : n = 0
  · have hE := natS_empty h0
    have HZ := Lib.hid (show nd 2 n = 0 by rw [h0, nd_zero])
    clear h0
    go_enter Try.func83, Try.ntmps83
    go_wp2_with (go_at_call 94; refine (Check_c _ _).mono ?_; rintro e w1 ⟨rfl, hb⟩)
    go_ret2
    exact ⟨by rw [HZ.out]; rfl, hb⟩
  · have hE := natS_full h0
    have hE2 := natS_full2 h0
    have hsz := natS_size n
    obtain ⟨L, hL⟩ : ∃ L, nd 256 n = L + 1 := ⟨nd 256 n - 1, by
      rcases Nat.eq_zero_or_pos (nd 256 n) with h | h
      · exact absurd ((nd_eq_zero (by omega)).1 h) h0
      · omega⟩
    have HT := Lib.hid (nd_top (b := 2) (c := 256) (e := 8) (by omega) (by omega) (by rfl) n h0)
    have hp : 0 < (natS n).size := by omega
    have hg := natS_get n 0 hp
    unfold fits at hf
    rw [hL] at hsz hg HT hf
    have hlt : (natS n)[0].toNat < 256 := (natS n)[0].toNat_lt
    have hbl := bitLen_nd (x := (natS n)[0].toNat) (by omega)
    have hle : nd 2 (natS n)[0].toNat ≤ 8 := nd_le (by omega) (by omega)
    have hfin : 8 * (L : Int) + (Go.Lib.bitLen (natS n)[0].toNat : Int) = (nd 2 n : Int) := by
      have h1 := HT.out
      rw [Nat.add_sub_cancel, Nat.sub_zero] at hg
      rw [Nat.add_sub_cancel, ← hg] at h1
      rw [hbl, h1]; omega
    have hle2 : Go.Lib.bitLen (natS n)[0].toNat ≤ 8 := by rw [hbl]; exact hle
    have HF := Lib.hid hfin
    clear hfin hg hbl hle h0
    go_enter Try.func83, Try.ntmps83
    go_wp2_with (first | (go_at_call 94; refine (Check_c _ _).mono ?_; rintro e w1 ⟨rfl, hb⟩) | (go_at_call 106; refine (Try.bits_Len8 _ _ (by omega) (by omega)).mono ?_; rintro e w' ⟨rfl, rfl⟩))
    go_ret2
    refine ⟨?_, hb⟩
    have h2 := HF.out
    simp only [Int.toNat_natCast]
    rw [← h2]; rfl
end Go.Proofs.Ytfoldiieclfbgaa
set_option linter.unusedSimpArgs false
set_option linter.unusedVariables false
namespace Go.Proofs.Ytfoldiieclfbgaa
open Go Go.RowKit Nt

theorem nd_mul_pow {a j : Nat} (ha : a ≠ 0) : nd 2 (a * 2 ^ j) = nd 2 a + j := by
  obtain ⟨m, hm⟩ : ∃ m, nd 2 a = m + 1 := ⟨nd 2 a - 1, by
    rcases Nat.eq_zero_or_pos (nd 2 a) with h | h
    · exact absurd ((nd_eq_zero (by omega)).1 h) ha
    · omega⟩
  have h1 := lt_nd (b := 2) (n := a) (by omega)
  have h2 := (pow_le_iff (b := 2) (by omega) m a).2 (by omega)
  rw [hm] at h1
  rw [hm, show m + 1 + j = m + j + 1 by omega]
  refine nd_unique (by omega) ?_ ?_
  · rw [Nat.pow_add]; exact Nat.mul_le_mul_right _ h2
  · rw [show m + j + 1 = m + 1 + j by omega, Nat.pow_add]; exact (Nat.mul_lt_mul_right (Nat.two_pow_pos j)).2 h1
theorem fits_shift {a j : Nat} (ha : a ≠ 0) : fits (a * 2 ^ j) ↔ nd 2 a + j ≤ 131072 := by
  unfold fits
  rw [← bits_le, nd_mul_pow ha]
theorem bits_131072 {a : Nat} (hf : fits a) : nd 2 a ≤ 131072 := (bits_le a 16384).2 hf
@[irreducible] def overB (k : Nat) (l : Nat) : Bool := decide ((131072 : Int) - (l : Int) < (k : Int))
end Go.Proofs.Ytfoldiieclfbgaa
set_option linter.unusedSimpArgs false
set_option linter.unusedVariables false
namespace Go.Proofs.Ytfoldiieclfbgaa
open Go Go.RowKit Nt

theorem half_step (n m : Nat) : n / 2 ^ m = 2 * (n / 2 ^ (m + 1)) + n / 2 ^ m % 2 := by
  rw [Nat.pow_succ, ← Nat.div_div_eq_div_mul]; omega
theorem pow_even {a n m : Nat} (h : n / 2 ^ m % 2 = 0) : a ^ (n / 2 ^ (m + 1)) * a ^ (n / 2 ^ (m + 1)) = a ^ (n / 2 ^ m) := by
  rw [← Nat.pow_add]; congr 1; have := half_step n m; omega
theorem pow_odd {a n m : Nat} (h : n / 2 ^ m % 2 = 1) : a ^ (n / 2 ^ (m + 1)) * a ^ (n / 2 ^ (m + 1)) * a = a ^ (n / 2 ^ m) := by
  rw [← Nat.pow_add, ← Nat.pow_succ]; congr 1; have := half_step n m; omega
theorem pow_le_one {a n : Nat} (h : nd 2 a ≤ 1) (hn : n ≠ 0) : a ^ n = a := by
  have := (lt_pow_iff (b := 2) (by omega) 1 a).2 h
  have : a = 0 ∨ a = 1 := by omega
  rcases this with rfl | rfl
  · exact Nat.zero_pow (by omega)
  · exact Nat.one_pow n
theorem pow_big {a n : Nat} (h1 : 2 ≤ nd 2 a) (h2 : 131072 ≤ (nd 2 a - 1) * n) : ¬ fits (a ^ n) := by
  unfold fits
  rw [← bits_le]
  have h3 := (pow_le_iff (b := 2) (by omega) (nd 2 a - 1) a).2 (by omega)
  have h4 : 2 ^ ((nd 2 a - 1) * n) ≤ a ^ n := by rw [Nat.pow_mul]; exact Nat.pow_le_pow_left h3 n
  have h5 := (pow_le_iff (b := 2) (by omega) _ _).1 h4
  omega
theorem pow_words {a n e : Nat} (hn : (nd 2 a - 1) * n < 131072) (h1 : 1 ≤ nd 2 a) (hn2 : n < 131072) (he : e ≤ n) (ha : a ≠ 0) : nd W (a ^ e) ≤ 262144 := by
  have h2 := lt_nd (b := 2) (n := a) (by omega)
  have h3 : a ^ e ≤ (2 ^ nd 2 a) ^ e := Nat.pow_le_pow_left (Nat.le_of_lt h2) e
  rw [← Nat.pow_mul] at h3
  have h4 : nd 2 a * e ≤ nd 2 a * n := Nat.mul_le_mul_left _ he
  have h5 : nd 2 a * n = (nd 2 a - 1) * n + n := by
    obtain ⟨q, hq⟩ : ∃ q, nd 2 a = q + 1 := ⟨nd 2 a - 1, by omega⟩
    rw [hq, Nat.add_sub_cancel, Nat.succ_mul]
  have h6 : nd W (a ^ e) ≤ nd 2 (a ^ e) := by
    refine nd_le W2 (Nat.lt_of_lt_of_le (lt_nd (b := 2) (by omega)) (Nat.pow_le_pow_left ?_ _))
    rw [W_eq]; omega
  have h7 : nd 2 (a ^ e) ≤ nd 2 a * e + 1 := nd_le (by omega) (by rw [Nat.pow_succ]; have := Nat.two_pow_pos (nd 2 a * e); omega)
  omega
theorem and_one_i64 (q : Nat) (hq : q < 9223372036854775808) : bits BinOp.and IntKind.i64 (q : Int) 1 = ((q % 2 : Nat) : Int) := by
  have h1 : (BitVec.ofInt 64 (q : Int)).toNat = q := by
    rw [BitVec.ofInt_natCast, BitVec.toNat_ofNat]; exact Nat.mod_eq_of_lt (by omega)
  have h2 : (BitVec.ofInt 64 (1 : Int)).toNat = 1 := by decide
  show IntKind.i64.wrap ((BitVec.ofInt 64 (q : Int) &&& BitVec.ofInt 64 (1 : Int)).toNat : Int) = _
  rw [BitVec.toNat_and, h1, h2, Nat.and_one_is_mod, IntKind.wrap_i64]
  omega
set_option maxRecDepth 100000 in
theorem NPow_no (s : ByteArray) (k : Int) (w : World) (h : ¬ May s) :
    Calls Try.prog 62 #[.string s, .int .i64 k] w (StrPost ⟨#[]⟩ 2 w) := by
  have H := Lib.hid h
  clear h
  go_enter Try.func62, Try.ntmps62
  go_wp2_with (go_at_call 83; refine (NLen_no _ _ H.out).mono ?_; rintro e w1 ⟨rfl, hb⟩)
  go_ret2
  exact ⟨rfl, hb⟩
set_option maxRecDepth 100000 in
theorem NPow_neg (a : Nat) (k : Int) (w : World) (hf : fits a) (hk : k < 0) :
    Calls Try.prog 62 #[.string (natS a), .int .i64 k] w (StrPost ⟨#[]⟩ 2 w) := by
  go_enter Try.func62, Try.ntmps62
  go_wp2_with (go_at_call 83; refine (NLen_c _ _ hf).mono ?_; rintro e w1 ⟨rfl, hb⟩)
  go_ret2
  exact ⟨rfl, hb⟩
theorem Of_1 (w : World) : Calls Try.prog 63 #[.int .u64 1] w fun e w' => e = .returned (.string (natS 1)) ∧ Below w.heap.size w w' := Of_n 1 w (by decide)
set_option maxRecDepth 100000 in
theorem NPow_zero (a : Nat) (w : World) (hf : fits a) :
    Calls Try.prog 62 #[.string (natS a), .int .i64 0] w (StrPost (natS 1) 0 w) := by
  go_enter Try.func62, Try.ntmps62
  go_wp2_with (first | (go_at_call 83; refine (NLen_c _ _ hf).mono ?_; rintro e w1 ⟨rfl, hb⟩) | (go_at_call 63; refine (Of_1 _).mono ?_; rintro e w2 ⟨rfl, hb2⟩))
  go_ret2
  exact ⟨rfl, below_chain hb hb2⟩
set_option maxRecDepth 100000 in
theorem NPow_same (a n : Nat) (w : World) (hf : fits a) (hn : n ≠ 0) (h : nd 2 a ≤ 1 ∨ n = 1) :
    Calls Try.prog 62 #[.string (natS a), .int .i64 (n : Nat)] w (StrPost (natS a) 0 w) := by
  have z1 := eqz_false hn
  have z2 : ¬ (n : Int) < 0 := by omega
  have hc : nd 2 a ≤ 1 ∨ (¬ nd 2 a ≤ 1 ∧ n = 1) := by omega
  clear h hn
  rcases hc with h | ⟨h, h1⟩
  case' inl => have hI : (nd 2 a : Int) ≤ 1 := by omega
  case' inr =>
    have hI : ¬ (nd 2 a : Int) ≤ 1 := by omega
    have h1' : ((n : Int) == 1) = true := by rw [beq_iff_eq]; omega
    have H1 := Lib.hid h1
    clear h1
  all_goals
    go_enter Try.func62, Try.ntmps62
    go_wp2_with (go_at_call 83; refine (NLen_c _ _ hf).mono ?_; rintro e w1 ⟨rfl, hb⟩)
    go_ret2
    exact ⟨rfl, hb⟩
@[irreducible] def maxB (z : Int) : Bool := decide (131072 ≤ z)
@[local go_sem] theorem ge_maxB (z : Int) : decide ((131072 : Int) ≤ z) = maxB z := by unfold maxB; rfl
set_option maxRecDepth 100000 in
set_option maxHeartbeats 1000000 in
theorem NPow_long (a n : Nat) (w : World) (hf : fits a) (h2 : 2 ≤ nd 2 a) (hn : 2 ≤ n) (hn3 : n ≤ 9223372036854775807) (h : 131072 ≤ n ∨ (n < 131072 ∧ 131072 ≤ (nd 2 a - 1) * n)) :
    Calls Try.prog 62 #[.string (natS a), .int .i64 (n : Nat)] w (StrPost ⟨#[]⟩ 4 w) := by
  have z1 := eqz_false (x := n) (by omega)
  have z2 : ¬ (n : Int) < 0 := by omega
  have z3 : ¬ (nd 2 a : Int) ≤ 1 := by omega
  have z4 : ((n : Int) == 1) = false := by rw [beq_eq_false_iff_ne]; omega
  have hl := bits_131072 hf
  rcases h with h | ⟨h, h'⟩
  case' inl => have hB : maxB (n : Int) = true := by unfold maxB; exact decide_eq_true (by omega)
  case' inr =>
    have hB : maxB (n : Int) = false := by unfold maxB; exact decide_eq_false (by omega)
    obtain ⟨p, hp⟩ : ∃ p, p = (nd 2 a - 1) * n := ⟨_, rfl⟩
    have hp2 : p ≤ 131072 * 131072 := by rw [hp]; exact Nat.mul_le_mul (by omega) (by omega)
    have hw0 : wrap64 ((nd 2 a : Int) - 1) = (nd 2 a : Int) - 1 := IntWalk.wrap64_in _ (by omega)
    have hm : ((nd 2 a : Int) - 1) * (n : Int) = (p : Int) := by rw [hp, Int.natCast_mul]; congr 1; omega
    have hw1 : wrap64 (p : Int) = (p : Int) := IntWalk.wrap64_in _ (by omega)
    have hC : maxB (p : Int) = true := by unfold maxB; exact decide_eq_true (by omega)
    clear hp h' hp2
  all_goals
    clear hn3 hl h2 hn h
    go_enter Try.func62, Try.ntmps62
    go_wp2_with (go_at_call 83; refine (NLen_c _ _ hf).mono ?_; rintro e w1 ⟨rfl, hb⟩)
    go_ret2
    exact ⟨rfl, hb⟩
set_option maxRecDepth 100000 in
set_option maxHeartbeats 2000000 in
theorem NPow_c (a n : Nat) (w : World) (hf : fits a) (h2 : 2 ≤ nd 2 a) (hn : 2 ≤ n) (hn2 : n < 131072) (hs : (nd 2 a - 1) * n < 131072) :
    Calls Try.prog 62 #[.string (natS a), .int .i64 (n : Nat)] w (StrPost (resS (a ^ n)) (resE (a ^ n)) w) := by
  have z1 := eqz_false (x := n) (by omega)
  have z2 : ¬ (n : Int) < 0 := by omega
  have z3 : ¬ (nd 2 a : Int) ≤ 1 := by omega
  have z4 : ((n : Int) == 1) = false := by rw [beq_eq_false_iff_ne]; omega
  have hl := bits_131072 hf
  have ha0 : a ≠ 0 := fun c => by rw [c, nd_zero] at h2; omega
  have hB : maxB (n : Int) = false := by unfold maxB; exact decide_eq_false (by omega)
  obtain ⟨p, hp⟩ : ∃ p, p = (nd 2 a - 1) * n := ⟨_, rfl⟩
  have hw0 : wrap64 ((nd 2 a : Int) - 1) = (nd 2 a : Int) - 1 := IntWalk.wrap64_in _ (by omega)
  have hm : ((nd 2 a : Int) - 1) * (n : Int) = (p : Int) := by rw [hp, Int.natCast_mul]; congr 1; omega
  have hw1 : wrap64 (p : Int) = (p : Int) := IntWalk.wrap64_in _ (by omega)
  have hC : maxB (p : Int) = false := by unfold maxB; exact decide_eq_false (by omega)
  have hwn : IntKind.u64.wrap (n : Int) = (n : Int) := by rw [IntKind.wrap_u64]; omega
  have hbl := bitLen_nd (x := n) (by omega)
  obtain ⟨b, hb⟩ : ∃ b, nd 2 n = b + 2 := ⟨nd 2 n - 2, by have := (pow_le_iff (b := 2) (by omega) 1 n).1 (by omega); omega⟩
  have hb17 : nd 2 n ≤ 17 := nd_le (by omega) (by have : (2 : Nat) ^ 17 = 131072 := by decide
                                                  omega)
  have hlen : ∀ w, Calls Try.prog 85 #[.int .u64 (n : Nat)] w fun e w' => e = .returned (.int .i64 ((b : Int) + 2)) ∧ w = w' := fun w => by
    refine (Try.bits_Len _ _ (by omega) (by omega)).mono ?_
    rintro e w' ⟨rfl, rfl⟩
    refine ⟨ret_int ?_, rfl⟩
    rw [Int.toNat_natCast, hbl, hb]; omega
  have hw2 : wrap64 ((b : Int) + 2 - 2) = (b : Int) := by rw [IntWalk.wrap64_in _ (by omega)]; omega
  have hPW : ∀ e, e ≤ n → nd W (a ^ e) ≤ 262144 := fun e he => pow_words hs (by omega) hn2 he ha0
  have hstart : n / 2 ^ (b + 1) = 1 := by
    have h3 := lt_nd (b := 2) (n := n) (by omega)
    have h4 := (pow_le_iff (b := 2) (by omega) (b + 1) n).2 (by omega)
    rw [hb, show b + 2 = (b + 1) + 1 by omega, Nat.pow_succ] at h3
    exact Nat.div_eq_of_lt_le (by rw [Nat.one_mul]; exact h4) (by omega)
  have KL := Lib.hid hlen
  have KP := Lib.hid hPW
  have KS := Lib.hid hstart
  have hwa := Lib.hid (fits_words hf)
  have HNL := Lib.hid hn2
  have hbI : (b : Int) ≤ 15 := by omega
  clear hp hlen hPW hbl hstart hb17 hs ha0 hl h2 hb
  go_enter Try.func62, Try.ntmps62
  go_upto_region 12 with (go_at_call 83; refine (NLen_c _ _ hf).mono ?_; rintro e w1 ⟨rfl, hb1⟩)
  go_wp2_with fail
  refine (words_c a _ hf).mono ?_
  intro e w2 hp
  obtain ⟨A1, c1, rfl, hc1, hr1, hb2⟩ := hp.get
  have HR1 := Lib.hid hr1
  have HB12 := Lib.hid (below_chain hb1 hb2)
  clear hr1 hp hb1 hb2
  go_wp2_with (go_at_call 85; refine (KL.out _).mono ?_; rintro e w' ⟨rfl, rfl⟩)
  go_loopw [9, 10] (fun x i wr => ∃ (k c : Nat) (z : Int) (A : Option Addr), k ≤ b + 1 ∧ i = .int .i64 z ∧ Hid (z = (k : Int) - 1) ∧ x = .slice A (nd W (a ^ (n / 2 ^ k))) c ∧ nd W (a ^ (n / 2 ^ k)) ≤ c ∧ Hid (Row wr wr.heap.size A (a ^ (n / 2 ^ k)) (nd W (a ^ (n / 2 ^ k)))) ∧ Hid (Row wr wr.heap.size A1 a (nd W a)) ∧ Hid (Below w.heap.size w wr)) (fun _ i _ => (intOf i + 1).toNat)
  case atStart =>
    have e : a ^ (n / 2 ^ (b + 1)) = a := by rw [KS.out, Nat.pow_one]
    exact ⟨b + 1, c1, b, A1, Nat.le_refl _, rfl, Lib.hid (by omega), by rw [e], by rw [e]; exact hc1, by rw [e]; exact HR1, HR1, HB12⟩
  case round =>
    obtain ⟨k, c, z, A, hk, rfl, hz, rfl, hc, hrow, hbase, hbw⟩ := hrel
    by_cases hk0 : k = 0
    · subst hk0
      obtain rfl : z = -1 := by have := hz.out; omega
      have e : a ^ (n / 2 ^ 0) = a ^ n := by rw [Nat.pow_zero, Nat.div_one]
      rw [e] at hc hrow ⊢
      have hpw := Lib.hid (KP.out n (Nat.le_refl _))
      clear e
      go_wp2_with fail
      refine (made_c A c (a ^ n) _ _ (by have := hpw.out; omega) hrow.out (Nat.le_refl _)).mono ?_
      rintro e w' ⟨rfl, hb'⟩
      go_wp2_with fail
      go_ret2
      exact ⟨rfl, below_chain hbw.out hb'⟩
    · obtain ⟨m, rfl⟩ : ∃ m, k = m + 1 := ⟨k - 1, by omega⟩
      obtain rfl : z = (m : Int) := by have := hz.out; omega
      obtain ⟨q, hq⟩ : ∃ q, q = n / 2 ^ m := ⟨_, rfl⟩
      have hqn : q ≤ n := by rw [hq]; exact Nat.div_le_self _ _
      have hqI : (n : Int) / 2 ^ m = (q : Int) := by rw [hq, int_pow2, Int.natCast_ediv]
      have hand := and_one_i64 q (by have := HNL.out; omega)
      have hw3 : wrap64 ((m : Int) - 1) = (m : Int) - 1 := IntWalk.wrap64_in _ (by omega)
      have hm15 : (m : Int) ≤ 16 := by omega
      have e1 := Lib.hid (KP.out (n / 2 ^ (m + 1)) (Nat.div_le_self _ _))
      have e2 := Lib.hid (KP.out (n / 2 ^ m) (Nat.div_le_self _ _))
      rcases Nat.mod_two_eq_zero_or_one q with hb0 | hb0
      · have hpe := pow_even (a := a) (n := n) (m := m) (by rw [← hq]; exact hb0)
        rw [hb0] at hand
        have HPE := Lib.hid hpe
        clear hpe hb0 hq hqn
        go_wp2_with fail
        refine (Mul_c A A c c _ _ _ _ (by have := e1.out; omega) hrow.out hrow.out (Nat.le_refl _)).mono ?_
        rw [HPE.out]
        intro e w3 hp
        obtain ⟨A3, c3, rfl, hc3, hr3, hb3⟩ := hp.get
        have HR3 := Lib.hid hr3
        have HBS := Lib.hid ((hbase.out.below hb3).more hb3.size)
        have HBW := Lib.hid (below_chain hbw.out hb3)
        clear hr3 hp hb3
        go_wp2_with fail
        go_roundw
        case rel => exact ⟨m, c3, _, A3, by omega, rfl, Lib.hid rfl, rfl, hc3, HR3, HBS, HBW⟩
        case measure => simp [intOf]
      · have hpo := pow_odd (a := a) (n := n) (m := m) (by rw [← hq]; exact hb0)
        rw [hb0] at hand
        have HPO := Lib.hid hpo
        have hsq := mul_words (a ^ (n / 2 ^ (m + 1))) (a ^ (n / 2 ^ (m + 1)))
        have HSQ := Lib.hid hsq
        clear hpo hb0 hq hqn hsq
        go_wp2_with fail
        refine (Mul_c A A c c _ _ _ _ (by have := e1.out; omega) hrow.out hrow.out (Nat.le_refl _)).mono ?_
        intro e w3 hp
        obtain ⟨A3, c3, rfl, hc3, hr3, hb3⟩ := hp.get
        have HR3 := Lib.hid hr3
        have HBS := Lib.hid ((hbase.out.below hb3).more hb3.size)
        have HBW := Lib.hid (below_chain hbw.out hb3)
        clear hr3 hp hb3
        go_wp2_with fail
        refine (Mul_c A3 A1 c3 c1 _ a _ _ (by have := HSQ.out; have := e1.out; have := hwa.out; omega) HR3.out HBS.out (Nat.le_refl _)).mono ?_
        rw [HPO.out]
        intro e w4 hp
        obtain ⟨A4, c4, rfl, hc4, hr4, hb4⟩ := hp.get
        have HR4 := Lib.hid hr4
        have HBS4 := Lib.hid ((HBS.out.below hb4).more hb4.size)
        have HBW4 := Lib.hid (below_chain HBW.out hb4)
        clear hr4 hp hb4
        go_wp2_with fail
        go_roundw
        case rel => exact ⟨m, c4, _, A4, by omega, rfl, Lib.hid rfl, rfl, hc4, HR4, HBS4, HBW4⟩
        case measure => simp [intOf]
end Go.Proofs.Ytfoldiieclfbgaa
set_option linter.unusedSimpArgs false
set_option linter.unusedVariables false
namespace Go.Proofs.Ytfoldiieclfbgaa
open Go Go.RowKit Nt

theorem byte_bit (n q r : Nat) (hr : r < 8) : dgt 256 n q / 2 ^ r % 2 = dgt 2 n (8 * q + r) := by
  have := dgt_in (b := 2) (e := 8) (by omega) n q r hr
  rw [show (2 : Nat) ^ 8 = 256 from rfl, dgt_def 2 (dgt 256 n q)] at this
  exact this
theorem and_one_u8 (q : Nat) (hq : q < 256) : bits BinOp.and IntKind.u8 (q : Int) 1 = ((q % 2 : Nat) : Int) := by
  have h1 : (BitVec.ofInt 8 (q : Int)).toNat = q := by
    rw [BitVec.ofInt_natCast, BitVec.toNat_ofNat]; exact Nat.mod_eq_of_lt (by omega)
  have h2 : (BitVec.ofInt 8 (1 : Int)).toNat = 1 := by decide
  show IntKind.u8.wrap ((BitVec.ofInt 8 (q : Int) &&& BitVec.ofInt 8 (1 : Int)).toNat : Int) = _
  rw [BitVec.toNat_and, h1, h2, Nat.and_one_is_mod, wrap_u8]
  omega
/-- The bits of a number. -/
def BitPost (b : Nat) (r : Int) (w : World) (e : Ending) (w' : World) : Prop := e = .returned (.tuple #[.int .u8 (b : Nat), .int .i64 r]) ∧ Below w.heap.size w w'
theorem bit_above {n i : Nat} (h : ¬ i / 8 < nd 256 n) : dgt 2 n i = 0 := by
  refine dgt_big (by omega) ?_
  have := bytes_bits n
  omega
end Go.Proofs.Ytfoldiieclfbgaa
set_option linter.unusedSimpArgs false
set_option linter.unusedVariables false
namespace Go.Proofs.Ytfoldiieclfbgaa
open Go Go.RowKit Nt

theorem tz8_spec : ∀ n : Fin 256, n.val ≠ 0 → Lib.trailingZeros8 n.val < 8 ∧ n.val / 2 ^ Lib.trailingZeros8 n.val % 2 = 1 ∧ ∀ j : Fin 8, j.val < Lib.trailingZeros8 n.val → n.val / 2 ^ j.val % 2 = 0 := by decide +kernel
/-- The place of the lowest bit that is one. -/
def IsLow (n l : Nat) : Prop := (n = 0 → l = 0) ∧ (n ≠ 0 → dgt 2 n l = 1 ∧ ∀ j, j < l → dgt 2 n j = 0)
theorem low_lt {n l : Nat} (h0 : n ≠ 0) (h : IsLow n l) : l < nd 2 n := by
  rcases Nat.lt_or_ge l (nd 2 n) with h1 | h1
  · exact h1
  · have := dgt_big (b := 2) (by omega) h1; have := (h.2 h0).1; omega
theorem low_unique {n k l : Nat} (hk : IsLow n k) (hl : IsLow n l) : k = l := by
  by_cases h0 : n = 0
  · rw [hk.1 h0, hl.1 h0]
  · obtain ⟨k1, k2⟩ := hk.2 h0
    obtain ⟨l1, l2⟩ := hl.2 h0
    rcases Nat.lt_trichotomy k l with h | h | h
    · have := l2 k h; omega
    · exact h
    · have := k2 l h; omega
theorem first_one (n : Nat) : ∀ m, (∃ l, l < m ∧ dgt 2 n l = 1 ∧ ∀ j, j < l → dgt 2 n j = 0) ∨ ∀ j, j < m → dgt 2 n j = 0 := by
  intro m
  induction m with
  | zero => exact Or.inr fun j h => by omega
  | succ m ih =>
    rcases ih with ⟨l, h1, h2, h3⟩ | h
    · exact Or.inl ⟨l, by omega, h2, h3⟩
    · have hl := dgt_lt (b := 2) (by omega) n m
      by_cases hm : dgt 2 n m = 0
      · refine Or.inr fun j hj => ?_
        by_cases c : j = m
        · rw [c]; exact hm
        · exact h j (by omega)
      · exact Or.inl ⟨m, by omega, by omega, h⟩
theorem low_ex (n : Nat) : ∃ l, IsLow n l := by
  by_cases h0 : n = 0
  · exact ⟨0, fun _ => rfl, fun c => absurd h0 c⟩
  · rcases first_one n (nd 2 n) with ⟨l, _, h2, h3⟩ | h
    · exact ⟨l, fun c => absurd c h0, fun _ => ⟨h2, h3⟩⟩
    · have h1 := dgt_top (b := 2) (by omega) h0
      have h2 : 0 < nd 2 n := by
        rcases Nat.eq_zero_or_pos (nd 2 n) with c | c
        · exact absurd ((nd_eq_zero (by omega)).1 c) h0
        · exact c
      exact absurd (h (nd 2 n - 1) (by omega)) h1
theorem low_byte {n q : Nat} (hz : ∀ j, j < q → dgt 256 n j = 0) (hb : dgt 256 n q ≠ 0) : IsLow n (8 * q + Lib.trailingZeros8 (dgt 256 n q)) := by
  have hlt := dgt_lt (b := 256) (by omega) n q
  obtain ⟨t1, t2, t3⟩ := tz8_spec ⟨dgt 256 n q, hlt⟩ hb
  simp only at t1 t2 t3
  have h0 : n ≠ 0 := fun c => hb (by rw [c, dgt_def, Nat.zero_div])
  refine ⟨fun c => absurd c h0, fun _ => ⟨?_, fun j hj => ?_⟩⟩
  · rw [← byte_bit n q _ t1]; exact t2
  · by_cases h : j / 8 < q
    · have e := byte_bit n (j / 8) (j % 8) (by omega)
      rw [show 8 * (j / 8) + j % 8 = j by omega, hz _ h, Nat.zero_div] at e
      exact e.symm
    · have hq : j / 8 = q := by omega
      have e := byte_bit n q (j % 8) (by omega)
      rw [show 8 * q + j % 8 = j by omega] at e
      rw [← e]
      exact t3 ⟨j % 8, by omega⟩ (by show j % 8 < _; omega)
end Go.Proofs.Ytfoldiieclfbgaa
set_option linter.unusedSimpArgs false
set_option linter.unusedVariables false
namespace Go.Proofs.Ytfoldiieclfbgaa
open Go Go.RowKit Nt

def madeF (n Z i j : Nat) : Nat := if n - i ≤ j then dgt 256 Z (n - 1 - j) else 0
theorem madeF_step {n Z i x j : Nat} (h : n = i + 1 + x) (hj : j < n) : (if j = x then dgt 256 Z i else madeF n Z i j) = madeF n Z (i + 1) j := by
  unfold madeF
  by_cases h1 : j = x
  · rw [if_pos h1, if_pos (by omega), show n - 1 - j = i by omega]
  · rw [if_neg h1]
    by_cases h2 : n - i ≤ j
    · rw [if_pos h2, if_pos (by omega)]
    · rw [if_neg h2, if_neg (by omega)]
theorem digit_of {l : List Nat} (hl : ∀ x ∈ l, x < 256) {j : Nat} (h : j < l.length) : dgt 256 (of 256 l) j = l[j] := dgt_of (by omega) l hl j h
set_option maxRecDepth 100000 in
set_option maxHeartbeats 1000000 in
theorem rMade_c (B : Nat) (v : Value) (l : List Nat) (w : World) (hl : ∀ x ∈ l, x < 256) (hn : l.length ≤ 1000000000) (hown : Own w B 3 .i64 v l) :
    Calls Try.prog 82 #[v] w fun e w' => e = .returned (.string (natS (of 256 l))) ∧ Below w.heap.size w w' := by
  obtain ⟨i0, hi0, hz0, hz1, hz2⟩ := info_parts (P := Try.prog) (e := 5) (z := .int .u8 0) (size := 1) (bytes := 1) (by kernel_rfl)
  obtain ⟨A, c, rfl, hc⟩ := hown.len
  obtain ⟨Z, hZ⟩ : ∃ Z, Z = of 256 l := ⟨_, rfl⟩
  obtain ⟨L, hL⟩ : ∃ L, L = l.length := ⟨_, rfl⟩
  have hdl := of_lt (b := 256) (by omega) l hl
  have hcell : ∀ j, j < L → ∃ ga, A = some ⟨ga, 0, none⟩ ∧ ga < w.heap.size ∧ w.cell? ⟨ga, j, none⟩ = some (.int .i64 (dgt 256 Z j : Nat)) := fun j hj => by
    obtain ⟨g, cap, e, _, hg, hcl, _⟩ := hown.cell (by rw [← hL]; exact hj)
    cases e
    exact ⟨g, rfl, hg, by rw [hcl, hZ, digit_of hl]⟩
  rw [← hZ] at hdl ⊢
  rw [← hL] at hn hc hdl ⊢
  have hnd : nd 256 Z ≤ L := nd_le (by omega) hdl
  have HC := Lib.hid hcell
  clear hcell hZ hL hown hl hdl hc
  go_enter Try.func82, Try.ntmps82
  go_wp2
  go_loopw [3] (fun i wr => ∃ k : Nat, k ≤ L ∧ i = .int .i64 k ∧ Hid (nd 256 Z ≤ k) ∧ w = wr) (fun i _ => (intOf i).toNat)
  case atStart => exact ⟨L, Nat.le_refl _, rfl, Lib.hid hnd, rfl⟩
  case round =>
    obtain ⟨k, hk, rfl, hle, rfl⟩ := hrel
    by_cases hstop : nd 256 Z = k
    · have HS := Lib.hid hstop
      clear hstop hle
      have hcond : k = 0 ∨ ∃ m ga, k = m + 1 ∧ A = some ⟨ga, 0, none⟩ ∧ w.cell? ⟨ga, k - 1, none⟩ = some (.int .i64 (dgt 256 Z m : Nat)) ∧ dgt 256 Z m ≠ 0 := by
        rcases Nat.eq_zero_or_pos k with h | h
        · exact Or.inl h
        · obtain ⟨m, rfl⟩ : ∃ m, k = m + 1 := ⟨k - 1, by omega⟩
          obtain ⟨ga, h1, _, h2⟩ := HC.out m (by omega)
          have h3 := dgt_top (b := 256) (n := Z) (by omega) (fun c => by have := HS.out; rw [c, nd_zero] at this; omega)
          rw [HS.out, Nat.add_sub_cancel] at h3
          exact Or.inr ⟨m, ga, rfl, h1, h2, h3⟩
      rcases hcond with h0 | ⟨m, ga, hm, rfl, hcl, hnz⟩
      case' inr =>
        have hz1' : ((dgt 256 Z m : Nat) : Int) ≠ 0 := by omega
        have hz2' : (((dgt 256 Z m : Nat) : Int) == 0) = false := by rw [beq_eq_false_iff_ne]; exact hz1'
        have hw : wrap64 ((k : Int) - 1) = (m : Int) := by rw [IntWalk.wrap64_in _ (by omega)]; omega
        have hk0 : (0 : Int) < (k : Int) := by omega
        have HM := Lib.hid hm
        clear hm
      case' inl =>
        have hk0 : ¬ (0 : Int) < (k : Int) := by omega
        have HM := Lib.hid h0
        clear h0
      all_goals
        go_wp2_with (at_make; go_loud (refine wpList_make_zero _ rfl _ _ _ rfl 5 i0 _ Try.underlying81 hi0 hz0 hz1 .i64 .i64 _ _ k rfl rfl rfl rfl (by rw [hz2]; omega) (by unfold maxLen; omega) ?_))
        rw [fcells_made]
        have HB0 := Lib.hid (Blk.new w 5 (fcells .u8 (fun _ => 0) k))
        have hbl : Below w.heap.size w (w.alloc (.cells (fcells .u8 (fun _ => 0) k) 5)) := (Below.refl _ _).alloc (Nat.le_refl _) _
        generalize w.alloc (.cells (fcells .u8 (fun _ => 0) k) 5) = w1 at *
        obtain ⟨g, hg⟩ : ∃ g, g = w.heap.size := ⟨_, rfl⟩
        rw [← hg] at HB0 hbl ⊢
        have HG := Lib.hid hg
        clear hg
        go_loopw [5] (fun i wr => ∃ q : Nat, q ≤ k ∧ i = .int .i64 q ∧ Hid (Blk wr g 5 (fcells .u8 (madeF k Z q) k)) ∧ Below g w wr) (fun i _ => k - (intOf i).toNat)
        case atStart => exact ⟨0, Nat.zero_le _, rfl, by rw [fcells_congr (f' := fun _ => 0) (fun j hj => by unfold madeF; rw [if_neg (by omega)])]; exact HB0, hbl⟩
        case round =>
          obtain ⟨q, hq, rfl, hblk, hb⟩ := hrel
          by_cases hlt : q < k
          · try exact absurd hlt (by have := HM.out; omega)
            all_goals
              obtain ⟨x, hx⟩ : ∃ x, k = q + 1 + x := ⟨k - q - 1, by omega⟩
              obtain ⟨gb, hA, hgb, hcb⟩ := HC.out q (by omega)
              have hcb2 := (hb.cell (p := ⟨gb, q, none⟩) (by have := HG.out; show gb < g; omega)).trans hcb
              cases hA
              have hfz := hblk.out.frozen x
              have hck := hblk.out.cell x
              rw [fcells_get _ _ _ _ (by omega)] at hck
              have hxI : (k : Int) - 1 - (q : Int) = (x : Int) := by omega
              have hd := dgt_lt (b := 256) (by omega) Z q
              have hwr : IntKind.u8.wrap ((dgt 256 Z q : Nat) : Int) = ((dgt 256 Z q : Nat) : Int) := by rw [wrap_u8, Nat.mod_eq_of_lt hd]
              have HX := Lib.hid hx
              clear hx hcb
              go_wp2
              have HB1 := Lib.hid (hblk.out.set_ x (.int .u8 ((dgt 256 Z q : Nat) : Int)))
              rw [fcells_set, fcells_congr (f' := madeF k Z (q + 1)) (fun j hj => madeF_step HX.out hj)] at HB1
              have hb1 := hb.setCell (p := ⟨g, x, none⟩) (Nat.le_refl _) (.int .u8 ((dgt 256 Z q : Nat) : Int))
              go_roundw
              case rel => exact ⟨q + 1, by omega, by go_num, HB1, hb1⟩
              case measure => simp [intOf]; omega
          · obtain rfl : q = k := by omega
            have hcv : (convert 81 9 (.slice (some ⟨g, 0, none⟩) q q)).run Try.prog wr = .ok (.string (natS Z)) wr := by
              have hN := HS.out
              have hl : ((dl 256 Z (nd 256 Z)).reverse.map UInt8.ofNat).length = q := by simp [dl_length, hN]
              have h := run_convert_bytes_back (P := Try.prog) wr 81 9 5 ⟨g, 0, none⟩ q ((dl 256 Z (nd 256 Z)).reverse.map UInt8.ofNat) Try.underlying81 Try.underlying5 Try.underlying9 (fun j hj => by
                have hj2 : j < q := by rw [← hl]; exact hj
                rw [add_plain0, hblk.out.cell, fcells_get _ _ _ _ hj2]
                have e := natS_get Z j (by rw [natS_size, hN]; exact hj2)
                rw [ba_get] at e
                simp only [natS_def] at e
                rw [List.getElem_toArray] at e
                rw [e]
                unfold madeF
                rw [if_pos (by omega), hN])
              rw [hl, ← natS_def] at h
              exact h
            go_wp2
            go_ret
            exact ⟨rfl, by rw [← HG.out]; exact hb⟩
    · obtain ⟨m, rfl⟩ : ∃ m, k = m + 1 := ⟨k - 1, by have := hle.out; omega⟩
      obtain ⟨ga, rfl, hga, hcl⟩ := HC.out m (by omega)
      rw [dgt_big (b := 256) (n := Z) (i := m) (by omega) (by have := hle.out; omega)] at hcl
      have H1 := Lib.hid (show nd 256 Z ≤ m by have := hle.out; omega)
      have hw : wrap64 ((m : Int) + 1 - 1) = (m : Int) := by rw [IntWalk.wrap64_in _ (by omega)]; omega
      clear hstop
      go_wp2
      go_roundw
      case rel => exact ⟨m, by omega, rfl, H1, trivial⟩
      case measure => simp [intOf]; try omega
end Go.Proofs.Ytfoldiieclfbgaa
set_option linter.unusedSimpArgs false
set_option linter.unusedVariables false
namespace Go.Proofs.Ytfoldiieclfbgaa
open Go Go.RowKit Nt

theorem dl_lt (n k : Nat) : ∀ x ∈ dl 256 n k, x < 256 := fun x hx => by
  obtain ⟨i, hi, rfl⟩ := List.getElem_of_mem hx
  rw [dl_length] at hi
  have e := dl_get? 256 n k i hi
  rw [List.getElem?_eq_getElem (by rw [dl_length]; exact hi)] at e
  rw [Option.some.inj e]
  exact dgt_lt (by omega) _ _
set_option maxRecDepth 100000 in
set_option maxHeartbeats 1000000 in
theorem rOf_c (n : Nat) (w : World) (hn : n < 18446744073709551616) :
    Calls Try.prog 60 #[.int .u64 (n : Nat)] w fun e w' => e = .returned (.string (natS n)) ∧ Below w.heap.size w w' := by
  obtain ⟨i0, hi0, hz0, hj1, hj2⟩ := info_parts (P := Try.prog) (e := 3) (z := .int .i64 0) (size := 1) (bytes := 8) (by kernel_rfl)
  have hN8 := br_lt.2 hn
  have H8 := Lib.hid hN8
  have HN := Lib.hid hn
  clear hN8 hn
  go_enter Try.func60, Try.ntmps60
  go_wp2
  go_loopw [0, 3] (fun x v wr => ∃ (k m : Nat), x = .int .u64 m ∧ Hid (m = n / 256 ^ k) ∧ Hid (k ≤ nd 256 n) ∧ Hid (Own wr w.heap.size 3 .i64 v (dl 256 n k)) ∧ Below w.heap.size w wr) (fun x _ _ => (intOf x).toNat)
  case atStart => exact ⟨0, n, rfl, Lib.hid (by rw [Nat.pow_zero, Nat.div_one]), Lib.hid (Nat.zero_le _), Lib.hid (Own.nil _ _ _ _), Below.refl _ _⟩
  case round =>
    obtain ⟨k, m, rfl, hm, hk, hown, hb⟩ := hrel
    by_cases h0 : m = 0
    · subst h0
      have hof : of 256 (dl 256 n k) = n := by
        rw [of_dl]
        refine Nat.mod_eq_of_lt ?_
        have h := hm.out
        exact (Nat.div_eq_zero_iff_lt (Nat.pow_pos (by omega))).1 h.symm
      have HOF := Lib.hid hof
      have HL := Lib.hid (show (dl 256 n k).length ≤ 1000000000 by rw [dl_length]; have := hk.out; have := H8.out; omega)
      clear hof
      go_wp2_with fail
      refine (rMade_c _ _ _ _ (dl_lt n k) HL.out hown.out).mono ?_
      rintro e w' ⟨rfl, hb'⟩
      go_wp2_with fail
      go_ret
      exact ⟨by rw [HOF.out]; rfl, below_chain hb hb'⟩
    · obtain ⟨d, hd⟩ : ∃ d, d = dgt 256 n k := ⟨_, rfl⟩
      have hdI : (m : Int) % 256 = (d : Int) := by
        rw [hd, dgt_def, ← hm.out]; omega
      have hd256 : d < 256 := by rw [hd]; exact dgt_lt (by omega) _ _
      have hqq : (m : Int).tdiv 256 = ((m / 256 : Nat) : Int) := by rw [Int.tdiv_eq_ediv_of_nonneg (by omega)]; omega
      have hm0 : (0 : Int) < (m : Int) := by omega
      have hlen : Hid ((dl 256 n k).length + 1 ≤ 17592186044416) := Lib.hid (by rw [dl_length]; have := hk.out; have := H8.out; omega)
      have HD := Lib.hid hd
      have hkn : Hid (k + 1 ≤ nd 256 n) := Lib.hid (by
        rcases Nat.lt_or_ge k (nd 256 n) with h | h
        · exact h
        · exact absurd (hm.out.trans (Nat.div_eq_of_lt ((lt_pow_iff (b := 256) (by omega) k n).2 h))) h0)
      have hmn : Hid (m / 256 = n / 256 ^ (k + 1)) := Lib.hid (by rw [hm.out, Nat.pow_succ, Nat.div_div_eq_div_mul])
      have hms : m < 18446744073709551616 := by rw [hm.out]; exact Nat.lt_of_le_of_lt (Nat.div_le_self _ _) HN.out
      have HMS := Lib.hid hms
      clear hd
      go_wp2_with (at_builtin; go_loud (refine wpList_app1 wr rfl (.tmp 6) (.tmp 10) _ rfl w.heap.size 3 3 i0 .i64 8 Try.underlying129 hi0 hz0 hj1 hj2 (by omega) _ (dl 256 n k) d rfl rfl hown.out hlen.out hb.size ?_); intro v5 w5 hown5 hb5 hfr5 hnw5)
      rw [HD.out, ← dl_succ] at hown5
      have HO5 := Lib.hid hown5
      clear hown5 hfr5 hnw5
      go_roundw
      case rel => exact ⟨k + 1, m / 256, rfl, hmn, hkn, HO5, hb.trans hb5⟩
      case measure => simp [intOf]; omega
end Go.Proofs.Ytfoldiieclfbgaa
set_option linter.unusedSimpArgs false
set_option linter.unusedVariables false
namespace Go.Proofs.Ytfoldiieclfbgaa
open Go Go.RowKit Nt

/-- A quotient and a rest of whole numbers that are not negative, in the walk's spellings. -/
theorem quot21 (a b : Nat) : ((a : Int) / (b : Int)) = ((a / b : Nat) : Int) ∧ ((a : Int).tdiv (b : Int)) = ((a / b : Nat) : Int) := by
  have h : ((a : Int) / (b : Int)) = ((a / b : Nat) : Int) := by rw [Int.natCast_ediv]
  exact ⟨h, by rw [Int.tdiv_eq_ediv_of_nonneg (by omega)]; exact h⟩
theorem rest21 (a b : Nat) : ((a : Int) % (b : Int)) = ((a % b : Nat) : Int) ∧ ((a : Int).tmod (b : Int)) = ((a % b : Nat) : Int) := by
  have h : ((a : Int) % (b : Int)) = ((a % b : Nat) : Int) := by rw [Int.natCast_emod]
  exact ⟨h, by rw [Int.tmod_eq_emod_of_nonneg (by omega)]; exact h⟩
theorem eqz21 {p : Nat} (h : p ≠ 0) : ((p : Int) == 0) = false ∧ ((p : Int) != 0) = true := ⟨by rw [beq_eq_false_iff_ne]; omega, by rw [bne_iff_ne]; omega⟩

set_option maxRecDepth 100000 in
theorem Agcd_c (a b : Nat) (w : World) (ha : a < 18446744073709551616) (hb : b < 18446744073709551616) :
    Calls Try.prog 76 #[.int .u64 a, .int .u64 b] w fun e w' => e = .returned (.int .u64 (Nat.gcd a b : Nat)) ∧ Below w.heap.size w w' := by
  go_enter Try.func76, Try.ntmps76
  go_wp2_with fail
  go_loopw [0, 1] (fun vp vq wr => ∃ p q : Nat, vp = .int .u64 (p : Nat) ∧ vq = .int .u64 (q : Nat) ∧ p < 18446744073709551616 ∧ q < 18446744073709551616 ∧ Hid (Nat.gcd p q = Nat.gcd a b) ∧ Below w.heap.size w wr) (fun _ vq _ => (intOf vq).toNat)
  case atStart => exact ⟨a, b, rfl, rfl, ha, hb, Lib.hid rfl, Below.refl _ _⟩
  case round =>
    obtain ⟨p, q, rfl, rfl, hp, hq, hg, hbw⟩ := hrel
    by_cases h0 : q = 0
    · subst h0
      have HG : Hid (p = Nat.gcd a b) := Lib.hid (by have := hg.out; rwa [Nat.gcd_zero_right] at this)
      go_wp2_with fail
      go_ret
      exact ⟨by rw [← HG.out]; rfl, hbw⟩
    · obtain ⟨t, ht⟩ : ∃ t, t = p % q := ⟨_, rfl⟩
      have htq : t < q := by rw [ht]; exact Nat.mod_lt _ (Nat.pos_of_ne_zero h0)
      obtain ⟨hI, hT⟩ := rest21 p q
      rw [← ht] at hI hT
      obtain ⟨hz1, hz2⟩ := eqz21 h0
      have HG : Hid (Nat.gcd q t = Nat.gcd a b) := Lib.hid (by rw [← hg.out, ht, Nat.gcd_comm p q, Nat.gcd_rec q p, Nat.gcd_comm])
      have HTQ := Lib.hid htq
      have ht64 : t < 18446744073709551616 := by omega
      clear ht htq
      go_wp2_with fail
      go_quiet (fail)
      go_wp2_with fail
      go_roundw
      case rel => exact ⟨q, t, rfl, rfl, hq, ht64, HG, below_drewN hbw _⟩
      case measure => simp [intOf]; exact HTQ.out
set_option maxRecDepth 100000 in
theorem rgcd21_c (a b : Nat) (w : World) (ha : a < 18446744073709551616) (hb : b < 18446744073709551616) :
    Calls Try.prog 50 #[.int .u64 a, .int .u64 b] w fun e w' => e = .returned (.int .u64 (Nat.gcd a b : Nat)) ∧ Below w.heap.size w w' := by
  go_enter Try.func50, Try.ntmps50
  go_wp2_with fail
  go_loopw [0, 1] (fun vp vq wr => ∃ p q : Nat, vp = .int .u64 (p : Nat) ∧ vq = .int .u64 (q : Nat) ∧ p < 18446744073709551616 ∧ q < 18446744073709551616 ∧ Hid (Nat.gcd p q = Nat.gcd a b) ∧ Below w.heap.size w wr) (fun _ vq _ => (intOf vq).toNat)
  case atStart => exact ⟨a, b, rfl, rfl, ha, hb, Lib.hid rfl, Below.refl _ _⟩
  case round =>
    obtain ⟨p, q, rfl, rfl, hp, hq, hg, hbw⟩ := hrel
    by_cases h0 : q = 0
    · subst h0
      have HG : Hid (p = Nat.gcd a b) := Lib.hid (by have := hg.out; rwa [Nat.gcd_zero_right] at this)
      go_wp2_with fail
      go_ret
      exact ⟨by rw [← HG.out]; rfl, hbw⟩
    · obtain ⟨t, ht⟩ : ∃ t, t = p % q := ⟨_, rfl⟩
      have htq : t < q := by rw [ht]; exact Nat.mod_lt _ (Nat.pos_of_ne_zero h0)
      obtain ⟨hI, hT⟩ := rest21 p q
      rw [← ht] at hI hT
      obtain ⟨hz1, hz2⟩ := eqz21 h0
      have hpos : (0 : Int) < (q : Int) := by omega
      have HG : Hid (Nat.gcd q t = Nat.gcd a b) := Lib.hid (by rw [← hg.out, ht, Nat.gcd_comm p q, Nat.gcd_rec q p, Nat.gcd_comm])
      have HTQ := Lib.hid htq
      have ht64 : t < 18446744073709551616 := by omega
      clear ht htq
      go_wp2_with fail
      go_quiet (fail)
      go_wp2_with fail
      go_roundw
      case rel => exact ⟨q, t, rfl, rfl, hq, ht64, HG, below_drewN hbw _⟩
      case measure => simp [intOf]; exact HTQ.out
theorem and21 (q : Nat) (hq : q < 18446744073709551616) : bits BinOp.and IntKind.u64 (q : Int) 1 = ((q % 2 : Nat) : Int) := by
  have h1 : (BitVec.ofInt 64 (q : Int)).toNat = q := by
    rw [BitVec.ofInt_natCast, BitVec.toNat_ofNat]; exact Nat.mod_eq_of_lt (by omega)
  have h2 : (BitVec.ofInt 64 (1 : Int)).toNat = 1 := by decide
  show IntKind.u64.wrap ((BitVec.ofInt 64 (q : Int) &&& BitVec.ofInt 64 (1 : Int)).toNat : Int) = _
  rw [BitVec.toNat_and, h1, h2, Nat.and_one_is_mod, IntKind.wrap_u64]
  omega
theorem mul21 {a b : Nat} (ha : a < 4294967296) (hb : b < 4294967296) : a * b < 18446744073709551616 := by
  have h1 : a * b ≤ 4294967295 * 4294967295 := Nat.mul_le_mul (by omega) (by omega)
  omega
set_option maxRecDepth 100000 in
set_option maxHeartbeats 1000000 in
theorem Apower_c (d n m : Nat) (w : World) (hd : d < 18446744073709551616) (hn : n < 18446744073709551616) (hm0 : 0 < m) (hm : m < 4294967296) :
    Calls Try.prog 54 #[.int .u64 d, .int .u64 n, .int .u64 m] w fun e w' => e = .returned (.int .u64 (d ^ n % m : Nat)) ∧ w = w' := by
  obtain ⟨R, hR⟩ : ∃ R, R = d ^ n % m := ⟨_, rfl⟩
  have HR := Lib.hid hR
  obtain ⟨p0, hp0⟩ : ∃ p, p = 1 % m := ⟨_, rfl⟩
  obtain ⟨d0, hd0⟩ : ∃ p, p = d % m := ⟨_, rfl⟩
  have hp1 : p0 < m := by rw [hp0]; exact Nat.mod_lt _ hm0
  have hd1 : d0 < m := by rw [hd0]; exact Nat.mod_lt _ hm0
  obtain ⟨a1, a2⟩ := rest21 1 m
  obtain ⟨b1, b2⟩ := rest21 d m
  rw [← hp0] at a1 a2
  rw [← hd0] at b1 b2
  obtain ⟨z1, z2⟩ := eqz21 (show m ≠ 0 by omega)
  have HS : Hid (p0 * d0 ^ n % m = R) := Lib.hid (by rw [hR, hp0, hd0, pow21_start])
  have HM0 := Lib.hid hm0
  have HM := Lib.hid hm
  have hpI : (0 : Int) < (m : Int) := by omega
  rw [← hR]
  simp only [Int.natCast_one] at a1 a2
  clear hR hp0 hd0
  go_enter Try.func54, Try.ntmps54
  go_wp2_with fail
  clear a1 a2 b1 b2
  go_loopw [0, 1, 7] (fun vd vn vp wr => ∃ x k p : Nat, vd = .int .u64 (x : Nat) ∧ vn = .int .u64 (k : Nat) ∧ vp = .int .u64 (p : Nat) ∧ x < m ∧ k < 18446744073709551616 ∧ p < m ∧ Hid (p * x ^ k % m = R) ∧ w = wr) (fun _ vn _ _ => (intOf vn).toNat)
  case atStart => exact ⟨d0, n, p0, rfl, rfl, rfl, hd1, hn, hp1, HS, rfl⟩
  case round =>
    clear HS hn hd1 hp1
    obtain ⟨x, k, p, rfl, rfl, rfl, hx, hk, hp, hinv, rfl⟩ := hrel
    by_cases h0 : k = 0
    · subst h0
      have HP : Hid (p = R) := Lib.hid (by have := hinv.out; rwa [pow21_end hp] at this)
      go_wp2_with fail
      go_ret
      exact ⟨by rw [← HP.out]; rfl, rfl⟩
    · have hk0 : (0 : Int) < (k : Int) := by omega
      have hsq : x * x < 18446744073709551616 := mul21 (by have := HM.out; omega) (by have := HM.out; omega)
      have hpx : p * x < 18446744073709551616 := mul21 (by have := HM.out; omega) (by have := HM.out; omega)
      obtain ⟨S, hS⟩ : ∃ S, S = x * x := ⟨_, rfl⟩
      obtain ⟨T, hT⟩ : ∃ T, T = p * x := ⟨_, rfl⟩
      obtain ⟨x2, hx2⟩ : ∃ y, y = S % m := ⟨_, rfl⟩
      obtain ⟨p2, hp2⟩ : ∃ y, y = T % m := ⟨_, rfl⟩
      have eS : ((x : Int) * (x : Int)) = (S : Int) := by rw [hS, Int.natCast_mul]
      have eT : ((p : Int) * (x : Int)) = (T : Int) := by rw [hT, Int.natCast_mul]
      obtain ⟨c1, c2⟩ := rest21 S m
      rw [← hx2] at c1 c2
      obtain ⟨d1, d2⟩ := rest21 T m
      rw [← hp2] at d1 d2
      have hS64 : S < 18446744073709551616 := by rw [hS]; exact hsq
      have hT64 : T < 18446744073709551616 := by rw [hT]; exact hpx
      have hx2m : x2 < m := by rw [hx2]; exact Nat.mod_lt _ HM0.out
      have hp2m : p2 < m := by rw [hp2]; exact Nat.mod_lt _ HM0.out
      have ha := and21 k hk
      obtain ⟨q, hq⟩ : ∃ q, q = k / 2 := ⟨_, rfl⟩
      have hqk : q < k := by omega
      have eq1 : ((k : Int) / 2) = (q : Int) := by omega
      by_cases hodd : k % 2 = 1
      · have HI : Hid (p2 * x2 ^ q % m = R) := Lib.hid (by rw [← hinv.out, hp2, hx2, hT, hS, hq]; exact pow21_odd hodd)
        rw [hodd] at ha
        have HQ := Lib.hid hqk
        have hq64 : q < 18446744073709551616 := by omega
        clear hsq hpx hS hT hx2 hp2 hq hqk hodd hinv h0
        go_wp2_with fail
        go_roundw
        case rel => exact ⟨x2, q, p2, rfl, by go_num, rfl, hx2m, hq64, hp2m, HI, trivial⟩
        case measure => simp [intOf]; exact HQ.out
      · have HI : Hid (p * x2 ^ q % m = R) := Lib.hid (by rw [← hinv.out, hx2, hS, hq]; exact pow21_even hodd)
        rw [show k % 2 = 0 by omega] at ha
        have HQ := Lib.hid hqk
        have hq64 : q < 18446744073709551616 := by omega
        clear hsq hpx hS hT hx2 hp2 hq hqk hodd hinv h0 hT64 eT d1 d2 hp2m
        go_wp2_with fail
        go_roundw
        case rel => exact ⟨x2, q, p, rfl, by go_num, rfl, hx2m, hq64, hp, HI, trivial⟩
        case measure => simp [intOf]; exact HQ.out
set_option maxRecDepth 100000 in
set_option maxHeartbeats 1000000 in
theorem Abare_c (m d : Nat) (w : World) (hm : 0 < m) (hm2 : m < 4294967296) (hd : d < 18446744073709551616) :
    Calls Try.prog 55 #[.int .u64 m, .int .u64 d] w fun e w' => e = .returned (.tuple #[.int .i64 ((barN m d).1 : Nat), .int .u64 ((barN m d).2 : Nat)]) ∧ Below w.heap.size w w' := by
  have K := Lib.hid (fun (x : Nat) (hx : x < 18446744073709551616) w => Agcd_c x d w hx hd)
  have HM := Lib.hid hm
  have hm64 : m < 18446744073709551616 := by omega
  go_enter Try.func55, Try.ntmps55
  go_wp2_with fail
  refine (K.out m hm64 _).mono ?_
  rintro e w1 ⟨rfl, hb1⟩
  go_wp2_with fail
  go_loopw [0, 6, 7] (fun vm vp vg wr => ∃ x p g : Nat, vm = .int .u64 (x : Nat) ∧ vp = .int .i64 (p : Nat) ∧ vg = .int .u64 (g : Nat) ∧ 0 < x ∧ x ≤ m ∧ g < 18446744073709551616 ∧ Hid (p + (barN x d).1 = (barN m d).1 ∧ (barN x d).2 = (barN m d).2) ∧ Hid (g = Nat.gcd x d) ∧ Below w.heap.size w wr) (fun vm _ _ _ => (intOf vm).toNat)
  case atStart => exact ⟨m, 0, Nat.gcd m d, rfl, rfl, rfl, hm, Nat.le_refl _, Nat.lt_of_le_of_lt (Nat.gcd_le_left d hm) hm64, Lib.hid ⟨by omega, rfl⟩, Lib.hid rfl, hb1⟩
  case round =>
    clear hb1
    obtain ⟨x, p, g, rfl, rfl, rfl, hx0, hxm, hg64, hbar, hg, hb⟩ := hrel
    have hbb := (barN_bound (m := m) (d := d) HM.out)
    have hpp := hbar.out.1
    by_cases h1 : g = 1
    · subst h1
      have HS := barN_stop (hg.out.symm)
      have HP : Hid (p = (barN m d).1 ∧ x = (barN m d).2) := Lib.hid (by have := hbar.out; rw [HS] at this; exact ⟨this.1, this.2⟩)
      clear HS hbb hpp hbar
      go_wp2_with fail
      go_ret2
      exact ⟨by rw [← HP.out.1, ← HP.out.2]; rfl, hb⟩
    · have hne : Nat.gcd x d ≠ 1 := by rw [← hg.out]; exact h1
      have HO := barN_on hx0 hne
      have hlt := gdiv_lt hx0 hne
      have hpos := gdiv_pos (d := d) hx0
      rw [← hg.out] at HO hlt hpos
      obtain ⟨y, hy⟩ : ∃ y, y = x / g := ⟨_, rfl⟩
      rw [← hy] at HO hlt hpos
      obtain ⟨q1, q2⟩ := quot21 x g
      rw [← hy] at q1 q2
      have HB : Hid (p + 1 + (barN y d).1 = (barN m d).1 ∧ (barN y d).2 = (barN m d).2) := Lib.hid (by have := hbar.out; rw [HO] at this; exact ⟨by have := this.1; simp only [] at this; omega, this.2⟩)
      have hy64 : y < 18446744073709551616 := by omega
      have hym : y ≤ m := by omega
      have HLT := Lib.hid hlt
      have hp64 : p + 1 ≤ 4294967296 := by have := HB.out.1; omega
      have hg0 : ¬ g = 0 := by have := hg.out; have := Nat.gcd_pos_of_pos_left d hx0; omega
      obtain ⟨z1, z2⟩ := eqz21 hg0
      have hg1 : ((g : Int) != 1) = true := by rw [bne_iff_ne]; omega
      have hgy : Nat.gcd y d < 18446744073709551616 := Nat.lt_of_le_of_lt (Nat.gcd_le_left d hpos) hy64
      clear hy hlt hbar HO hne hbb hpp
      go_wp2_with fail
      refine (K.out y hy64 _).mono ?_
      rintro e w2 ⟨rfl, hb2⟩
      go_wp2_with fail
      go_roundw
      case rel => exact ⟨y, p + 1, Nat.gcd y d, rfl, by go_num, rfl, hpos, hym, hgy, HB, Lib.hid rfl, below_chain hb hb2⟩
      case measure => simp [intOf]; exact HLT.out
end Go.Proofs.Ytfoldiieclfbgaa
set_option linter.unusedSimpArgs false
set_option linter.unusedVariables false
namespace Go.Proofs.Ytfoldiieclfbgaa
open Go Go.RowKit Nt
attribute [local go_sem] Oper.semAt_some

section
variable {F : Fence} {n : Nat} {P : Program} {a : Act} {w : World} {Q : Exit → Act → World → Prop}
theorem stepR_scope {b : Frame} {k : List Item} {cs : List Frame} {c : Code} : step P (lone (b.atR a (.code (.scope c) :: k)) cs w) = .next (lone (b.atR a (.code c :: .inScope c :: k)) cs w) :=
  step_lone_go (by simp [stepG, stepG.exec, Frame.atR])
theorem stepR_inScope {b : Frame} {k : List Item} {cs : List Frame} {c : Code} : step P (lone (b.atR a (.inScope c :: k)) cs w) = .next (lone (b.atR a k) cs w) :=
  step_lone_go (by simp [stepG, stepG.exec, Frame.atR])
theorem wpIn_scope_straight {c : Code} (h : c.wpIn F n P (Exit.noGoto Q) a w) : (Code.scope c).wpIn F n P Q a w := by
  intro b k cs hro hb hr
  have h0 : (lone (b.atR a (.code (.scope c) :: k)) cs w).fenced P F := fenced_calm hb hr rfl
  obtain ⟨e, a₁, w₁, hq, harr⟩ := h b (.inScope c :: k) cs hro hb hr
  cases e with
  | normal => exact ⟨.normal, a₁, w₁, hq, .head h0 stepR_scope (StepsIn.trans harr (.one (fenced_calm hb hr rfl) stepR_inScope))⟩
  | exit id =>
    have hx : exitTo id (.inScope c :: k) = exitTo id k := by simp [exitTo]
    exact ⟨.exit id, a₁, w₁, hq, fun k' hk => .head h0 stepR_scope (harr.1 k' (by rw [hx]; exact hk)),
      fun hr' hk => let ⟨k₁, h1, h2⟩ := harr.2 hr' (by rw [hx]; exact hk); ⟨k₁, h1, .head h0 stepR_scope h2⟩⟩
  | goto l => exact hq.elim
  | ret => exact ⟨_, a₁, w₁, hq, .of_steps (.one h0 stepR_scope) harr⟩
  | panic ch => exact ⟨_, a₁, w₁, hq, .of_steps (.one h0 stepR_scope) harr⟩
  | outgrown => exact ⟨_, a₁, w₁, hq, .of_steps (.one h0 stepR_scope) harr⟩
end
theorem ptry_lt {a p : Nat} (ha : a < 4294967296) (hp : p ≤ 65537) : ptry a p < 4294967296 := by unfold ptry; split <;> omega
theorem sq21 {p : Nat} (hp : p ≤ 65537) : p * p ≤ 4295098369 := Nat.mul_le_mul hp hp
theorem small21 {a p : Nat} (ha : a < 4294967296) (h : ¬ a < p * p) : p ≤ 65536 := by
  rcases Nat.lt_or_ge 65536 p with h1 | h1
  · have : 65537 * 65537 ≤ p * p := Nat.mul_le_mul h1 h1
    omega
  · exact h1
/-- What may be a prime here. -/
abbrev P21 := { p : Nat // 2 ≤ p ∧ p < 4294967296 }
set_option maxRecDepth 100000 in
set_option maxHeartbeats 2000000 in
/-- 'func(yield func(uint64) bool)' of primes(m): the primes of m, in turn, till the loop's body says 'no more'. -/
theorem primes_stops (F : Fence) (n0 : Nat) (hF : F.fn 105) (hro : F.round = none) (hn : 1 ≤ n0) (Bn nb m : Nat) (w : World) (hm0 : 0 < m) (hm : m < 4294967296)
    (hBn : Bn < w.heap.size) (hc : w.cell? ⟨Bn, 0, none⟩ = some (.int .u64 (m : Nat))) :
    SeqStopsK F n0 Try.prog 105 #[.pointer (some ⟨Bn, 0, none⟩)] (fun p : P21 => #[.int .u64 (p.1 : Nat)]) (Below nb) (fun xs => xs.map (·.1) = primesN m) (fun _ => True) (primesN m).length w := fun l J Jx W hW hJ hJx hY h0 => by
  have hcW := (hW.cell (p := ⟨Bn, 0, none⟩) hBn).trans hc
  have HY := Lib.hid hY
  have H0 := Lib.hid h0
  have HM := Lib.hid hm
  have HM0 := Lib.hid hm0
  clear hY h0 hc hBn hW
  refine callsIn_of_wp Try.func105 rfl hF ?_ hro
  simp only [Try.ntmps105, List.size_toArray, List.length_cons, List.length_nil, Nat.reduceAdd, Nat.reduceSub, Array.replicate_succ, Array.replicate_zero, List.push_toArray, List.append_toArray, List.nil_append, List.cons_append]
  refine wpIn_scope_straight ?_
  gi_wp2
  refine wpIn_label ?_
  gi_wp2
  gi_loopw [3, 4] (fun va vp wr => ∃ (a p : Nat) (pre : List P21), va = .int .u64 (a : Nat) ∧ vp = .int .u64 (p : Nat) ∧ 0 < a ∧ a < 4294967296 ∧ 2 ≤ p ∧ p < 4294967298 ∧ (p ≤ 65537 ∨ a ≤ 1) ∧ Hid (primesN m = pre.map (·.1) ++ primL a p) ∧ Hid (J pre wr)) (fun va vp _ => pmeas (intOf va).toNat (intOf vp).toNat)
  case atStart =>
    exact ⟨m, 2, [], rfl, rfl, HM0.out, HM.out, by omega, by omega, Or.inl (by omega), Lib.hid rfl, H0⟩
  case round =>
    obtain ⟨a, p, pre, rfl, rfl, ha0, ha, hp, hp2, hpa, hpr, hJs⟩ := hrel
    have ha64 : a < 18446744073709551616 := by omega
    by_cases h1 : a ≤ 1
    · have HS : Hid (primesN m = pre.map (·.1)) := Lib.hid (by rw [hpr.out, primL_stop h1, List.append_nil])
      clear hpa
      gi_wp2
      try rw [Exit.noGoto_normal]
      go_end0
      exact ⟨⟨_, rfl⟩, .inl ⟨pre, HS.out.symm, hJs.out⟩⟩
    · have hp65 : p ≤ 65537 := by rcases hpa with h | h <;> omega
      obtain ⟨S, hS⟩ : ∃ S, S = p * p := ⟨_, rfl⟩
      have eS : ((p : Int) * (p : Int)) = (S : Int) := by rw [hS, Int.natCast_mul]
      have hS64 : S < 18446744073709551616 := by rw [hS]; have := sq21 hp65; omega
      by_cases hb : a < S
      · have hptry : ptry a p = a := ptry_big (by rw [← hS]; exact hb)
        have hdiv : a % a = 0 := Nat.mod_self a
        have hQ2 : 2 ≤ a := by omega
        have hend : a + 1 ≤ 65537 ∨ bareN a a ≤ 1 := by
          right
          rw [bareN_on hQ2 ha0 hdiv, Nat.div_self ha0]
          exact bareN_le _ _
        have hQ32 : a < 4294967296 := ha
        clear hS
        obtain ⟨T, hT⟩ : ∃ T, T = bareN a a := ⟨_, rfl⟩
        have HT := Lib.hid hT
        have hTpos : 0 < T := by rw [hT]; exact bareN_pos hQ2 ha0
        have hTle : T ≤ a := by rw [hT]; exact bareN_le _ _
        have hmeas := pmeas_take (a := a) (p := p) (by omega) hp (by rw [hptry]; exact hdiv)
        rw [hptry, ← hT] at hmeas
        have HME := Lib.hid hmeas
        have HPR : Hid (primesN m = pre.map (·.1) ++ a :: primL T (a + 1)) := Lib.hid (by rw [hpr.out, primL_take (by omega) hp (by rw [hptry]; exact hdiv), hptry, hT])
        have HPQ : Hid (a + 1 ≤ 65537 ∨ T ≤ 1) := Lib.hid (by rw [hT]; exact hend)
        have hQ0 : ¬ a = 0 := by omega
        obtain ⟨zq1, zq2⟩ := eqz21 hQ0
        obtain ⟨r1, r2⟩ := rest21 a a
        rw [hdiv] at r1 r2
        have HQ2 := Lib.hid hQ2
        have HA0 := Lib.hid ha0
        have HA := Lib.hid ha
        clear hT hmeas hend hptry hdiv hpr hpa
        gi_wp2
        gi_loopw [3] (fun va wr2 => ∃ x : Nat, va = .int .u64 (x : Nat) ∧ 0 < x ∧ x ≤ a ∧ Hid (bareN a x = T) ∧ wr = wr2) (fun va _ => (intOf va).toNat)
        case atStart => exact ⟨a, rfl, HA0.out, Nat.le_refl _, Lib.hid HT.out.symm, rfl⟩
        case round =>
          clear r1 r2
          obtain ⟨x, rfl, hx0, hxa, hxT, rfl⟩ := hrel
          have hx64 : x < 18446744073709551616 := by have := HA.out; omega
          obtain ⟨r1, r2⟩ := rest21 x a
          obtain ⟨q1, q2⟩ := quot21 x a
          by_cases hd : x % a = 0
          · rw [hd] at r1 r2
            obtain ⟨y, hy⟩ : ∃ y, y = x / a := ⟨_, rfl⟩
            rw [← hy] at q1 q2
            have hy0 : 0 < y := by rw [hy]; exact pos_div21 hx0 HQ2.out hd
            have hyx : y < x := by rw [hy]; exact div_lt21 hx0 HQ2.out
            have HYT : Hid (bareN a y = T) := Lib.hid (by rw [← hxT.out, bareN_on HQ2.out hx0 hd, hy])
            have hya : y ≤ a := by omega
            have HYX := Lib.hid hyx
            clear hy hd hxT hyx
            gi_wp2
            go_roundw
            case rel => exact ⟨y, rfl, hy0, hya, HYT, trivial⟩
            case measure => simp [intOf]; exact HYX.out
          · obtain ⟨r, hr⟩ : ∃ r, r = x % a := ⟨_, rfl⟩
            rw [← hr] at r1 r2 hd
            obtain ⟨zr1, zr2⟩ := eqz21 hd
            have hr64 : r < 18446744073709551616 := by rw [hr]; exact Nat.lt_of_le_of_lt (Nat.mod_le _ _) hx64
            have hxT' := hxT.out
            rw [bareN_stop (by rw [← hr]; exact hd)] at hxT'
            subst hxT'
            have hlen : pre.length < (primesN m).length := by rw [HPR.out]; simp
            obtain ⟨xq, hxq⟩ : ∃ x : P21, x.1 = a := ⟨⟨a, HQ2.out, hQ32⟩, rfl⟩
            obtain ⟨fn, tmps, assign, body, hy, hR⟩ := HY.out pre xq wr hJs.out hlen
            rw [hxq] at hy
            have HXQ := Lib.hid hxq
            clear hxq
            clear hr hlen
            gi_wp2
            refine hR.mono ?_
            rintro e W3 (⟨rfl, hJ3, hk3⟩ | ⟨rfl, hJx3⟩)
            · have HJ3 := Lib.hid hJ3
              have HPP : Hid (primesN m = (pre ++ [xq]).map (·.1) ++ primL x (a + 1)) := Lib.hid (by rw [HPR.out, List.map_append, List.map_cons, List.map_nil, HXQ.out]; simp)
              clear hJ3 hk3
              gi_wp2
              go_roundw
              case rel => exact ⟨x, a + 1, pre ++ [xq], rfl, by go_num, hTpos, by have := HA.out; omega, by have := HQ2.out; omega, by omega, HPQ.out, HPP, HJ3⟩
              case measure => simp [intOf]; exact HME.out
            · gi_wp2
              try rw [Exit.noGoto_ret]
              refine bodyPost_ret (results_none rfl _ _ _) rfl ?_
              exact ⟨⟨_, rfl⟩, .inr ⟨pre ++ [xq], trivial, hJx3⟩⟩
      · have hptry : ptry a p = p := ptry_small (by rw [← hS]; exact hb)
        have hp16 : p ≤ 65536 := small21 ha (by rw [← hS]; exact hb)
        have hQ32 : p < 4294967296 := by omega
        clear hS hp65
        by_cases hdiv : a % p = 0
        · have hQ2 : 2 ≤ p := hp
          have hend : p + 1 ≤ 65537 ∨ bareN p a ≤ 1 := Or.inl (by omega)
          obtain ⟨T, hT⟩ : ∃ T, T = bareN p a := ⟨_, rfl⟩
          have HT := Lib.hid hT
          have hTpos : 0 < T := by rw [hT]; exact bareN_pos hQ2 ha0
          have hTle : T ≤ a := by rw [hT]; exact bareN_le _ _
          have hmeas := pmeas_take (a := a) (p := p) (by omega) hp (by rw [hptry]; exact hdiv)
          rw [hptry, ← hT] at hmeas
          have HME := Lib.hid hmeas
          have HPR : Hid (primesN m = pre.map (·.1) ++ p :: primL T (p + 1)) := Lib.hid (by rw [hpr.out, primL_take (by omega) hp (by rw [hptry]; exact hdiv), hptry, hT])
          have HPQ : Hid (p + 1 ≤ 65537 ∨ T ≤ 1) := Lib.hid (by rw [hT]; exact hend)
          have hQ0 : ¬ p = 0 := by omega
          obtain ⟨zq1, zq2⟩ := eqz21 hQ0
          obtain ⟨r1, r2⟩ := rest21 a p
          rw [hdiv] at r1 r2
          have HQ2 := Lib.hid hQ2
          have HA0 := Lib.hid ha0
          have HA := Lib.hid ha
          clear hT hmeas hend hptry hdiv hpr hpa
          gi_wp2
          gi_loopw [3] (fun va wr2 => ∃ x : Nat, va = .int .u64 (x : Nat) ∧ 0 < x ∧ x ≤ a ∧ Hid (bareN p x = T) ∧ wr = wr2) (fun va _ => (intOf va).toNat)
          case atStart => exact ⟨a, rfl, HA0.out, Nat.le_refl _, Lib.hid HT.out.symm, rfl⟩
          case round =>
            clear r1 r2
            obtain ⟨x, rfl, hx0, hxa, hxT, rfl⟩ := hrel
            have hx64 : x < 18446744073709551616 := by have := HA.out; omega
            obtain ⟨r1, r2⟩ := rest21 x p
            obtain ⟨q1, q2⟩ := quot21 x p
            by_cases hd : x % p = 0
            · rw [hd] at r1 r2
              obtain ⟨y, hy⟩ : ∃ y, y = x / p := ⟨_, rfl⟩
              rw [← hy] at q1 q2
              have hy0 : 0 < y := by rw [hy]; exact pos_div21 hx0 HQ2.out hd
              have hyx : y < x := by rw [hy]; exact div_lt21 hx0 HQ2.out
              have HYT : Hid (bareN p y = T) := Lib.hid (by rw [← hxT.out, bareN_on HQ2.out hx0 hd, hy])
              have hya : y ≤ a := by omega
              have HYX := Lib.hid hyx
              clear hy hd hxT hyx
              gi_wp2
              go_roundw
              case rel => exact ⟨y, rfl, hy0, hya, HYT, trivial⟩
              case measure => simp [intOf]; exact HYX.out
            · obtain ⟨r, hr⟩ : ∃ r, r = x % p := ⟨_, rfl⟩
              rw [← hr] at r1 r2 hd
              obtain ⟨zr1, zr2⟩ := eqz21 hd
              have hr64 : r < 18446744073709551616 := by rw [hr]; exact Nat.lt_of_le_of_lt (Nat.mod_le _ _) hx64
              have hxT' := hxT.out
              rw [bareN_stop (by rw [← hr]; exact hd)] at hxT'
              subst hxT'
              have hlen : pre.length < (primesN m).length := by rw [HPR.out]; simp
              obtain ⟨xq, hxq⟩ : ∃ x : P21, x.1 = p := ⟨⟨p, HQ2.out, hQ32⟩, rfl⟩
              obtain ⟨fn, tmps, assign, body, hy, hR⟩ := HY.out pre xq wr hJs.out hlen
              rw [hxq] at hy
              have HXQ := Lib.hid hxq
              clear hxq
              clear hr hlen
              gi_wp2
              refine hR.mono ?_
              rintro e W3 (⟨rfl, hJ3, hk3⟩ | ⟨rfl, hJx3⟩)
              · have HJ3 := Lib.hid hJ3
                have HPP : Hid (primesN m = (pre ++ [xq]).map (·.1) ++ primL x (p + 1)) := Lib.hid (by rw [HPR.out, List.map_append, List.map_cons, List.map_nil, HXQ.out]; simp)
                clear hJ3 hk3
                gi_wp2
                go_roundw
                case rel => exact ⟨x, p + 1, pre ++ [xq], rfl, by go_num, hTpos, by have := HA.out; omega, by have := HQ2.out; omega, by omega, HPQ.out, HPP, HJ3⟩
                case measure => simp [intOf]; exact HME.out
              · gi_wp2
                try rw [Exit.noGoto_ret]
                refine bodyPost_ret (results_none rfl _ _ _) rfl ?_
                exact ⟨⟨_, rfl⟩, .inr ⟨pre ++ [xq], trivial, hJx3⟩⟩
        · obtain ⟨r1, r2⟩ := rest21 a p
          have hp0 : ¬ p = 0 := by omega
          obtain ⟨zp1, zp2⟩ := eqz21 hp0
          have hmeas := pmeas_skip (a := a) (p := p) (by omega) hp (by rw [hptry]; exact hdiv)
          rw [hptry] at hmeas
          have HME := Lib.hid hmeas
          have HPR : Hid (primesN m = pre.map (·.1) ++ primL a (p + 1)) := Lib.hid (by rw [hpr.out, primL_skip (by omega) hp (by rw [hptry]; exact hdiv), hptry])
          obtain ⟨r, hr⟩ : ∃ r, r = a % p := ⟨_, rfl⟩
          rw [← hr] at r1 r2 hdiv
          obtain ⟨zr1, zr2⟩ := eqz21 hdiv
          have hr64 : r < 18446744073709551616 := by rw [hr]; exact Nat.lt_of_le_of_lt (Nat.mod_le _ _) ha64
          clear hmeas hpr hpa hptry hr
          gi_wp2
          go_roundw
          case rel => exact ⟨a, p + 1, pre, rfl, by go_num, ha0, ha, by omega, by omega, Or.inl (by omega), HPR, hJs⟩
          case measure => simp [intOf]; exact HME.out
end Go.Proofs.Ytfoldiieclfbgaa
set_option linter.unusedSimpArgs false
set_option linter.unusedVariables false
namespace Go.Proofs.Ytfoldiieclfbgaa
open Go Go.RowKit Nt
attribute [local go_sem] Oper.semAt_some

set_option maxRecDepth 100000 in
theorem Aprimes_c (m : Nat) (w : World) : Calls Try.prog 80 #[.int .u64 (m : Nat)] w fun e w' => e = .returned (.func (.func 105) #[] #[.pointer (some ⟨w.heap.size, 0, none⟩)]) ∧ w' = w.alloc (.cells #[.int .u64 (m : Nat)] 28) := by
  go_enter Try.func80, Try.ntmps80
  go_wp2
  go_ret
  exact ⟨rfl, rfl⟩
theorem phi_map {m : Nat} (hm : 0 < m) (l : List P21) : 0 < phiL m (l.map (·.1)) ∧ phiL m (l.map (·.1)) ≤ m := phiL_pos hm _ (fun q hq => by
  obtain ⟨x, _, rfl⟩ := List.mem_map.1 hq
  exact x.2.1)
set_option maxRecDepth 100000 in
set_option maxHeartbeats 2000000 in
theorem Aphi_in (m : Nat) (w : World) (hm0 : 0 < m) (hm : m < 4294967296) :
    CallsIn Fence.wide 3 Try.prog 79 #[.int .u64 (m : Nat)] w fun e w' => e = .returned (.int .u64 (phiN m : Nat)) ∧ Below w.heap.size w w' := by
  have HM0 := Lib.hid hm0
  have HM := Lib.hid hm
  refine callsIn_of_wp_marks Try.func79 rfl trivial ?_ rfl
  simp only [Try.ntmps79, List.size_toArray, List.length_cons, List.length_nil, Nat.reduceAdd, Nat.reduceSub, Array.replicate_succ, Array.replicate_zero, List.push_toArray, List.append_toArray, List.nil_append, List.cons_append]
  gi_wp2_with (refine ⟨trivial, ?_⟩; gi_at_call 80; refine ((callsIn_wide (n := 2)).2 (Aprimes_c m _)).mono ?_; rintro e w' ⟨rfl, rfl⟩)
  have hs := (Blk.new w 28 #[.int .u64 (m : Nat)]).alloc (.cells #[.int .u64 (m : Nat)] 28)
  have hb := (Blk.new (w.alloc (.cells #[.int .u64 (m : Nat)] 28)) 28 #[.int .u64 (m : Nat)]).cell 0
  rw [World.size_alloc] at hb
  have hB0 : Below w.heap.size w ((w.alloc (.cells #[.int .u64 (m : Nat)] 28)).alloc (.cells #[.int .u64 (m : Nat)] 28)) := ((Below.refl _ w).alloc (Nat.le_refl _) _).alloc (by simp) _
  refine wpIn_rangeFunc_ownF rfl (by decide) (gf := 105) (lb := #[.pointer (some ⟨w.heap.size + 1, 0, none⟩)]) rfl trivial (enters_of Try.func105 (by kernel_rfl) rfl)
    (primes_stops Fence.wide (3 - 1) trivial rfl (by decide) (w.heap.size + 1) w.heap.size m _ hm0 hm (by simp) hb) belowK_t (belowK_b (by simp; omega)) (Below.refl _ _) (fun _ => rfl)
    (fun pre W => (W.cell? ⟨w.heap.size, 0, none⟩ = some (.int .u64 (phiL m (pre.map (·.1)) : Nat)) ∧ W.frozen? ⟨w.heap.size, 0, none⟩ = false) ∧ Below w.heap.size w W)
    (fun _ _ _ => False)
    (OwnFrom.and (Own.from (fun s A B row hs hg hr => ⟨cell_kept hs.1 hg hr, (frozen_kept hs.1 hg hr).trans hs.2⟩) _) (ownFrom_below (Nat.le_refl _) (by simp; omega)))
    (fun _ _ _ _ _ hs _ _ => hs)
    ⟨⟨hs.cell 0, hs.frozen 0⟩, hB0⟩
    (fun x => { tmps := #[.int .u64 (m : Nat), undef, .int .u64 0, .pointer (some ⟨w.heap.size, 0, none⟩), .int .u64 (x.1 : Nat), .int .u64 (m : Nat), .int .u64 (m : Nat), .func (.func 105) #[] #[.pointer (some ⟨w.heap.size + 1, 0, none⟩)], .int .u64 (x.1 : Nat), undef, undef, undef, undef, undef, undef], defers := [] }) ?assign ?body ?done ?stop
  case assign =>
    intro l x W K hK
    gi_wp2
    exact hK
  case body =>
    rintro l pre ⟨x, hx2, hx32⟩ W ⟨⟨hc, hf⟩, hB⟩ _
    have hph := phi_map hm0 pre
    have HSN := Lib.hid (phiL_snoc m (pre.map (·.1)) x)
    generalize phiL m (pre.map (·.1)) = N at *
    have hst := phi_step hph.1 hx2
    obtain ⟨q1, q2⟩ := quot21 N x
    obtain ⟨q, hq⟩ : ∃ q, q = N / x := ⟨_, rfl⟩
    rw [← hq] at q1 q2 hst
    have hx0 : ¬ x = 0 := by omega
    obtain ⟨z1, z2⟩ := eqz21 hx0
    obtain ⟨D, hD⟩ : ∃ D, D = N - q := ⟨_, rfl⟩
    have eD : ((N : Int) - (q : Int)) = (D : Int) := by omega
    have hD64 : D < 18446744073709551616 := by omega
    have hc0 : (W.cell? ⟨w.heap.size, 0, none⟩).isSome = true := by rw [hc]; rfl
    have HD : Hid (phiL m ((pre ++ [(⟨x, hx2, hx32⟩ : P21)]).map (·.1)) = D) := Lib.hid (by rw [List.map_append, List.map_cons, List.map_nil, HSN.out, hD, hq])
    have hq64 : q < 18446744073709551616 := by omega
    have hw1 : IntKind.u64.wrap (q : Int) = (q : Int) := by rw [IntKind.wrap_u64]; omega
    have hw2 : IntKind.u64.wrap ((N : Int) - (q : Int)) = (D : Int) := by rw [eD, IntKind.wrap_u64]; omega
    clear hq hD hst hph HSN
    have hmx : Try.prog.follows .mixedOrders = true := by kernel_rfl
    gi_wp2
    gi_region_with_o (fail)
    all_goals gi_wp2
    all_goals (try go_bits)
    all_goals (try simp only [hw1, hw2])
    all_goals exact ⟨(KeepsOthers.setCell _ _ _).trans (KeepsOthers.drew _), ((Below.refl w.heap.size W).setCell (p := ⟨w.heap.size, 0, none⟩) (Nat.le_refl _) _).drew, ⟨by rw [HD.out]; exact World.cell?_setCell_same' _ _ _ hc0, by rw [frozen_drew_own, World.frozen?_setCell]; exact hf⟩, (hB.setCell (p := ⟨w.heap.size, 0, none⟩) (Nat.le_refl _) _).drew⟩
  case done =>
    rintro D ys W hD hys ⟨⟨hc, _⟩, hB⟩ hK
    rw [hys] at hc
    gi_wp2
    refine ⟨by simp, .inl ⟨_, _, rfl, run_takeDeferred hK, ?_⟩⟩
    exact ⟨_, results_tmp rfl _ _ _, rfl, hB.trans (belowK_b (w := w) (Nat.le_refl _) W D _ _ (by simp at hD; omega) hK rfl rfl)⟩
  case stop =>
    rintro D c pre W _ _ h _
    exact h.elim
theorem Aphi_c (m : Nat) (w : World) (hm0 : 0 < m) (hm : m < 4294967296) :
    Calls Try.prog 79 #[.int .u64 (m : Nat)] w fun e w' => e = .returned (.int .u64 (phiN m : Nat)) ∧ Below w.heap.size w w' := callsIn_wide.1 (Aphi_in m w hm0 hm)
end Go.Proofs.Ytfoldiieclfbgaa
set_option linter.unusedVariables false
namespace Go.Proofs.Ytfoldiieclfbgaa
open Go Go.RowKit

section
variable {F : Fence} {n l : Nat} {P : Program} {md : Region.Mode} {ops : Array Oper} {C : World → Prop}
/-- No operation defers a call. -/
def noDefer (ops : Array Oper) : Bool := ops.all fun o => match o.op with | .defer _ => false | _ => true
theorem noDefer_at {i : Nat} {o : Oper} (h : noDefer ops = true) (ho : ops[i]? = some o) (c : Call) : o.op ≠ .defer c := fun e => by
  have hm := Array.mem_of_getElem? ho
  have := (Array.all_eq_true_iff_forall_mem.1 h) o hm
  rw [e] at this
  exact Bool.noConfusion this
theorem op_inRound {o : Oper} {a : Act} {K : Act → Prop} {K' : Act → World → Prop} {Q : Exit → Act → World → Prop} {w : World} (hnd : ∀ c, o.op ≠ .defer c) (hw : C w)
    (h : ∀ a w', C w' → K a → K' a w') (ha : o.askedIn F P a C) (hh : o.quietIn F n P a C K) : o.wpIn (F.inRound l) n P a w K' Q := by
  obtain ⟨v, h1, h2⟩ := hh
  have h3 := h1 w hw
  refine ⟨ha w hw, ?_⟩
  rw [show (F.inRound l).round = some l from rfl, Oper.semAt_eq _ _ _ hnd]
  unfold Oper.quietAtIn at h3
  generalize (execOp a.eval o).run P w = r at h3
  rcases r with ⟨x, w'⟩ | ⟨x, w'⟩
  · cases x with
    | value u => exact (by rw [h3.1, h3.2]; exact h _ _ hw h2 : K' (a.put o.dst u) w')
    | skip => exact (by have e := h3.1; have e2 := h3.2; rw [e, ← e2]; exact h _ _ hw h2 : K' (a.put o.dst undef) w')
    | enter f args =>
      obtain ⟨e1, hd, hc⟩ := h3
      rw [e1]
      exact ⟨hd, (CallsIn.inRound l hc).mono fun e w'' hq => by
        obtain ⟨he, hcw⟩ := hq
        subst he
        exact h _ _ hcw h2⟩
    | _ => exact absurd h3 (by simp only [Oper.quietUponIn, not_false_eq_true])
  · exact absurd h3 (by simp only [Oper.quietUponIn, not_false_eq_true])
theorem any_inRound {Q : Act → Prop} {Q' : Exit → Act → World → Prop} (hnd : noDefer ops = true) (hQ : ∀ a w, C w → Q a → Q' .normal a w) : ∀ (fuel : Nat) (listed : Array Bool) (a : Act) (w : World), C w →
    wpAnyQIn F n P md ops C Q fuel listed a → wpAnyIn (F.inRound l) n P md ops Q' fuel listed a w := by
  intro fuel
  induction fuel with
  | zero => intro listed a w hw h; exact ⟨h.1, hQ _ _ hw h.2⟩
  | succ fuel ih =>
    intro listed a w hw h
    refine ⟨fun h0 => hQ _ _ hw (h.1 h0), fun i hi => ?_⟩
    have hq := h.2 i hi
    unfold qOpIn at hq
    unfold wpOpIn
    cases ho : ops[i]? with
    | none => rw [ho] at hq; exact ih _ _ _ hw hq
    | some o =>
      rw [ho] at hq
      obtain ⟨ha, hq⟩ := hq
      by_cases hwt : Region.wanted o (yielded ops a.tmps) = true
      · rw [if_pos hwt] at hq
        show if _ then _ else _
        rw [if_pos hwt]
        exact op_inRound (noDefer_at hnd ho) hw (fun a' w' hw' hk => ih _ a' w' hw' hk) ha hq
      · rw [if_neg hwt] at hq
        show if _ then _ else _
        rw [if_neg hwt]
        exact ⟨ha w hw, ih _ _ _ hw hq⟩
/-- The region's law, in a round. -/
theorem region_inRound {id : Nat} {Q : Exit → Act → World → Prop} {a : Act} {w : World} {L : List Oper} (hnd : noDefer L.toArray = true) (hm : P.follows .mixedOrders = true) (hB : Region.lexB .any L.toArray = true)
    (h : wpQuietIn F n P L.toArray (fun w' => ∃ n, w' = w.drewN n) (fun a' => ∀ w', (∃ n, w' = w.drewN n) → Q .normal a' w') L a) : (Code.region id L.toArray true).wpIn (F.inRound l) n P Q a w := by
  have hB2 := hB
  simp only [Region.lexB, Bool.and_eq_true] at hB2
  refine wpIn_region_any hm (any_inRound (C := fun w' => ∃ n, w' = w.drewN n) (Q := fun a' => ∀ w', (∃ n, w' = w.drewN n) → Q .normal a' w') hnd (fun _ w' hw' h => h w' hw') _ _ _ _ ⟨1, rfl⟩ ?_)
  have := wpAnyQIn_lex (F := F) (n := n) (P := P) (C := fun w' => ∃ n, w' = w.drewN n) (md := .any) (Q := fun a' => ∀ w', (∃ n, w' = w.drewN n) → Q .normal a' w') hB2.1 L 0 (Array.replicate L.toArray.size false) a (by simp) (by simpa using hB2.2) h
  simpa using this
end
end Go.Proofs.Ytfoldiieclfbgaa
set_option linter.unusedSimpArgs false
set_option linter.unusedVariables false
namespace Go.Proofs.Ytfoldiieclfbgaa
open Go Go.RowKit Nt
attribute [local go_sem] Oper.semAt_some

theorem keeps_drewN {a b : World} (h : KeepsOthers a b) (n : Nat) : KeepsOthers a (b.drewN n) := ⟨h.1, h.2⟩
theorem wide_fn (f : Nat) : Fence.wide.fn f = True := eq_true trivial
attribute [local go_sem] wide_fn
theorem ord_map {d m n : Nat} (hn : 0 < n) (l : List P21) : 0 < ordL d m n (l.map (·.1)) ∧ ordL d m n (l.map (·.1)) ≤ n := ordL_pos hn _ (fun q hq => by
  obtain ⟨x, _, rfl⟩ := List.mem_map.1 hq
  exact x.2.1)
set_option maxRecDepth 100000 in
set_option maxHeartbeats 4000000 in
theorem Aorder_in (d m : Nat) (w : World) (hd : d < 18446744073709551616) (hm0 : 0 < m) (hm : m < 4294967296) :
    CallsIn Fence.wide 3 Try.prog 56 #[.int .u64 (d : Nat), .int .u64 (m : Nat)] w fun e w' => e = .returned (.int .i64 (ordN d m : Nat)) ∧ Below w.heap.size w w' := by
  have HM0 := Lib.hid hm0
  have HM := Lib.hid hm
  have KP := Lib.hid (fun w => Aphi_c m w hm0 hm)
  have hph := phiN_pos hm0
  obtain ⟨N0, hN0⟩ : ∃ N, N = phiN m := ⟨_, rfl⟩
  rw [← hN0] at hph KP
  have HN0 := Lib.hid hN0
  have D0 := (Blk.new w 28 #[.int .u64 (d : Nat)]).alloc (.cells #[.int .u64 (m : Nat)] 28)
  have M0 := Blk.new (w.alloc (.cells #[.int .u64 (d : Nat)] 28)) 28 #[.int .u64 (m : Nat)]
  rw [World.size_alloc] at M0
  have hB0 : Below w.heap.size w ((w.alloc (.cells #[.int .u64 (d : Nat)] 28)).alloc (.cells #[.int .u64 (m : Nat)] 28)) := ((Below.refl _ w).alloc (Nat.le_refl _) _).alloc (by simp) _
  have hsz : ((w.alloc (.cells #[.int .u64 (d : Nat)] 28)).alloc (.cells #[.int .u64 (m : Nat)] 28)).heap.size = w.heap.size + 2 := by simp
  have hc1 : ((w.alloc (.cells #[.int .u64 (d : Nat)] 28)).alloc (.cells #[.int .u64 (m : Nat)] 28)).cell? ⟨w.heap.size + 1, 0, none⟩ = some (.int .u64 (m : Nat)) := M0.cell 0
  clear hN0
  refine callsIn_of_wp_marks Try.func56 rfl trivial ?_ rfl
  simp only [Try.ntmps56, List.size_toArray, List.length_cons, List.length_nil, Nat.reduceAdd, Nat.reduceSub, Array.replicate_succ, Array.replicate_zero, List.push_toArray, List.append_toArray, List.nil_append, List.cons_append]
  gi_wp2_with (first
    | (gi_at_call 79; refine ((callsIn_wide (n := 2)).2 (KP.out _)).mono ?_; rintro e w1 ⟨rfl, hb1⟩)
    | (gi_at_call 80; refine ((callsIn_wide (n := 2)).2 (Aprimes_c N0 _)).mono ?_; rintro e w' ⟨rfl, rfl⟩))
  have hB1 := below_chain hB0 hb1
  have hz1 : w.heap.size + 2 ≤ w1.heap.size := by have := hb1.size; omega
  have D1 := ((D0.below hb1 D0.lt).alloc (.cells #[.int .u64 (N0 : Nat)] 28)).alloc (.cells #[.int .u64 (N0 : Nat)] 28)
  have M1 := ((M0.below hb1 M0.lt).alloc (.cells #[.int .u64 (N0 : Nat)] 28)).alloc (.cells #[.int .u64 (N0 : Nat)] 28)
  have hs := (Blk.new w1 28 #[.int .u64 (N0 : Nat)]).alloc (.cells #[.int .u64 (N0 : Nat)] 28)
  have hb := (Blk.new (w1.alloc (.cells #[.int .u64 (N0 : Nat)] 28)) 28 #[.int .u64 (N0 : Nat)]).cell 0
  rw [World.size_alloc] at hb
  have hB2 : Below w.heap.size w ((w1.alloc (.cells #[.int .u64 (N0 : Nat)] 28)).alloc (.cells #[.int .u64 (N0 : Nat)] 28)) := (hB1.alloc hB1.size _).alloc (by have := hB1.size; simp; omega) _
  clear D0 M0 hB0 hsz hb1 hc1 KP
  refine wpIn_rangeFunc_ownF rfl (by decide) (gf := 105) (lb := #[.pointer (some ⟨w1.heap.size + 1, 0, none⟩)]) rfl trivial (enters_of Try.func105 (by kernel_rfl) rfl)
    (primes_stops Fence.wide (3 - 1) trivial rfl (by decide) (w1.heap.size + 1) w.heap.size N0 _ hph.1 (by omega) (by simp) hb) belowK_t (belowK_b (by simp; omega)) (Below.refl _ _) (fun _ => rfl)
    (fun pre W => ((W.cell? ⟨w1.heap.size, 0, none⟩ = some (.int .u64 (ordL d m N0 (pre.map (·.1)) : Nat)) ∧ W.frozen? ⟨w1.heap.size, 0, none⟩ = false) ∧ W.cell? ⟨w.heap.size, 0, none⟩ = some (.int .u64 (d : Nat)) ∧ W.cell? ⟨w.heap.size + 1, 0, none⟩ = some (.int .u64 (m : Nat))) ∧ Below w.heap.size w W)
    (fun _ _ _ => False)
    (OwnFrom.and (Own.from (fun s A B row hs hg hr => ⟨⟨cell_kept hs.1.1 hg hr, (frozen_kept hs.1.1 hg hr).trans hs.1.2⟩, cell_kept hs.2.1 hg hr, cell_kept hs.2.2 hg hr⟩) _) (ownFrom_below (Nat.le_refl _) (by simp; omega)))
    (fun _ _ _ _ _ hs _ _ => hs)
    ⟨⟨⟨hs.cell 0, hs.frozen 0⟩, D1.cell 0, M1.cell 0⟩, hB2⟩
    (fun x => { tmps := #[.int .u64 (d : Nat), .int .u64 (m : Nat), .pointer (some ⟨w.heap.size, 0, none⟩), .pointer (some ⟨w.heap.size + 1, 0, none⟩), .int .i64 0, .pointer (some ⟨w1.heap.size, 0, none⟩), .int .u64 (x.1 : Nat), .int .u64 (m : Nat), .int .u64 (N0 : Nat), .int .u64 (N0 : Nat), .func (.func 105) #[] #[.pointer (some ⟨w1.heap.size + 1, 0, none⟩)], .int .u64 (x.1 : Nat), undef, undef, undef, undef, undef, undef, undef, undef, undef, undef, undef, undef, undef, undef, undef, undef, undef, undef, undef, undef], defers := [] }) ?assign ?body ?done ?stop
  case assign =>
    intro l x W K hK
    gi_wp2
    exact hK
  case body =>
    rintro l pre ⟨x, hx2, hx32⟩ W ⟨⟨⟨hc, hf⟩, hcd, hcm⟩, hB⟩ _
    clear hs hb hB2 D1 M1
    have hoo := ord_map (d := d) (m := m) hph.1 pre
    obtain ⟨T, hT⟩ : ∃ T, T = ordL d m N0 ((pre ++ [(⟨x, hx2, hx32⟩ : P21)]).map (·.1)) := ⟨_, rfl⟩
    have HT := Lib.hid hT
    rw [List.map_append, List.map_cons, List.map_nil, ordL_snoc] at hT
    generalize ordL d m N0 (pre.map (·.1)) = N1 at *
    have HT1 : Hid (ordP d m x N1 = T) := Lib.hid hT.symm
    have hN32 : N0 < 4294967296 := by omega
    have hx0 : ¬ x = 0 := by omega
    have hm00 : ¬ m = 0 := by have := HM0.out; omega
    obtain ⟨z1, z2⟩ := eqz21 hx0
    obtain ⟨z3, z4⟩ := eqz21 hm00
    obtain ⟨U, hU⟩ : ∃ U, U = 1 % m := ⟨_, rfl⟩
    obtain ⟨u1, u2⟩ := rest21 1 m
    rw [← hU] at u1 u2
    simp only [Int.natCast_one] at u1 u2
    have hU64 : U < 18446744073709551616 := by rw [hU]; exact Nat.lt_of_le_of_lt (Nat.mod_le _ _) (by omega)
    have HU := Lib.hid hU
    have HX2 := Lib.hid hx2
    clear hT hU
    have hmx : Try.prog.follows .mixedOrders = true := by kernel_rfl
    gi_wp2
    gi_loopw [12] (fun _ wr => ∃ N : Nat, 0 < N ∧ N ≤ N0 ∧ wr.cell? ⟨w1.heap.size, 0, none⟩ = some (.int .u64 (N : Nat)) ∧ wr.frozen? ⟨w1.heap.size, 0, none⟩ = false ∧ wr.cell? ⟨w.heap.size, 0, none⟩ = some (.int .u64 (d : Nat)) ∧ wr.cell? ⟨w.heap.size + 1, 0, none⟩ = some (.int .u64 (m : Nat)) ∧ Hid (ordP d m x N = T) ∧ Below w.heap.size w wr ∧ Below w.heap.size W wr ∧ KeepsOthers W wr) (fun _ wr => match wr.cell? ⟨w1.heap.size, 0, none⟩ with | some (.int _ v) => v.toNat | _ => 0)
    case atStart => exact ⟨N1, hoo.1, hoo.2, hc, hf, hcd, hcm, HT1, hB, Below.refl _ _, KeepsOthers.refl _⟩
    case round =>
      clear hc hf hcd hcm hB hoo HT1
      obtain ⟨N, hN0p, hNle, hc, hf, hcd, hcm, hTN, hB, hBW, hKO⟩ := hrel
      obtain ⟨r1, r2⟩ := rest21 N x
      by_cases hr : N % x = 0
      · rw [hr] at r1 r2
        obtain ⟨q, hq⟩ : ∃ q, q = N / x := ⟨_, rfl⟩
        obtain ⟨q1, q2⟩ := quot21 N x
        rw [← hq] at q1 q2
        have hq0 : 0 < q := by rw [hq]; exact pos_div21 hN0p hx2 hr
        have hqN : q < N := by rw [hq]; exact div_lt21 hN0p hx2
        have hq64 : q < 18446744073709551616 := by omega
        have KW := Lib.hid (fun w => Apower_c d q m w hd hq64 HM0.out HM.out)
        obtain ⟨R, hR⟩ : ∃ R, R = d ^ q % m := ⟨_, rfl⟩
        rw [← hR] at KW
        have hR64 : R < 18446744073709551616 := by rw [hR]; have := Nat.mod_lt (d ^ q) HM0.out; have := HM.out; omega
        by_cases hRU : R = U
        · have HON : Hid (ordP d m x q = T) := Lib.hid (by rw [← hTN.out, ordP_on hx2 hN0p ⟨hr, by rw [← hq, ← hR, hRU]; exact HU.out⟩, hq])
          have hru : ((R : Int) == (U : Int)) = true := by rw [hRU]; exact beq_self_eq_true _
          have HQN := Lib.hid hqN
          have hqN0 : q ≤ N0 := by omega
          have hc0 : (wr.cell? ⟨w1.heap.size, 0, none⟩).isSome = true := by rw [hc]; rfl
          clear hq hR hRU hr hqN hTN HT
          gi_wp2
          refine region_inRound (F := Fence.wide) (L := _) (by kernel_rfl) (by kernel_rfl) (by kernel_rfl) ?_
          repeat (gi_big_quiet_step (first | (gi_at_call 54; refine CallsIn.quiet_of_same (callsIn_wide.2 ((KW.out _).mono fun _ _ h => ⟨h.1, h.2.symm⟩)))))
          refine wpQuietIn_nil ?_
          intro _ hw'
          obtain ⟨nq, hw''⟩ := hw'
          subst hw''
          have hcq : (wr.drewN nq).cell? ⟨w1.heap.size, 0, none⟩ = some (.int .u64 (N : Nat)) := hc
          have hfq : (wr.drewN nq).frozen? ⟨w1.heap.size, 0, none⟩ = false := hf
          have hcdq : (wr.drewN nq).cell? ⟨w.heap.size, 0, none⟩ = some (.int .u64 (d : Nat)) := hcd
          have hcmq : (wr.drewN nq).cell? ⟨w.heap.size + 1, 0, none⟩ = some (.int .u64 (m : Nat)) := hcm
          have hc0q : ((wr.drewN nq).cell? ⟨w1.heap.size, 0, none⟩).isSome = true := hc0
          have hBq : Below w.heap.size w (wr.drewN nq) := below_drewN hB _
          have hBWq : Below w.heap.size W (wr.drewN nq) := below_drewN hBW _
          have hKq : KeepsOthers W (wr.drewN nq) := keeps_drewN hKO nq
          generalize wr.drewN nq = wq at *
          gi_wp2
          go_roundw
          case rel =>
            refine ⟨q, hq0, hqN0, World.cell?_setCell_same' _ _ _ hc0q, by rw [World.frozen?_setCell]; exact hfq, ?_, ?_, HON, hBq.setCell (p := ⟨w1.heap.size, 0, none⟩) (by show w.heap.size ≤ w1.heap.size; omega) _, hBWq.setCell (p := ⟨w1.heap.size, 0, none⟩) (by show w.heap.size ≤ w1.heap.size; omega) _, hKq.trans (KeepsOthers.setCell _ _ _)⟩
            · exact (World.cell?_setCell_far _ _ _ _ (by show w1.heap.size ≠ w.heap.size; omega)).trans hcdq
            · exact (World.cell?_setCell_far _ _ _ _ (by show w1.heap.size ≠ w.heap.size + 1; omega)).trans hcmq
          case measure =>
            rw [World.cell?_setCell_same' _ _ _ hc0q, hc]
            have := HQN.out
            simp only [Int.toNat_natCast]
            omega
        · have hru : ((R : Int) == (U : Int)) = false := by rw [beq_eq_false_iff_ne]; omega
          have HTT : Hid (N = T) := Lib.hid (by rw [← hTN.out, ordP_stop (fun c => hRU (by rw [hR, hq]; exact c.2.trans HU.out.symm))])
          clear hq hR hr hqN hTN
          gi_wp2
          refine region_inRound (F := Fence.wide) (L := _) (by kernel_rfl) (by kernel_rfl) (by kernel_rfl) ?_
          repeat (gi_big_quiet_step (first | (gi_at_call 54; refine CallsIn.quiet_of_same (callsIn_wide.2 ((KW.out _).mono fun _ _ h => ⟨h.1, h.2.symm⟩)))))
          refine wpQuietIn_nil ?_
          intro _ hw'
          obtain ⟨nq, hw''⟩ := hw'
          subst hw''
          gi_wp2
          exact ⟨keeps_drewN hKO nq, below_drewN hBW nq, ⟨⟨⟨by rw [← HT.out, ← HTT.out]; exact hc, hf⟩, hcd, hcm⟩, below_drewN hB nq⟩⟩
      · obtain ⟨r, hrr⟩ : ∃ r, r = N % x := ⟨_, rfl⟩
        rw [← hrr] at r1 r2 hr
        obtain ⟨y1, y2⟩ := eqz21 hr
        have hr64 : r < 18446744073709551616 := by rw [hrr]; exact Nat.lt_of_le_of_lt (Nat.mod_le _ _) (by omega)
        have HTT : Hid (N = T) := Lib.hid (by rw [← hTN.out, ordP_stop (fun c => hr (by rw [hrr]; exact c.1))])
        clear hrr hTN
        gi_wp2
        refine region_inRound (F := Fence.wide) (L := _) (by kernel_rfl) (by kernel_rfl) (by kernel_rfl) ?_
        repeat (gi_big_quiet_step (fail))
        refine wpQuietIn_nil ?_
        intro _ hw'
        obtain ⟨nq, hw''⟩ := hw'
        subst hw''
        gi_wp2
        exact ⟨keeps_drewN hKO nq, below_drewN hBW nq, ⟨⟨⟨by rw [← HT.out, ← HTT.out]; exact hc, hf⟩, hcd, hcm⟩, below_drewN hB nq⟩⟩
  case done =>
    rintro D ys W hD hys ⟨⟨⟨hc, _⟩, _, _⟩, hB⟩ hK
    rw [hys] at hc
    have HO : Hid (ordL d m N0 (primesN N0) = ordN d m) := Lib.hid (by unfold ordN; rw [← HN0.out])
    have hle := (ord_map (d := d) (m := m) hph.1 ys).2
    rw [hys] at hle
    generalize ordL d m N0 (primesN N0) = O at *
    have hO32 : O < 4294967296 := by omega
    gi_wp2
    refine ⟨by simp, .inl ⟨_, _, rfl, run_takeDeferred hK, ?_⟩⟩
    exact ⟨_, results_tmp rfl _ _ _, by rw [← HO.out]; rfl, hB.trans (belowK_b (w := w) (Nat.le_refl _) W D _ _ (by simp at hD; omega) hK rfl rfl)⟩
  case stop =>
    rintro D c pre W _ _ h _
    exact h.elim
theorem Aorder_c (d m : Nat) (w : World) (hd : d < 18446744073709551616) (hm0 : 0 < m) (hm : m < 4294967296) :
    Calls Try.prog 56 #[.int .u64 (d : Nat), .int .u64 (m : Nat)] w fun e w' => e = .returned (.int .i64 (ordN d m : Nat)) ∧ Below w.heap.size w w' := callsIn_wide.1 (Aorder_in d m w hd hm0 hm)
end Go.Proofs.Ytfoldiieclfbgaa
set_option linter.unusedVariables false
namespace Go.Proofs.Ytfoldiieclfbgaa

theorem low_mod (n d : Nat) : lowNum (n % d) d = lowNum n d ∧ lowDen (n % d) d = lowDen n d := by
  unfold lowNum lowDen
  rw [Nat.mod_mod]
  exact ⟨rfl, rfl⟩
theorem low_mul_mod (n k d : Nat) : lowNum (n * (k % d)) d = lowNum (n * k) d ∧ lowDen (n * (k % d)) d = lowDen (n * k) d := by
  unfold lowNum lowDen
  rw [show n * (k % d) % d = n * k % d by rw [Nat.mul_mod, Nat.mod_mod, ← Nat.mul_mod]]
  exact ⟨rfl, rfl⟩
theorem low_scale {n d g : Nat} (hg : 0 < g) : lowNum (n * g) (d * g) = lowNum n d ∧ lowDen (n * g) (d * g) = lowDen n d := by
  unfold lowNum lowDen
  rw [Nat.mul_mod_mul_right, Nat.gcd_mul_right]
  exact ⟨Nat.mul_div_mul_right _ _ hg, Nat.mul_div_mul_right _ _ hg⟩
/-- The sum over the least common denominator is the sum over the product. -/
theorem low_add {a b c d : Nat} (hb : 0 < b) (hd : 0 < d) :
    lowNum (a * d + c * b) (b * d) = lowNum ((a * (d / Nat.gcd b d) + c * (b / Nat.gcd b d)) % (b / Nat.gcd b d * d)) (b / Nat.gcd b d * d) ∧
    lowDen (a * d + c * b) (b * d) = lowDen ((a * (d / Nat.gcd b d) + c * (b / Nat.gcd b d)) % (b / Nat.gcd b d * d)) (b / Nat.gcd b d * d) := by
  have hg := Nat.gcd_pos_of_pos_left d hb
  obtain ⟨x, hx⟩ := Nat.gcd_dvd_left b d
  obtain ⟨y, hy⟩ := Nat.gcd_dvd_right b d
  generalize hG : Nat.gcd b d = g at *
  have e1 : b / g = x := by rw [hx]; exact Nat.mul_div_cancel_left _ hg
  have e2 : d / g = y := by rw [hy]; exact Nat.mul_div_cancel_left _ hg
  rw [e1, e2, (low_mod _ _).1, (low_mod _ _).2]
  have e3 : a * d + c * b = (a * y + c * x) * g := by rw [hx, hy, Nat.add_mul, Nat.mul_comm g y, Nat.mul_comm g x, Nat.mul_assoc, Nat.mul_assoc]
  have e4 : b * d = x * d * g := by rw [hx, Nat.mul_comm g x, Nat.mul_assoc, Nat.mul_comm g d, Nat.mul_assoc]
  rw [e3, e4]
  exact low_scale hg
/-- -1, 0 or 1. -/
@[irreducible] def cmp21 (x y : Nat) : Int := if x < y then -1 else if y < x then 1 else 0
theorem cmp21_lt {x y : Nat} (h : x < y) : cmp21 x y = -1 := by unfold cmp21; rw [if_pos h]
theorem cmp21_gt {x y : Nat} (h : y < x) : cmp21 x y = 1 := by unfold cmp21; rw [if_neg (by omega), if_pos h]
theorem cmp21_eq (x : Nat) : cmp21 x x = 0 := by unfold cmp21; rw [if_neg (by omega), if_neg (by omega)]
/-- Two fractions in lowest terms with one cross product are one. -/
theorem cross {a b c d : Nat} (hb : 0 < b) (hd : 0 < d) (h1 : Nat.gcd a b = 1) (h2 : Nat.gcd c d = 1) (h : a * d = c * b) : a = c ∧ b = d := by
  have e1 : b ∣ d := by
    have : b ∣ a * d := ⟨c, by rw [h, Nat.mul_comm]⟩
    exact (Nat.Coprime.dvd_of_dvd_mul_left (show Nat.Coprime b a by unfold Nat.Coprime; rw [Nat.gcd_comm]; exact h1) this)
  have e2 : d ∣ b := by
    have : d ∣ c * b := ⟨a, by rw [← h, Nat.mul_comm]⟩
    exact (Nat.Coprime.dvd_of_dvd_mul_left (show Nat.Coprime d c by unfold Nat.Coprime; rw [Nat.gcd_comm]; exact h2) this)
  have e3 : b = d := Nat.dvd_antisymm e1 e2
  subst e3
  exact ⟨Nat.eq_of_mul_eq_mul_right hb h, rfl⟩
theorem mul31 {a b : Nat} (ha : a ≤ 2147483647) (hb : b ≤ 2147483647) : a * b ≤ 4611686014132420609 := Nat.mul_le_mul ha hb
end Go.Proofs.Ytfoldiieclfbgaa
set_option linter.unusedVariables false
namespace Go.Proofs.Ytfoldiieclfbgaa

/-- Fractions are compared as whole numbers over a common denominator. -/
theorem sc_lt {n d m e M : Nat} (hM : 0 < M) (h : d ∣ M) (h' : e ∣ M) : n * e < m * d ↔ n * (M / d) < m * (M / e) := by
  obtain ⟨k, hk⟩ := h
  obtain ⟨j, hj⟩ := h'
  have hd : 0 < d := Nat.pos_of_ne_zero fun c => by rw [c, Nat.zero_mul] at hk; omega
  have he : 0 < e := Nat.pos_of_ne_zero fun c => by rw [c, Nat.zero_mul] at hj; omega
  have e1 : M / d = k := by rw [hk]; exact Nat.mul_div_cancel_left _ hd
  have e2 : M / e = j := by rw [hj]; exact Nat.mul_div_cancel_left _ he
  rw [e1, e2]
  have f1 : n * k * (d * e) = n * e * M := by rw [hk]; simp only [Nat.mul_comm, Nat.mul_left_comm]
  have f2 : m * j * (d * e) = m * d * M := by rw [hj]; simp only [Nat.mul_comm, Nat.mul_left_comm]
  have g1 : n * k * (d * e) < m * j * (d * e) ↔ n * k < m * j := Nat.mul_lt_mul_right (Nat.mul_pos hd he)
  have g2 : n * e * M < m * d * M ↔ n * e < m * d := Nat.mul_lt_mul_right hM
  rw [← g1, ← g2, f1, f2]
/-- A sum in lowest terms, over a common denominator. -/
theorem sc_sum {a b c d M : Nat} (hb : 0 < b) (hd : 0 < d) (hM : 0 < M) (h : b * d ∣ M) :
    lowDen (a * d + c * b) (b * d) ∣ M ∧ lowNum (a * d + c * b) (b * d) * (M / lowDen (a * d + c * b) (b * d)) = (a * (M / b) + c * (M / d)) % M := by
  obtain ⟨k, hk⟩ := h
  have hD : 0 < b * d := Nat.mul_pos hb hd
  have e1 : M / b = d * k := by rw [hk, Nat.mul_assoc]; exact Nat.mul_div_cancel_left _ hb
  have e2 : M / d = b * k := by rw [hk, Nat.mul_comm b d, Nat.mul_assoc]; exact Nat.mul_div_cancel_left _ hd
  have e3 : a * (M / b) + c * (M / d) = (a * d + c * b) * k := by rw [e1, e2, Nat.add_mul, Nat.mul_assoc, Nat.mul_assoc]
  rw [e3]
  generalize a * d + c * b = N at *
  generalize b * d = D at *
  unfold lowNum lowDen
  rw [hk, Nat.mul_mod_mul_right]
  generalize N % D = r at *
  have hg : 0 < Nat.gcd r D := Nat.gcd_pos_of_pos_right _ hD
  obtain ⟨x, hx⟩ := Nat.gcd_dvd_left r D
  obtain ⟨y, hy⟩ := Nat.gcd_dvd_right r D
  generalize Nat.gcd r D = g at *
  have hy0 : 0 < y := Nat.pos_of_ne_zero fun c => by rw [c, Nat.mul_zero] at hy; omega
  subst hx
  subst hy
  rw [Nat.mul_div_cancel_left _ hg, Nat.mul_div_cancel_left _ hg]
  refine ⟨⟨g * k, by rw [Nat.mul_comm g y, Nat.mul_assoc]⟩, ?_⟩
  rw [show g * y * k = y * (g * k) by rw [Nat.mul_comm g y, Nat.mul_assoc], Nat.mul_div_cancel_left _ hy0]
  simp only [Nat.mul_comm, Nat.mul_left_comm]
/-- Between, of whole numbers. -/
def btw (a x b : Nat) : Bool := if a < b then decide (a < x) && decide (x < b) else if b < a then decide (a < x) || decide (x < b) else !decide (x = a)
theorem btw_other {a x b : Nat} (h1 : a ≠ x) (h2 : x ≠ b) (h3 : a ≠ b) : btw a x b = !btw b x a := by
  unfold btw
  rcases Nat.lt_or_gt_of_ne h3 with h | h
  · rw [if_pos h, if_neg (by omega), if_pos h]
    by_cases p : a < x <;> by_cases q : x < b <;> simp [p, q] <;> omega
  · rw [if_neg (by omega), if_pos h, if_pos h]
    by_cases p : a < x <;> by_cases q : x < b <;> simp [p, q] <;> omega
theorem turn_on {a y M : Nat} (ha : a < M) (hy : y < M) : ((a + y) % M = a + y ∧ a + y < M) ∨ ((a + y) % M = a + y - M ∧ M ≤ a + y) := by
  by_cases h : a + y < M
  · exact Or.inl ⟨Nat.mod_eq_of_lt h, h⟩
  · refine Or.inr ⟨?_, by omega⟩
    rw [Nat.mod_eq_sub_mod (by omega), Nat.mod_eq_of_lt (by omega)]
theorem btw_on {a x b y M : Nat} (ha : a < M) (hx : x < M) (hb : b < M) (hy : y < M) : btw ((a + y) % M) ((x + y) % M) ((b + y) % M) = btw a x b := by
  have h1 := turn_on ha hy
  have h2 := turn_on hx hy
  have h3 := turn_on hb hy
  generalize (a + y) % M = A at *
  generalize (x + y) % M = X at *
  generalize (b + y) % M = B at *
  rw [Bool.eq_iff_iff]
  unfold btw
  split <;> split <;> (try split) <;> (try split) <;> simp only [Bool.and_eq_true, Bool.or_eq_true, decide_eq_true_eq, Bool.not_eq_true', decide_eq_false_iff_not] <;> rcases h1 with ⟨h1, k1⟩ | ⟨h1, k1⟩ <;> rcases h2 with ⟨h2, k2⟩ | ⟨h2, k2⟩ <;> rcases h3 with ⟨h3, k3⟩ | ⟨h3, k3⟩ <;> subst h1 <;> subst h2 <;> subst h3 <;> omega
end Go.Proofs.Ytfoldiieclfbgaa
set_option linter.unusedSimpArgs false
set_option linter.unusedVariables false
namespace Go.Proofs.Ytfoldiieclfbgaa
open Go Go.RowKit Nt

set_option maxRecDepth 100000 in
set_option maxHeartbeats 400000 in
theorem rSmall_c (n : Nat) (w : World) (hf : fits n) (hz : (natS n).size ≤ 9223372036854775807) :
    Calls Try.prog 49 #[.string (natS n)] w fun e w' => e = .returned (.tuple #[.int .u64 (brN n : Nat), .bool (brB n)]) ∧ w = w' := by
  have hsz := natS_size n
  have hmay := Lib.hid (fun w => rMay_c (natS n) w hz)
  have hmb := mayB_yes ((may_natS n).2 hf)
  unfold fits at hf
  by_cases h : nd 256 n ≤ 8
  · have HB := Lib.hid (brB_yes h)
    have HN := Lib.hid (brN_yes h)
    have hlt8 : n < 18446744073709551616 := br_lt.1 h
    have HL := Lib.hid hlt8
    have h8 : ¬ 8 < nd 256 n := by omega
    clear hlt8 hz
    go_enter Try.func49, Try.ntmps49
    go_wp2_with (go_at_call 77; refine (hmay.out _).mono ?_; rintro e w' ⟨rfl, rfl⟩)
    go_loop [4, 5] (fun v i => ∃ k : Nat, k ≤ nd 256 n ∧ i = .int .i64 k ∧ v = .int .u64 (preN n k : Nat)) (fun _ i => nd 256 n - (intOf i).toNat)
    case atStart => exact ⟨0, Nat.zero_le _, rfl, by rw [preN_zero]; rfl⟩
    case round =>
      obtain ⟨k, hk, rfl, rfl⟩ := hrel
      by_cases hlt : k < nd 256 n
      · have hks : k < (natS n).size := by omega
        have e := natS_get n k hks
        have es := preN_succ n k hlt
        have hp1 := preN_le n (k + 1)
        have hHL := HL.out
        have hb := (natS n)[k].toNat_lt
        have e1 : IntKind.u64.wrap (256 * (preN n k : Nat)) = ((256 * preN n k : Nat) : Int) := by rw [IntKind.wrap_u64]; omega
        have e2 : IntKind.u64.wrap (((natS n)[k].toNat : Nat) : Int) = (((natS n)[k].toNat : Nat) : Int) := by rw [IntKind.wrap_u64]; omega
        have e3 : IntKind.u64.wrap (256 * (preN n k : Int) + (((natS n)[k].toNat : Nat) : Int)) = ((preN n (k + 1) : Nat) : Int) := by rw [IntKind.wrap_u64]; omega
        have E := Lib.hid e
        have ES := Lib.hid es
        clear e es hp1 hHL
        go_wp2
        go_round
        case rel => exact ⟨k + 1, by omega, by go_num, by first | rfl | rw [e3]⟩
        case measure => simp [intOf]; omega
      · obtain rfl : k = nd 256 n := by omega
        rw [preN_full]
        go_wp2
        go_ret2
        exact ⟨by rw [HB.out, HN.out]; rfl, rfl⟩
  · have HB := Lib.hid (brB_no h)
    have HN := Lib.hid (brN_no h)
    have h8 : 8 < nd 256 n := by omega
    have h8I : (8 : Int) < (nd 256 n : Int) := by omega
    clear hz
    go_enter Try.func49, Try.ntmps49
    go_wp2_with (go_at_call 77; refine (hmay.out _).mono ?_; rintro e w' ⟨rfl, rfl⟩)
    go_ret2
    exact ⟨by rw [HB.out, HN.out]; rfl, rfl⟩
set_option maxRecDepth 100000 in
theorem rSmall_no (s : ByteArray) (w : World) (hz : s.size ≤ 9223372036854775807) (h : ¬ May s) :
    Calls Try.prog 49 #[.string s] w fun e w' => e = .returned (.tuple #[.int .u64 0, .bool false]) ∧ w = w' := by
  have hmay := Lib.hid (fun w => rMay_c s w hz)
  have hmb := mayB_no h
  clear h
  go_enter Try.func49, Try.ntmps49
  go_wp2_with (go_at_call 77; refine (hmay.out _).mono ?_; rintro e w' ⟨rfl, rfl⟩)
  go_ret2
  exact ⟨rfl, rfl⟩
end Go.Proofs.Ytfoldiieclfbgaa
