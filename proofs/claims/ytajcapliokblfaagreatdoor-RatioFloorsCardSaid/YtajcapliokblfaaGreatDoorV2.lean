/- Texts put together: N16 N17 N18 N19 N20 N21 P2 P3 P4 P10 N23 N54 N55 N56 N57 N58 N24 N59 N60. -/
import Derived.Test.YtajcapliokblfaaGreatDoorV1
import Derived.Laws.AppendOwn
import Derived.Deep.LoopGhost
import Derived.Maps.AppendAt
import Derived.Deep.RegionHeld3
import Derived.Laws.CopyOwn
import Derived.Laws.AppendOwnNone
set_option linter.unusedSimpArgs false
set_option linter.unusedVariables false
namespace Go.Proofs.YtajcapliokblfaaGreatDoor
open Go Go.RowKit Nt
@[irreducible] def brB (n : Nat) : Bool := decide (nd 256 n ≤ 8)
@[irreducible] def brN (n : Nat) : Nat := if nd 256 n ≤ 8 then n else 0
theorem brB_yes {n : Nat} (h : nd 256 n ≤ 8) : brB n = true := by unfold brB; exact decide_eq_true h
theorem brB_no {n : Nat} (h : ¬ nd 256 n ≤ 8) : brB n = false := by unfold brB; exact decide_eq_false h
theorem brN_yes {n : Nat} (h : nd 256 n ≤ 8) : brN n = n := by unfold brN; rw [if_pos h]
theorem brN_no {n : Nat} (h : ¬ nd 256 n ≤ 8) : brN n = 0 := by unfold brN; rw [if_neg h]
theorem br_lt {n : Nat} : nd 256 n ≤ 8 ↔ n < 18446744073709551616 := by
  rw [← lt_pow_iff (by omega)]
/-- The value of the bytes ahead of the place k. -/
@[irreducible] def preN (n k : Nat) : Nat := n / 256 ^ (nd 256 n - k)
theorem preN_zero (n : Nat) : preN n 0 = 0 := by unfold preN; rw [Nat.sub_zero]; exact Nat.div_eq_of_lt (lt_nd (by omega))
theorem preN_full (n : Nat) : preN n (nd 256 n) = n := by unfold preN; rw [Nat.sub_self, Nat.pow_zero, Nat.div_one]
theorem preN_succ (n k : Nat) (h : k < nd 256 n) : preN n (k + 1) = 256 * preN n k + dgt 256 n (nd 256 n - 1 - k) := by
  unfold preN
  obtain ⟨m, hm⟩ : ∃ m, nd 256 n = k + 1 + m := ⟨nd 256 n - k - 1, by omega⟩
  rw [hm, show k + 1 + m - (k + 1) = m by omega, show k + 1 + m - k = m + 1 by omega, show k + 1 + m - 1 - k = m by omega, div_eq_dgt (by omega) n m, Nat.add_comm]
theorem preN_le (n k : Nat) : preN n k ≤ n := by unfold preN; exact Nat.div_le_self _ _
set_option maxRecDepth 100000 in
set_option maxHeartbeats 400000 in
theorem brief_c (n : Nat) (w : World) (hf : fits n) :
    Calls Tryz.prog 137 #[.string (natS n)] w fun e w' => e = .returned (.tuple #[.int .u64 (brN n : Nat), .bool (brB n)]) ∧ w = w' := by
  have hsz := natS_size n
  unfold fits at hf
  by_cases h : nd 256 n ≤ 8
  · have HB := Lib.hid (brB_yes h)
    have HN := Lib.hid (brN_yes h)
    have hlt8 : n < 18446744073709551616 := br_lt.1 h
    have HL := Lib.hid hlt8
    have h8 : ¬ 8 < nd 256 n := by omega
    clear hlt8
    go_enter Tryz.func137, Tryz.ntmps137
    go_wp2
    go_loop [2, 10] (fun v i => ∃ k : Nat, k ≤ nd 256 n ∧ i = .int .i64 k ∧ v = .int .u64 (preN n k : Nat)) (fun _ i => nd 256 n - (intOf i).toNat)
    case atStart => exact ⟨0, Nat.zero_le _, rfl, by rw [preN_zero]; rfl⟩
    case round =>
      obtain ⟨k, hk, rfl, rfl⟩ := hrel
      by_cases hlt : k < nd 256 n
      · have hks : k < (natS n).size := by omega
        have e := natS_get n k hks
        have es := preN_succ n k hlt
        have hp1 := preN_le n (k + 1)
        have hHL := HL.out
        have hv : bits .or .u64 (IntKind.u64.wrap ((preN n k : Nat) * 256)) (IntKind.u64.wrap (((natS n)[k].toNat : Nat) : Int)) = ((preN n (k + 1) : Nat) : Int) := by
          have hb := (natS n)[k].toNat_lt
          have e1 : IntKind.u64.wrap ((preN n k : Nat) * 256) = ((256 * preN n k : Nat) : Int) := by rw [IntKind.wrap_u64]; omega
          have e2 : IntKind.u64.wrap (((natS n)[k].toNat : Nat) : Int) = (((natS n)[k].toNat : Nat) : Int) := by rw [IntKind.wrap_u64]; omega
          rw [e1, e2, bits_or_u64_nat _ _ (by omega) (by omega), es, ← e]
          have := or_hi (preN n k) (natS n)[k].toNat 8 hb
          exact congrArg Int.ofNat this
        have HV := Lib.hid hv
        have E := Lib.hid e
        have ES := Lib.hid es
        clear e es hv hp1 hHL
        go_wp2
        go_round
        case rel => exact ⟨k + 1, by omega, by go_num, by rw [HV.out]⟩
        case measure => simp [intOf]; omega
      · obtain rfl : k = nd 256 n := by omega
        rw [preN_full]
        go_wp2
        go_ret2
        exact ⟨by rw [HB.out, HN.out]; rfl, rfl⟩
  · have HB := Lib.hid (brB_no h)
    have HN := Lib.hid (brN_no h)
    have h8 : 8 < nd 256 n := by omega
    go_enter Tryz.func137, Tryz.ntmps137
    go_wp2
    go_ret2
    exact ⟨by rw [HB.out, HN.out]; rfl, rfl⟩
/-- The cells of the array when k bytes stand at its end. -/
def ofF (n k j : Nat) : Nat := if 8 - k ≤ j ∧ j < 8 then dgt 256 n (7 - j) else 0
theorem ofF_step (n k i j : Nat) (h : i + (k + 1) = 8) (hj : j < 8) : (if j = i then dgt 256 n k else ofF n k j) = ofF n (k + 1) j := by
  unfold ofF
  by_cases h1 : j = i
  · rw [if_pos h1, if_pos (by omega)]; congr 1; omega
  · rw [if_neg h1]
    by_cases h2 : 8 - k ≤ j ∧ j < 8
    · rw [if_pos h2, if_pos (by omega)]
    · rw [if_neg h2, if_neg (by omega)]
theorem add_plainO (g k j : Nat) : (⟨g, k, none⟩ : Addr).add j = ⟨g, k + j, none⟩ := by
  unfold Addr.add; split
  · rename_i h; subst h; rfl
  · simp
theorem neqz_true {x : Nat} (h : x ≠ 0) : (((x : Nat) : Int) != 0) = true := by rw [bne_iff_ne]; omega
theorem neqz_false {x : Nat} (h : x = 0) : (((x : Nat) : Int) != 0) = false := by subst h; rfl
theorem arr_slice (g j : Nat) (h : j ≤ 8) : ∃ A : Option Addr, ((8 - j ≠ 0 → A = some ⟨g, j, none⟩) ∧ ∃ ad, A = some ad) ∧ ∀ w, (Instr.sliceAt 148 (.pointer (some ⟨g, 0, none⟩)) (some (.int .i64 j)) none none).run Tryz.prog w = .ok (.slice A (8 - j) (8 - j)) w := by
  refine ⟨if 8 = j then some ⟨g, 0, none⟩ else some ⟨g, j, none⟩, ⟨fun h0 => by rw [if_neg (by omega)], by split <;> exact ⟨_, rfl⟩⟩, fun w => ?_⟩
  have hal : Tryz.prog.arrayLen 148 = 8 := by kernel_rfl
  have ht : Tryz.prog.underlying 148 = some (.array (Tryz.prog.arrayLen 148) (Tryz.prog.elem 148)) := by kernel_rfl
  have he : Tryz.prog.elem 148 = 5 := by kernel_rfl
  rw [run_sliceAt_array_l w 148 ⟨g, 0, none⟩ ht .i64 _ (by omega) (by rw [hal]; omega), he, Tryz.sizeOf5 w, hal]
  simp only [Result.andThen, slicedAt, Int.toNat_natCast]
  by_cases h1 : 8 = j
  · rw [if_pos h1, if_pos h1]
  · rw [if_neg h1, if_neg h1, Nat.mul_one, add_plain0]
set_option maxRecDepth 100000 in
set_option maxHeartbeats 400000 in
theorem Of_n (n : Nat) (w : World) (hn : n < 18446744073709551616) :
    Calls Tryz.prog 74 #[.int .u64 (n : Nat)] w fun e w' => e = .returned (.string (natS n)) ∧ Below w.heap.size w w' := by
  have H8 := Lib.hid (br_lt.2 hn)
  have HN := Lib.hid hn
  clear hn
  go_enter Tryz.func74, Tryz.ntmps74
  go_wp2
  have h0 : (#[Value.int IntKind.u8 0, Value.int IntKind.u8 0, Value.int IntKind.u8 0, Value.int IntKind.u8 0, Value.int IntKind.u8 0, Value.int IntKind.u8 0, Value.int IntKind.u8 0, Value.int IntKind.u8 0] : Array Value) = fcells .u8 (ofF n 0) 8 := by
    rw [fcells_congr (f' := fun _ => 0) (fun j hj => by unfold ofF; rw [if_neg (by omega)])]; rfl
  rw [h0]
  have HB0 := Lib.hid (Blk.new w 148 (fcells .u8 (ofF n 0) 8))
  have hbl : Below w.heap.size w (w.alloc (.cells (fcells .u8 (ofF n 0) 8) 148)) := (Below.refl _ _).alloc (Nat.le_refl _) _
  generalize w.alloc (.cells (fcells .u8 (ofF n 0) 8) 148) = w1 at *
  obtain ⟨g, hg⟩ : ∃ g, g = w.heap.size := ⟨_, rfl⟩
  rw [← hg] at HB0 hbl ⊢
  have HG := Lib.hid hg
  clear hg h0
  go_loopw [0, 4] (fun x i wr => ∃ (k m j : Nat), x = .int .u64 m ∧ i = .int .i64 j ∧ Hid (j + k = 8) ∧ Hid (m = n / 256 ^ k) ∧ Hid (k ≤ nd 256 n) ∧ Hid (Blk wr g 148 (fcells .u8 (ofF n k) 8)) ∧ Below g w wr) (fun _ i _ => (intOf i).toNat)
  case atStart => exact ⟨0, n, 8, rfl, rfl, Lib.hid rfl, Lib.hid (by rw [Nat.pow_zero, Nat.div_one]), Lib.hid (Nat.zero_le _), HB0, hbl⟩
  case round =>
    obtain ⟨k, m, j, rfl, rfl, hj, hm, hk, hblk, hb⟩ := hrel
    by_cases h0 : m = 0
    · have hz := neqz_false h0
      have hnd : nd 256 n = k := by
        have h1 := hm.out
        rw [h0] at h1
        have h2 : n < 256 ^ k := by
          rcases Nat.lt_or_ge n (256 ^ k) with h | h
          · exact h
          · have := Nat.div_pos h (Nat.pow_pos (n := k) (show 0 < 256 by omega)); omega
        have := nd_le (b := 256) (by omega) h2
        have := hk.out; omega
      have HND := Lib.hid hnd
      obtain ⟨A, hA, hsl⟩ := arr_slice g j (by have := hj.out; omega)
      have hcv : ∀ W, W = wr → (convert 64 22 (.slice A (8 - j) (8 - j))).run Tryz.prog W = .ok (.string (natS n)) W := by
        rintro W rfl
        have hl : ((dl 256 n (nd 256 n)).reverse.map UInt8.ofNat).length = 8 - j := by simp [dl_length, hnd]; have := hj.out; omega
        rcases Nat.eq_zero_or_pos k with hk0 | hk0
        · have e0 : (dl 256 n (nd 256 n)).reverse.map UInt8.ofNat = [] := by rw [hnd, hk0]; rfl
          have h8 : 8 - j = 0 := by have := hj.out; omega
          obtain ⟨ad, rfl⟩ := hA.2
          have h := run_convert_bytes_back (P := Tryz.prog) W 64 22 5 ad (8 - j) ((dl 256 n (nd 256 n)).reverse.map UInt8.ofNat) Tryz.underlying64 Tryz.underlying5 Tryz.underlying22 (fun i hi => by rw [hl] at hi; omega)
          rw [hl, ← natS_def] at h
          exact h
        · obtain rfl := hA.1 (by have := hj.out; omega)
          have h := run_convert_bytes_back (P := Tryz.prog) W 64 22 5 ⟨g, j, none⟩ (8 - j) ((dl 256 n (nd 256 n)).reverse.map UInt8.ofNat) Tryz.underlying64 Tryz.underlying5 Tryz.underlying22 (fun i hi => by
            have hi' : i < 8 - j := by rw [← hl]; exact hi
            rw [add_plainO, hblk.out.cell, fcells_get _ _ _ _ (by omega)]
            have e := natS_get n i (by rw [natS_size, hnd]; have := hj.out; omega)
            rw [ba_get] at e
            simp only [natS_def] at e
            rw [List.getElem_toArray] at e
            rw [e]
            unfold ofF
            have hj' := hj.out
            rw [if_pos (by omega), hnd, show 7 - (j + i) = k - 1 - i by omega])
          rw [hl, ← natS_def] at h
          exact h
      have hcv' := hcv wr rfl
      have hmz := Lib.hid h0
      clear hcv h0 hnd
      go_wp2
      go_ret
      exact ⟨rfl, by rw [← HG.out]; exact hb⟩
    · have hz := neqz_true h0
      have hnd : k < nd 256 n := by
        rcases Nat.lt_or_ge k (nd 256 n) with h | h
        · exact h
        · have := (lt_pow_iff (b := 256) (by omega) k n).2 h
          have h2 := hm.out
          rw [Nat.div_eq_of_lt this] at h2; omega
      obtain ⟨i, hi⟩ : ∃ i, j = i + 1 := ⟨j - 1, by have := hj.out; have := H8.out; omega⟩
      subst hi
      have hi8 : i < 8 := by have := hj.out; omega
      have hij : ((i : Int) + 1) - 1 = (i : Int) := by omega
      have hfz := hblk.out.frozen i
      have hck := hblk.out.cell i
      rw [fcells_get _ _ _ _ hi8] at hck
      have hv : IntKind.u8.wrap (m : Int) = ((dgt 256 n k : Nat) : Int) := by rw [wrap_u8, hm.out, dgt_def]
      have hm2 : (m : Int) / 256 = ((m / 256 : Nat) : Int) := by omega
      obtain ⟨m', hm'⟩ : ∃ m', m' = m / 256 := ⟨_, rfl⟩
      rw [← hm'] at hm2
      have HM' : Hid (m' = n / 256 ^ (k + 1)) := Lib.hid (by rw [hm', hm.out, Nat.pow_succ, Nat.div_div_eq_div_mul])
      have HB1 := Lib.hid (hblk.out.set_ i (.int .u8 (dgt 256 n k : Nat)))
      rw [fcells_set, fcells_congr (f' := ofF n (k + 1)) (fun x hx => ofF_step n k i x (by have := hj.out; omega) hx)] at HB1
      have hb1 := hb.setCell (p := ⟨g, i, none⟩) (Nat.le_refl _) (.int .u8 (dgt 256 n k : Nat))
      have HJ : Hid (i + (k + 1) = 8) := Lib.hid (by have := hj.out; omega)
      have HK : Hid (k + 1 ≤ nd 256 n) := Lib.hid (by omega)
      clear h0 hnd hm'
      go_wp2
      go_roundw
      case rel => exact ⟨k + 1, m', i, rfl, rfl, HJ, HM', HK, HB1, hb1⟩
      case measure => simp [intOf]
end Go.Proofs.YtajcapliokblfaaGreatDoor
set_option linter.unusedSimpArgs false
set_option linter.unusedVariables false
namespace Go.Proofs.YtajcapliokblfaaGreatDoor
open Go Go.RowKit Nt
/-! The order of texts. -/
def bvL (l : List UInt8) : Nat := of 256 (l.reverse.map UInt8.toNat)
theorem bvL_cons (x : UInt8) (l : List UInt8) : bvL (x :: l) = bvL l + 256 ^ l.length * x.toNat := by
  unfold bvL
  rw [List.reverse_cons, List.map_append, of_append]
  simp [of_cons, of_nil]
theorem bvL_lt (l : List UInt8) : bvL l < 256 ^ l.length := by
  have := of_lt (b := 256) (by omega) (l.reverse.map UInt8.toNat) (fun x hx => by obtain ⟨y, _, rfl⟩ := List.mem_map.1 hx; exact y.toNat_lt)
  rwa [List.length_map, List.length_reverse] at this
theorem bytesLess_iff : ∀ (l m : List UInt8), l.length = m.length → Op.bytesLess l m = decide (bvL l < bvL m)
  | [], [], _ => by simp [Op.bytesLess, bvL]
  | [], _ :: _, h => by simp at h
  | _ :: _, [], h => by simp at h
  | x :: l, y :: m, h => by
    have hl : l.length = m.length := by simpa using h
    have ih := bytesLess_iff l m hl
    have h1 := bvL_lt l
    have h2 := bvL_lt m
    rw [Op.bytesLess, ih, bvL_cons, bvL_cons, hl]
    rw [hl] at h1
    rw [Bool.eq_iff_iff, Bool.or_eq_true, Bool.and_eq_true, decide_eq_true_iff, decide_eq_true_iff, beq_iff_eq, decide_eq_true_iff, UInt8.lt_iff_toNat_lt]
    rcases Nat.lt_trichotomy x.toNat y.toNat with h3 | h3 | h3
    · have : 256 ^ m.length * (x.toNat + 1) ≤ 256 ^ m.length * y.toNat := Nat.mul_le_mul_left _ h3
      rw [Nat.mul_add] at this
      exact ⟨fun _ => by omega, fun _ => Or.inl h3⟩
    · have e : x = y := UInt8.toNat_inj.1 h3
      subst e
      constructor
      · rintro (h | ⟨_, h⟩)
        · omega
        · omega
      · intro h; exact Or.inr ⟨rfl, by omega⟩
    · have : 256 ^ m.length * (y.toNat + 1) ≤ 256 ^ m.length * x.toNat := Nat.mul_le_mul_left _ h3
      rw [Nat.mul_add] at this
      constructor
      · rintro (h | ⟨h, _⟩)
        · omega
        · subst h; omega
      · intro h; omega
theorem ba_toList (s : ByteArray) : s.toList = s.data.toList := Go.ByteArray.toList_eq s
theorem natS_less (a b : Nat) (h : nd 256 a = nd 256 b) : Op.bytesLess (natS a).toList (natS b).toList = decide (a < b) := by
  have e : ∀ n, bvL (natS n).toList = n := fun n => by rw [ba_toList]; exact bytesN_natS n
  have hl : (natS a).toList.length = (natS b).toList.length := by
    rw [ba_toList, ba_toList, Array.length_toList, Array.length_toList]
    exact (natS_size a).trans (h.trans (natS_size b).symm)
  rw [bytesLess_iff _ _ hl, e, e]
theorem natS_list_eq (a b : Nat) : (natS a).toList = (natS b).toList ↔ a = b := by
  constructor
  · intro h
    rw [ba_toList, ba_toList] at h
    exact natS_inj (ByteArray.ext (Array.toList_inj.1 h))
  · rintro rfl; rfl
theorem isNaN_nat (s : ByteArray) (w : World) :
    Calls Tryz.prog 191 #[.string s] w fun e w' => e = .returned (.bool false) ∧ w = w' := by
  go_enter Tryz.func191, Tryz.ntmps191
  go_wp2
  go_ret
  exact ⟨rfl, rfl⟩
set_option maxRecDepth 100000 in
theorem Compare_nat (a b : Nat) (w : World) (h : nd 256 a = nd 256 b) :
    Calls Tryz.prog 177 #[.string (natS a), .string (natS b)] w fun e w' => e = .returned (.int .i64 (cmpN a b)) ∧ w = w' := by
  have h1 := natS_less a b h
  have h2 : ((natS a).toList == (natS b).toList) = decide (a = b) := by
    rw [Bool.eq_iff_iff, beq_iff_eq, decide_eq_true_iff, natS_list_eq]
  rcases Nat.lt_trichotomy a b with hlt | heq | hgt
  · have e1 : decide (a < b) = true := decide_eq_true hlt
    rw [e1] at h1
    have HC := Lib.hid (cmpN_lt hlt)
    clear h2 hlt
    go_enter Tryz.func177, Tryz.ntmps177
    go_wp2_with (go_at_call 191; refine (isNaN_nat _ _).mono ?_; rintro e w' ⟨rfl, rfl⟩)
    go_ret
    exact ⟨ret_int HC.out.symm, rfl⟩
  · subst heq
    have e1 : decide (a < a) = false := decide_eq_false (by omega)
    rw [e1] at h1
    have HC := Lib.hid (cmpN_eq a)
    clear h2
    go_enter Tryz.func177, Tryz.ntmps177
    go_wp2_with (go_at_call 191; refine (isNaN_nat _ _).mono ?_; rintro e w' ⟨rfl, rfl⟩)
    go_ret
    exact ⟨ret_int HC.out.symm, rfl⟩
  · have e1 : decide (a < b) = false := decide_eq_false (by omega)
    have e2 : decide (a = b) = false := decide_eq_false (by omega)
    rw [e1] at h1
    rw [e2] at h2
    have h3 : ¬ (natS a).toList = (natS b).toList := fun c => by rw [natS_list_eq] at c; omega
    have HC := Lib.hid (cmpN_gt hgt)
    clear e1 e2
    go_enter Tryz.func177, Tryz.ntmps177
    go_wp2_with (go_at_call 191; refine (isNaN_nat _ _).mono ?_; rintro e w' ⟨rfl, rfl⟩)
    go_ret
    exact ⟨ret_int HC.out.symm, rfl⟩
theorem may2 {a b : Nat} (ha : fits a) (hb : fits b) : mayE [natS a, natS b] = 0 := mayE_ok (fun s hs => by
  rcases List.mem_cons.1 hs with rfl | hs
  · exact (may_natS a).2 ha
  · rw [List.mem_singleton.1 hs]; exact (may_natS b).2 hb)
theorem may1 {a : Nat} (ha : fits a) : mayE [natS a] = 0 := mayE_ok (fun s hs => by rw [List.mem_singleton.1 hs]; exact (may_natS a).2 ha)
set_option maxRecDepth 100000 in
theorem Small_c (n : Nat) (w : World) (hf : fits n) :
    Calls Tryz.prog 142 #[.string (natS n)] w fun e w' => e = .returned (.tuple #[.int .u64 (brN n : Nat), .bool (brB n)]) ∧ Below w.heap.size w w' := by
  have hm := may1 hf
  go_enter Tryz.func142, Tryz.ntmps142
  go_wp2_with (first | (go_at_call 58; refine (Check_c _ _).mono ?_; rintro e w1 ⟨rfl, hb⟩) | (go_at_call 137; refine (brief_c n _ hf).mono ?_; rintro e w' ⟨rfl, rfl⟩))
  go_ret2
  exact ⟨rfl, hb⟩
/-- Two integers and memory below as it was. -/
def IntPost (a b : Int) (w : World) (e : Ending) (w' : World) : Prop := e = .returned (.tuple #[.int .i64 a, .int .i64 b]) ∧ Below w.heap.size w w'
theorem compareInt_nd (a b : Nat) (h : nd 256 a ≠ nd 256 b) : Go.Lib.compareInt (nd 256 a : Nat) (nd 256 b : Nat) = cmpN a b := by
  unfold Go.Lib.compareInt
  rcases Nat.lt_or_gt_of_ne h with h1 | h1
  · rw [if_pos (by omega), cmpN_lt (lt_of_nd (by omega) h1)]
  · rw [if_neg (by omega), if_pos (by omega), cmpN_gt (lt_of_nd (by omega) h1)]
set_option maxRecDepth 100000 in
theorem NCmp_c (a b : Nat) (w : World) (ha : fits a) (hb : fits b) :
    Calls Tryz.prog 136 #[.string (natS a), .string (natS b)] w (IntPost (cmpN a b) 0 w) := by
  have hm := may2 ha hb
  have hsa := natS_size a
  have hsb := natS_size b
  by_cases h : nd 256 a = nd 256 b
  · have hz : ((nd 256 a : Int) != (nd 256 b : Int)) = false := by rw [h]; simp
    have H := Lib.hid h
    clear h
    go_enter Tryz.func136, Tryz.ntmps136
    go_wp2_with (first | (go_at_call 109; refine (all_c _ 2 [natS a, natS b] _ (by simp) (strs_new w 22 [natS a, natS b])).mono ?_; rintro e w' ⟨rfl, rfl⟩) | (go_at_call 177; refine (Compare_nat a b _ H.out).mono ?_; rintro e w' ⟨rfl, rfl⟩))
    go_ret2
    exact ⟨rfl, (Below.refl _ _).alloc (Nat.le_refl _) _⟩
  · have hz : ((nd 256 a : Int) != (nd 256 b : Int)) = true := by rw [bne_iff_ne]; omega
    have H := Lib.hid (compareInt_nd a b h)
    clear h
    go_enter Tryz.func136, Tryz.ntmps136
    go_wp2_with (first | (go_at_call 109; refine (all_c _ 2 [natS a, natS b] _ (by simp) (strs_new w 22 [natS a, natS b])).mono ?_; rintro e w' ⟨rfl, rfl⟩) | (go_at_call 176; refine (Tryz.cmp_Compare_int _ _ _).mono ?_; rintro e w' ⟨rfl, rfl⟩))
    go_ret2
    exact ⟨by rw [← H.out]; rfl, (Below.refl _ _).alloc (Nat.le_refl _) _⟩
end Go.Proofs.YtajcapliokblfaaGreatDoor
set_option linter.unusedSimpArgs false
set_option linter.unusedVariables false
namespace Go.Proofs.YtajcapliokblfaaGreatDoor
open Go Go.RowKit Nt
theorem fits_words {n : Nat} (h : fits n) : nd W n ≤ 2048 := by
  unfold fits at h; rw [← words_bytes]; omega
theorem mul_words (a b : Nat) : nd W (a * b) ≤ nd W a + nd W b := by
  refine nd_le W2 ?_
  rw [Nat.pow_add]
  have h1 := lt_nd (n := a) W2
  have h2 := lt_nd (n := b) W2
  rcases Nat.eq_zero_or_pos b with h | h
  · subst h; rw [Nat.mul_zero]; exact Nat.mul_pos (Nat.pow_pos W0) (Nat.pow_pos W0)
  · exact Nat.lt_of_lt_of_le ((Nat.mul_lt_mul_right h).2 h1) (Nat.mul_le_mul_left _ (by omega))
/-- Do two brief numbers have a brief sum? -/
@[irreducible] def bsB (a b : Nat) : Bool := brB a && brB b && decide (a + b < 18446744073709551616)
@[irreducible] def bsS (a b : Nat) : ByteArray := if bsB a b = true then natS (a + b) else ⟨#[]⟩
theorem bsB_yes {a b : Nat} (h1 : brB a = true) (h2 : brB b = true) (h3 : a + b < 18446744073709551616) : bsB a b = true := by unfold bsB; rw [h1, h2, decide_eq_true h3]; rfl
theorem bsB_no1 {a b : Nat} (h : brB a = false) : bsB a b = false := by unfold bsB; rw [h]; rfl
theorem bsB_no2 {a b : Nat} (h : brB b = false) : bsB a b = false := by unfold bsB; rw [h, Bool.and_false]; rfl
theorem bsB_no3 {a b : Nat} (h : ¬ a + b < 18446744073709551616) : bsB a b = false := by unfold bsB; rw [decide_eq_false h, Bool.and_false]
theorem bsS_yes {a b : Nat} (h : bsB a b = true) : bsS a b = natS (a + b) := by unfold bsS; rw [if_pos h]
theorem bsS_no {a b : Nat} (h : bsB a b = false) : bsS a b = ⟨#[]⟩ := by unfold bsS; rw [if_neg (by rw [h]; decide)]
theorem brB_true {n : Nat} (h : brB n = true) : nd 256 n ≤ 8 := by unfold brB at h; exact of_decide_eq_true h
/-- A text and a yes or no. -/
def StrBPost (s : ByteArray) (b : Bool) (w : World) (e : Ending) (w' : World) : Prop := e = .returned (.tuple #[.string s, .bool b]) ∧ Below w.heap.size w w'
theorem add_some (a b : Nat) : ∃ s cc : Nat, ∀ w, (callFunc 173 #[.int .u64 (brN a : Nat), .int .u64 (brN b : Nat), .int .u64 0]).run Tryz.prog w = .ok (.value (.tuple #[.int .u64 (s : Nat), .int .u64 (cc : Nat)])) w :=
  ⟨_, _, fun w => Tryz.bits_Add64 (brN a) (brN b) 0 (by omega) w⟩
set_option maxRecDepth 100000 in
theorem briefSum_c (a b : Nat) (w : World) (ha : fits a) (hb : fits b) :
    Calls Tryz.prog 175 #[.string (natS a), .string (natS b)] w (StrBPost (bsS a b) (bsB a b) w) := by
  have hadd0 := fun w => Tryz.bits_Add64 (brN a) (brN b) 0 (by omega) w
  by_cases h1 : brB a = true
  · by_cases h2 : brB b = true
    · have e1 := brN_yes (brB_true h1)
      have e2 := brN_yes (brB_true h2)
      have l1 := br_lt.1 (brB_true h1)
      have l2 := br_lt.1 (brB_true h2)
      by_cases h3 : a + b < 18446744073709551616
      · have hadd : ∀ w, (callFunc 173 #[.int .u64 (brN a : Nat), .int .u64 (brN b : Nat), .int .u64 0]).run Tryz.prog w = .ok (.value (.tuple #[.int .u64 (a + b : Nat), .int .u64 0])) w := fun w => by
          have h := hadd0 w
          rw [show (brN a + brN b + 0) % 18446744073709551616 = a + b by omega, show (brN a + brN b + 0) / 18446744073709551616 = 0 by omega] at h
          exact h
        have HY := Lib.hid (bsB_yes h1 h2 h3)
        have H3 := Lib.hid h3
        clear hadd0 e1 e2 l1 l2 h3
        generalize hs : a + b = s at *
        have HS := Lib.hid hs
        clear hs
        go_enter Tryz.func175, Tryz.ntmps175
        go_wp2_with (first | simp only [hadd] | (go_at_call 137; refine (brief_c _ _ (by assumption)).mono ?_; rintro e w' ⟨rfl, rfl⟩) | (go_at_call 74; refine (Of_n s _ H3.out).mono ?_; rintro e w' ⟨rfl, hb'⟩))
        go_ret2
        exact ⟨by rw [bsS_yes HY.out, HY.out, HS.out]; rfl, hb'⟩
      · have hcar : ∀ w, (callFunc 173 #[.int .u64 (brN a : Nat), .int .u64 (brN b : Nat), .int .u64 0]).run Tryz.prog w = .ok (.value (.tuple #[.int .u64 ((a + b) % 18446744073709551616 : Nat), .int .u64 1])) w := fun w => by
          have h := hadd0 w
          rw [show (brN a + brN b + 0) % 18446744073709551616 = (a + b) % 18446744073709551616 by rw [e1, e2, Nat.add_zero], show (brN a + brN b + 0) / 18446744073709551616 = 1 by omega] at h
          exact h
        have HY := Lib.hid (bsB_no3 h3)
        clear hadd0 e1 e2 l1 l2 h3
        generalize hs : (a + b) % 18446744073709551616 = s at *
        clear hs
        go_enter Tryz.func175, Tryz.ntmps175
        go_wp2_with (first | simp only [hcar] | (go_at_call 137; refine (brief_c _ _ (by assumption)).mono ?_; rintro e w' ⟨rfl, rfl⟩))
        go_ret2
        exact ⟨by rw [bsS_no HY.out, HY.out]; rfl, Below.refl _ _⟩
    · have h2' : brB b = false := by simpa using h2
      have HY := Lib.hid (bsB_no2 (a := a) h2')
      obtain ⟨s, cc, hcar⟩ := add_some a b
      clear hadd0 h2
      go_enter Tryz.func175, Tryz.ntmps175
      go_wp2_with (first | simp only [hcar] | (go_at_call 137; refine (brief_c _ _ (by assumption)).mono ?_; rintro e w' ⟨rfl, rfl⟩))
      go_ret2
      exact ⟨by rw [bsS_no HY.out, HY.out]; rfl, Below.refl _ _⟩
  · have h1' : brB a = false := by simpa using h1
    have HY := Lib.hid (bsB_no1 (b := b) h1')
    obtain ⟨s, cc, hcar⟩ := add_some a b
    clear hadd0 h1
    go_enter Tryz.func175, Tryz.ntmps175
    go_wp2_with (first | simp only [hcar] | (go_at_call 137; refine (brief_c _ _ (by assumption)).mono ?_; rintro e w' ⟨rfl, rfl⟩))
    go_ret2
    exact ⟨by rw [bsS_no HY.out, HY.out]; rfl, Below.refl _ _⟩
end Go.Proofs.YtajcapliokblfaaGreatDoor
set_option linter.unusedSimpArgs false
set_option linter.unusedVariables false
namespace Go.Proofs.YtajcapliokblfaaGreatDoor
open Go Go.RowKit Nt
theorem sum_take (l : List Nat) (k : Nat) (h : k < l.length) : (l.take (k + 1)).sum = (l.take k).sum + l[k] := by
  rw [List.take_succ_eq_append_getElem h, List.sum_append]; simp
theorem sum_lt (l : List Nat) (m : Nat) (h : ∀ n ∈ l, n < m) : l.sum ≤ l.length * m := by
  induction l with
  | nil => simp
  | cons x l ih =>
    have h1 := ih (fun n hn => h n (List.mem_cons_of_mem _ hn))
    have h2 := h x (List.mem_cons_self ..)
    rw [List.sum_cons, List.length_cons, Nat.add_mul]; omega
theorem sum_ndm (l : List Nat) (m : Nat) (h : ∀ n ∈ l, nd W n ≤ m) (hl : l.length ≤ 140737488355328) : nd W l.sum ≤ m + 1 := by
  have h1 := sum_lt l (W ^ m) (fun n hn => (lt_pow_iff W2 _ _).2 (h n hn))
  refine nd_le W2 ?_
  rw [Nat.pow_succ]
  refine Nat.lt_of_le_of_lt h1 ?_
  rw [Nat.mul_comm]
  refine (Nat.mul_lt_mul_left (Nat.pow_pos W0)).2 ?_
  rw [W_eq]; omega
theorem sum_nd (l : List Nat) (h : ∀ n ∈ l, fits n) (hl : l.length ≤ 140737488355328) : nd W l.sum ≤ 2049 := sum_ndm l 2048 (fun n hn => fits_words (h n hn)) hl
theorem mem_take {α : Type} {l : List α} {k : Nat} {x : α} (h : x ∈ l.take k) : x ∈ l := List.mem_of_mem_take h
theorem may_all {l : List Nat} (h : ∀ n ∈ l, fits n) : mayE (l.map natS) = 0 := mayE_ok (fun s hs => by
  obtain ⟨n, hn, rfl⟩ := List.mem_map.1 hs; exact (may_natS n).2 (h n hn))
theorem len2 (l : List Nat) (h : l.length = 2) : ∃ a b, l = [a, b] := by
  match l, h with
  | [a, b], _ => exact ⟨a, b, rfl⟩
theorem two_cells {w : World} {A : Option Addr} {l : List Nat} (h2 : l.length = 2) (h : Strs w A (l.map natS)) (hf : ∀ n ∈ l, fits n) (hA : ∀ ad, A = some ad → ad.block < w.heap.size) :
    ∃ (a b : Nat) (ad : Addr), A = some ad ∧ ad.block < w.heap.size ∧ w.cell? ad = some (.string (natS a)) ∧ w.cell? (ad.add 1) = some (.string (natS b)) ∧ fits a ∧ fits b ∧ l.sum = a + b := by
  obtain ⟨a, b, rfl⟩ := len2 l h2
  obtain ⟨ad, rfl, hc0⟩ := h.at_ (k := 0) (by simp)
  obtain ⟨ad', e1, hc1⟩ := h.at_ (k := 1) (by simp)
  obtain rfl : ad = ad' := Option.some.inj e1
  rw [show ad.add 0 = ad by unfold Addr.add; rw [if_pos rfl]] at hc0
  exact ⟨a, b, ad, rfl, hA ad rfl, hc0, hc1, hf a (by simp), hf b (by simp), by simp⟩
theorem bsB_res {a b : Nat} (h : bsB a b = true) : resS (a + b) = natS (a + b) ∧ resE (a + b) = 0 := by
  have hs : a + b < 18446744073709551616 := by
    unfold bsB at h
    rw [Bool.and_eq_true, Bool.and_eq_true, decide_eq_true_iff] at h
    exact h.2
  have hf : fits (a + b) := by have := br_lt.2 hs; unfold fits; omega
  exact ⟨resS_ok hf, resE_ok hf⟩
/-- What stands in the strings' world. -/
def SB (w w' : World) : Prop := Below w.heap.size w w'
theorem SB_step {w w1 w2 : World} (h : SB w w1) (h2 : Below w1.heap.size w1 w2) : SB w w2 := Below.trans h (h2.mono h.size)
theorem SB_any {w w' : World} (h : SB w w') (n : Nat) : SB w (w'.drewN n) := below_drewN h n
set_option maxRecDepth 100000 in
set_option maxHeartbeats 1000000 in
theorem Sum_c (A : Option Addr) (c : Nat) (l : List Nat) (w : World) (hl : l.length ≤ 140737488355328) (hf : ∀ n ∈ l, fits n) (h : Strs w A (l.map natS)) (hA : ∀ ad, A = some ad → ad.block < w.heap.size) :
    Calls Tryz.prog 135 #[.slice A l.length c] w (StrPost (resS l.sum) (resE l.sum) w) := by
  have HS := Lib.hid h
  have HF := Lib.hid hf
  have HA := Lib.hid hA
  have hm := may_all hf
  have HL := Lib.hid hl
  have hl1 : l.length ≤ 9223372036854775807 := by omega
  have hall := all_c A c (l.map natS) w (by rw [List.length_map]; exact hl1) h
  rw [List.length_map, hm] at hall
  have HALL := Lib.hid hall
  clear h hf hA hall hm
  go_enter Tryz.func135, Tryz.ntmps135
  go_upto_if 17 with (go_at_call 109; refine HALL.out.mono ?_; rintro e w' ⟨rfl, rfl⟩)
  go_cut [] (fun wc => Below w.heap.size w wc)
  case first =>
    by_cases h2 : l.length = 2
    · obtain ⟨a, b, ad, rfl, hbk, hc0, hc1, ha, hb, hsum⟩ := two_cells h2 HS.out HF.out HA.out
      have hz : ((l.length : Int) == 2) = true := by rw [h2]; rfl
      have L0 : ∀ w', SB w w' → w'.cell? ad = some (.string (natS a)) := fun w' h => (Below.cell h (p := ad) hbk).trans hc0
      have L1 : ∀ w', SB w w' → w'.cell? ⟨ad.block, ad.off + 1, none⟩ = some (.string (natS b)) := fun w' h => (Below.cell h (p := ad.add 1) (by rw [block_of_add']; exact hbk)).trans hc1
      have L2 : SB w w.drew := (Below.refl _ _).drew
      have HSUM := Lib.hid hsum
      have H2 := Lib.hid h2
      have hle : (1 : Int) < (l.length : Int) := by omega
      have hle2 : 1 < l.length := by omega
      have hle0 : 0 < l.length := by omega
      have hle3 : (0 : Int) < (l.length : Int) := by omega
      clear hc0 hc1 hsum h2
      have hbs := briefSum_c a b
      have HBS := Lib.hid hbs
      clear hbs
      go_wp2_with fail
      go_region_held3 (SB w) (first | assumption | exact SB_step (by assumption) (by assumption) | exact SB_any (by assumption) _)
        (first
          | (go_at_call 175; refine (HBS.out _ (by assumption) (by assumption)).mono ?_; rintro e w' ⟨rfl, hb2⟩))
      rename_i hHeld
      have hsb : SB w _ := hHeld
      have HSB := Lib.hid hsb
      clear L0 L1 L2 hsb hHeld
      by_cases hB : bsB a b = true
      · have HB := Lib.hid hB
        rw [hB]
        clear hB
        go_wp2_with fail
        go_ret2
        obtain ⟨e1, e2⟩ := bsB_res HB.out
        refine ⟨?_, HSB.out⟩
        rw [bsS_yes HB.out, HSUM.out, e1, e2]; rfl
      · have hB' : bsB a b = false := by simpa using hB
        rw [hB']
        clear hB hB'
        go_wp2_with fail
        go_meet
        exact HSB.out
    · have hz : ((l.length : Int) == 2) = false := by rw [beq_eq_false_iff_ne]; omega
      go_wp2_with fail
      go_meet
      exact Below.refl _ _
  case rest =>
    have hb0 := hcut
    go_wp2
    go_loopw [7, 32] (fun x i wr => ∃ (k : Nat) (A' : Option Addr) (c' : Nat), k ≤ l.length ∧ i = .int .i64 k ∧ x = .slice A' (nd W (l.take k).sum) c' ∧ nd W (l.take k).sum ≤ c' ∧ Hid (Row wr wr.heap.size A' (l.take k).sum (nd W (l.take k).sum)) ∧ Below w.heap.size w wr) (fun _ i _ => l.length - (intOf i).toNat)
    case atStart =>
      have e : nd W 0 = 0 := nd_zero _
      exact ⟨0, none, 0, Nat.zero_le _, rfl, by rw [List.take_zero, List.sum_nil, e], by rw [List.take_zero, List.sum_nil, e]; exact Nat.le_refl _, by rw [List.take_zero, List.sum_nil, e]; exact Lib.hid Row.none_, hb0⟩
    case round =>
      obtain ⟨k, A', c', hk, rfl, rfl, hc, hrow, hb⟩ := hrel
      by_cases hlt : k < l.length
      · obtain ⟨ad, rfl, hcell⟩ := HS.out.at_ (k := k) (by rw [List.length_map]; exact hlt)
        rw [List.getElem_map] at hcell
        have hc2 := (hb.cell (p := ad.add k) (by rw [block_of_add']; exact HA.out ad rfl)).trans hcell
        have hfk := HF.out l[k] (List.getElem_mem hlt)
        have hst := sum_take l k hlt
        have hndk := sum_nd (l.take k) (fun n hn => HF.out n (mem_take hn)) (by have := HL.out; rw [List.length_take]; omega)
        have hw2 := fits_words hfk
        generalize l[k] = x at *
        generalize (l.take k).sum = S at *
        have HST := Lib.hid hst
        clear hst hcell
        go_wp2_with (first
          | (go_at_call 117; refine (words_c _ _ (by assumption)).mono ?_; intro e w1 hp; obtain ⟨A1, c1, rfl, hc1, hr1, hb1⟩ := hp.get; have hr0 := (hrow.out.below hb1).more hb1.size; have HR1 := Lib.hid hr1; clear hr1)
          | (go_at_call 130; refine (Add_c _ _ _ _ _ _ _ _ (by omega) (by omega) hr0 HR1.out (Nat.le_refl _)).mono ?_; intro e w2 hp; obtain ⟨A2, c2, rfl, hc2', hr2, hb2⟩ := hp.get))
        have HR2 := Lib.hid hr2
        have hbb := hb.trans ((hb1.mono hb.size).trans (hb2.mono (Nat.le_trans hb.size hb1.size)))
        clear hr2 hr0
        go_roundw
        case rel => exact ⟨k + 1, A2, c2, by omega, by go_num, by rw [HST.out], by rw [HST.out]; exact hc2', by rw [HST.out]; exact HR2, hbb⟩
        case measure => simp [intOf]; omega
      · obtain rfl : k = l.length := by omega
        rw [List.take_length] at hc hrow ⊢
        have hnd := sum_nd l HF.out HL.out
        have HN := Lib.hid hnd
        clear hnd
        go_wp2_with (go_at_call 115; refine (made_c _ _ _ _ _ (by have := HN.out; omega) hrow.out (Nat.le_refl _)).mono ?_; rintro e w' ⟨rfl, hb'⟩)
        go_ret2
        exact ⟨rfl, hb.trans (hb'.mono hb.size)⟩
/-- The sum of two. -/
theorem NAdd_c (a b : Nat) (w : World) (ha : fits a) (hb : fits b) :
    Calls Tryz.prog 87 #[.string (natS a), .string (natS b)] w (StrPost (resS (a + b)) (resE (a + b)) w) := by
  have hs := fun w' (h : Strs w' (some ⟨w.heap.size, 0, none⟩) ([a, b].map natS)) (hA : w.heap.size < w'.heap.size) => Sum_c (some ⟨w.heap.size, 0, none⟩) 2 [a, b] w' (by simp) (fun n hn => by
    rcases List.mem_cons.1 hn with rfl | hn
    · exact ha
    · rw [List.mem_singleton.1 hn]; exact hb) h (fun ad e => by cases e; exact hA)
  have HS := Lib.hid hs
  clear hs
  have he : [a, b].sum = a + b := by simp
  have HE := Lib.hid he
  clear he
  go_enter Tryz.func87, Tryz.ntmps87
  go_wp2_with fail
  refine (HS.out _ (strs_new w 22 [natS a, natS b]) (by simp)).mono ?_
  rw [HE.out]
  rintro e w' ⟨rfl, hb'⟩
  go_wp2_with fail
  go_ret2
  exact ⟨rfl, ((Below.refl _ _).alloc (Nat.le_refl _) _).trans (hb'.mono (by simp))⟩
end Go.Proofs.YtajcapliokblfaaGreatDoor
set_option linter.unusedSimpArgs false
set_option linter.unusedVariables false
namespace Go.Proofs.YtajcapliokblfaaGreatDoor
open Go Go.RowKit Nt
theorem fits_le {m n : Nat} (h : fits n) (hm : m ≤ n) : fits m := by unfold fits at *; exact Nat.le_trans (nd_mono (by omega) hm) h
theorem natS_empty {n : Nat} (h : n = 0) : (natS n).toList = [] := by subst h; rw [natS_zero, ba_toList]
theorem natS_full {n : Nat} (h : n ≠ 0) : ¬ (natS n).toList = [] := fun c => by
  rw [ba_toList] at c
  have h1 : (natS n).size = 0 := by show (natS n).data.size = 0; rw [← Array.length_toList, c]; rfl
  rw [natS_size, nd_eq_zero (by omega)] at h1; exact h h1
theorem natS_full2 {n : Nat} (h : n ≠ 0) : (natS n).toList.isEmpty = false := by
  have := natS_full h
  cases h2 : (natS n).toList with
  | nil => exact absurd h2 this
  | cons x l => rfl
theorem cmp_neg {a b : Nat} (h : a < b) : decide (cmpN a b < 0) = true := by rw [cmpN_lt h]; rfl
theorem cmp_pos {a b : Nat} (h : b ≤ a) : decide (cmpN a b < 0) = false := by
  rcases Nat.eq_or_lt_of_le h with h1 | h1
  · subst h1; rw [cmpN_eq]; rfl
  · rw [cmpN_gt h1]; rfl
set_option maxRecDepth 100000 in
theorem NSub_c (a b : Nat) (w : World) (ha : fits a) (hb : fits b) (h : b ≤ a) :
    Calls Tryz.prog 88 #[.string (natS a), .string (natS b)] w (StrPost (natS (a - b)) 0 w) := by
  have hc := cmp_pos h
  have hfs := fits_le ha (Nat.sub_le a b)
  by_cases h1 : nd 256 a ≤ 8
  · have hB := brB_yes h1
    have h2 : nd 256 b ≤ 8 := Nat.le_trans (nd_mono (by omega) h) h1
    have e1 := brN_yes h1
    have e2 := brN_yes h2
    have hsub : IntKind.u64.wrap ((a : Int) - (b : Int)) = ((a - b : Nat) : Int) := by
      have := br_lt.1 h1
      rw [IntKind.wrap_u64]; omega
    have HLt := Lib.hid (Nat.lt_of_le_of_lt (Nat.sub_le a b) (br_lt.1 h1))
    clear h h1 h2
    go_enter Tryz.func88, Tryz.ntmps88
    go_wp2_with (first
      | (go_at_call 136; refine (NCmp_c _ _ _ ha hb).mono ?_; rintro e w' ⟨rfl, hb1⟩)
      | (go_at_call 137; refine (brief_c _ _ (by assumption)).mono ?_; rintro e w' ⟨rfl, rfl⟩)
      | (go_at_call 74; refine (Of_n _ _ HLt.out).mono ?_; rintro e w' ⟨rfl, hb2⟩))
    go_ret2
    exact ⟨rfl, hb1.trans (hb2.mono hb1.size)⟩
  · have hB := brB_no h1
    have H := Lib.hid h
    have hwa := fits_words ha
    have hwb := fits_words hb
    have hws := fits_words hfs
    have e3 := resS_ok hfs
    have e4 := resE_ok hfs
    clear h h1
    go_enter Tryz.func88, Tryz.ntmps88
    go_upto_region 10 with (first
      | (go_at_call 136; refine (NCmp_c _ _ _ ha hb).mono ?_; rintro e w1 ⟨rfl, hb1⟩)
      | (go_at_call 137; refine (brief_c _ _ (by assumption)).mono ?_; rintro e w' ⟨rfl, rfl⟩))
    go_wp2_with fail
    refine (words_c a _ ha).mono ?_
    intro e w2 hp
    obtain ⟨A1, c1, rfl, hc1, hr1, hb2⟩ := hp.get
    have HR1 := Lib.hid hr1
    clear hr1 hp
    go_wp2_with fail
    refine (words_c b _ hb).mono ?_
    intro e w3 hp
    obtain ⟨A2, c2, rfl, hc2, hr2, hb3⟩ := hp.get
    have HR2 := Lib.hid hr2
    clear hr2 hp
    go_wp2_with fail
    refine (Sub_c A1 A2 c1 c2 a b w3.heap.size w3 H.out (by omega) ((HR1.out.below hb3).more hb3.size) HR2.out (Nat.le_refl _)).mono ?_
    intro e w4 hp
    obtain ⟨A3, c3, rfl, hc3, hr3, hb4⟩ := hp.get
    have HR3 := Lib.hid hr3
    clear hr3 hp
    go_wp2_with fail
    refine (made_c A3 c3 (a - b) w4.heap.size w4 (by omega) HR3.out (Nat.le_refl _)).mono ?_
    rintro e w5 ⟨rfl, hb5⟩
    rw [e3, e4]
    go_wp2_with fail
    go_ret2
    exact ⟨rfl, hb1.trans ((hb2.mono hb1.size).trans ((hb3.mono (Nat.le_trans hb1.size hb2.size)).trans ((hb4.mono (Nat.le_trans hb1.size (Nat.le_trans hb2.size hb3.size))).trans (hb5.mono (Nat.le_trans hb1.size (Nat.le_trans hb2.size (Nat.le_trans hb3.size hb4.size)))))))⟩
@[irreducible] def longI (z : Int) : Bool := decide (131072 < z)
@[local go_sem] theorem gt_longI (z : Int) : decide ((131072 : Int) < z) = longI z := by unfold longI; rfl
end Go.Proofs.YtajcapliokblfaaGreatDoor
set_option linter.unusedSimpArgs false
set_option linter.unusedVariables false
namespace Go.Proofs.YtajcapliokblfaaGreatDoor
open Go Go.RowKit Nt
theorem below_chain {a b c : World} (h1 : Below a.heap.size a b) (h2 : Below b.heap.size b c) : Below a.heap.size a c := h1.trans (h2.mono h1.size)
theorem nne_true {x : Nat} (h : x ≠ 0) : (((x : Nat) : Int) != 0) = true := by rw [bne_iff_ne]; omega
theorem nne_false {x : Nat} (h : x = 0) : (((x : Nat) : Int) != 0) = false := by subst h; rfl
/-- A slice of the call's own that holds these numbers. -/
def Own (w : World) (B : Nat) (T : TypeId) (k : IntKind) (v : Value) (l : List Nat) : Prop := w.ownsRow B T 1 v l.length (l.map (fun (x : Nat) => Value.int k (x : Int)))
theorem Own.nil (w : World) (B : Nat) (T : TypeId) (k : IntKind) : Own w B T k (.slice none 0 0) [] := World.ownsRow_nil w B T 1
theorem Own.form {w : World} {B : Nat} {T : TypeId} {k : IntKind} {v : Value} {l : List Nat} (h : Own w B T k v l) :
    (v = .slice none 0 0 ∧ l = []) ∨ ∃ g cap cs, v = .slice (some ⟨g, 0, none⟩) l.length cap ∧ B ≤ g ∧ g < w.heap.size ∧ Blk w g T cs ∧ l.length ≤ cap ∧ cap ≤ 9223372036854775807 ∧ ∀ j, (hj : j < l.length) → cs[j]? = some (.int k (l[j] : Nat)) := by
  rcases h.2 with ⟨rfl, h0⟩ | ⟨g, cap, cur, rfl, hB, hh, hn, hm, hs, ht⟩
  · exact Or.inl ⟨rfl, List.eq_nil_of_length_eq_zero h0⟩
  · refine Or.inr ⟨g, cap, cur, rfl, hB, Blk.lt hh, hh, hn, by simpa [maxLen] using hm, fun j hj => ?_⟩
    have e := congrArg (fun x => x[j]?) ht
    simp only [Nat.mul_one] at e
    rw [List.getElem?_take, if_pos hj, List.getElem?_map, List.getElem?_eq_getElem hj] at e
    rw [← Array.getElem?_toList]; exact e
theorem Own.cell {w : World} {B : Nat} {T : TypeId} {k : IntKind} {v : Value} {l : List Nat} (h : Own w B T k v l) {j : Nat} (hj : j < l.length) :
    ∃ g cap, v = .slice (some ⟨g, 0, none⟩) l.length cap ∧ B ≤ g ∧ g < w.heap.size ∧ w.cell? ⟨g, j, none⟩ = some (.int k (l[j] : Nat)) ∧ w.frozen? ⟨g, j, none⟩ = false := by
  rcases h.form with ⟨_, rfl⟩ | ⟨g, cap, cs, rfl, hB, hg, hb, _, _, hc⟩
  · simp at hj
  · exact ⟨g, cap, rfl, hB, hg, by rw [hb.cell, hc j hj], hb.frozen j⟩
theorem Own.below {w w' : World} {B B' : Nat} {T : TypeId} {k : IntKind} {v : Value} {l : List Nat} (h : Own w B T k v l) (hb : Below B' w w') (hB : ∀ g, v.ownBlock = some g → g < B') : Own w' B T k v l := by
  rcases h.2 with ⟨rfl, h0⟩ | ⟨g, cap, cur, rfl, hB1, hh, hn, hm, hs, ht⟩
  · exact ⟨h.1, Or.inl ⟨rfl, h0⟩⟩
  · exact ⟨h.1, Or.inr ⟨g, cap, cur, rfl, hB1, (hb.block g (hB g rfl)).trans hh, hn, hm, hs, ht⟩⟩
theorem Own.base {w : World} {B B' : Nat} {T : TypeId} {k : IntKind} {v : Value} {l : List Nat} (h : Own w B T k v l) (hB : B' ≤ B) : Own w B' T k v l := by
  rcases h.2 with ⟨rfl, h0⟩ | ⟨g, cap, cur, rfl, hB1, hh, hn, hm, hs, ht⟩
  · exact ⟨h.1, Or.inl ⟨rfl, h0⟩⟩
  · exact ⟨h.1, Or.inr ⟨g, cap, cur, rfl, by omega, hh, hn, hm, hs, ht⟩⟩
theorem Own.lt {w : World} {B : Nat} {T : TypeId} {k : IntKind} {v : Value} {l : List Nat} (h : Own w B T k v l) : ∀ g, v.ownBlock = some g → B ≤ g ∧ g < w.heap.size := World.ownsRow.lt h
theorem Own.whole {w w' : World} {B : Nat} {T : TypeId} {k : IntKind} {v : Value} {l : List Nat} (h : Own w B T k v l) (hb : Below w.heap.size w w') : Own w' B T k v l := h.below hb fun g e => (h.lt g e).2
theorem Own.drewN {w : World} {B : Nat} {T : TypeId} {k : IntKind} {v : Value} {l : List Nat} (h : Own w B T k v l) (n : Nat) : Own (w.drewN n) B T k v l := h
theorem Own.len {w : World} {B : Nat} {T : TypeId} {k : IntKind} {v : Value} {l : List Nat} (h : Own w B T k v l) : ∃ A c, v = .slice A l.length c ∧ l.length ≤ c := by
  rcases h.form with ⟨rfl, rfl⟩ | ⟨g, cap, cs, rfl, _, _, _, hc, _⟩
  · exact ⟨none, 0, rfl, Nat.le_refl _⟩
  · exact ⟨_, _, rfl, hc⟩
/-- What an append leaves as it was. -/
def Frm (w0 w' : World) (v : Value) : Prop := ∀ k, k < w0.heap.size → some k ≠ v.ownBlock → w'.heap[k]? = w0.heap[k]?
theorem Frm.cell {w0 w' : World} {v : Value} (h : Frm w0 w' v) {p : Addr} (hp : p.block < w0.heap.size) (hne : some p.block ≠ v.ownBlock) : w'.cell? p = w0.cell? p := World.cell?_of_block (h p.block hp hne)
/-- 'append(s, x)'. -/
theorem wpList_app1 {P : Program} (w0 : World) {ops : Array Oper} {rest : List Oper} {o : Oper} {a : Act} {Q : Exit → Act → World → Prop} (hgd : o.guard = none) (s x : Operand) (t : TypeId)
    (ho : o.op = .call { callee := .builtin .append, args := #[s, x], argTypes := #[t, t] })
    (B : Nat) (e U : TypeId) (i : TypeInfo) (k : IntKind) (bytes : Nat) (ht : P.underlying t = some (.slice e)) (hi : P.info? e = some i) (hz : i.zero = some (.int k 0))
    (hsize : i.size = 1) (hby : i.bytes = bytes) (hb8 : bytes ≤ 8)
    (v : Value) (l : List Nat) (y : Nat) (hs : a.eval s = v) (hx : a.eval x = .slice (some ⟨w0.heap.size, 0, none⟩) 1 1) (hown : Own w0 B e k v l)
    (hn : l.length + 1 ≤ 17592186044416) (hB : B ≤ w0.heap.size)
    (h : ∀ v' w', Own w' B e k v' (l ++ [y]) → Below B w0 w' → Frm w0 w' v → (∀ g, v'.ownBlock = some g → v.ownBlock = some g ∨ w0.heap.size ≤ g) → wpList P ops Q rest (a.put o.dst v') w') :
    wpList P ops Q (o :: rest) a (w0.alloc (.cells #[.int k (y : Nat)] U)) := by
  have hbytes : (l.length + 1) * bytes ≤ 140737488355328 := by
    have h1 : (l.length + 1) * bytes ≤ (l.length + 1) * 8 := Nat.mul_le_mul_left _ hb8
    omega
  have hown1 : (w0.alloc (.cells #[.int k (y : Nat)] U)).ownsRow B e 1 v l.length (l.map (fun (x : Nat) => Value.int k (x : Int))) := World.ownsRow.alloc hown _
  refine wpList_plain hgd fun _ hK => ?_
  obtain ⟨v', w', hrun, h2, hg, _, h5⟩ := run_append_own_at (P := P) (w0.alloc (.cells #[.int k (y : Nat)] U)) B t o.type e i (.int k 0) 1 bytes ht hi hz hsize hby rfl (by omega) v l.length (l.map (fun (x : Nat) => Value.int k (x : Int))) hown1
    ⟨w0.heap.size, 0, none⟩ 1 1 [.int k (y : Nat)] rfl (by
      intro j u hu
      have hj : j = 0 := by
        rcases Nat.lt_or_ge j 1 with h | h
        · omega
        · rw [List.getElem?_eq_none (by simpa using h)] at hu; cases hu
      subst hj
      rw [add_plain0, World.cell?_alloc_new]
      exact hu) (by
      intro u hu
      rw [List.mem_singleton.1 hu]; rfl) (by simp [maxLen]; omega) hbytes (by simp; omega)
  unfold Oper.wp execOp
  simp only [ho, resolve, invoke, builtin, Sem.run_bind, Sem.run_pure, Result.andThen_ok, List.map_toArray, List.map_cons, List.map_nil, hs, hx, hrun]
  refine hK _ _ (h v' w' ?_ ?_ ?_ ?_)
  · unfold Own
    simpa using h2
  · exact Below.grown ((Below.refl _ _).alloc hB _) hg (by simp; omega) (fun g e => (hown.lt g e).1)
  · intro k' hk hne
    rw [hg.block k' (by simp; omega) hne]
    exact Below.heap_alloc w0 _ k' hk
  · intro g hgo
    rcases h5 with h5 | h5
    · rw [← h5]; exact Or.inl hgo
    · rw [h5] at hgo
      have : g = w0.heap.size + 1 := by simpa using hgo.symm
      exact Or.inr (by omega)
end Go.Proofs.YtajcapliokblfaaGreatDoor
set_option linter.unusedSimpArgs false
set_option linter.unusedVariables false
namespace Go.Proofs.YtajcapliokblfaaGreatDoor
open Go Go.RowKit Nt
/-- A box of three cells. -/
def Bx3 (w : World) (B : Nat) (c : Value × Value × Value) : Prop := ∃ T : TypeId, Blk w B T #[c.1, c.2.1, c.2.2]
theorem Bx3.facts {w : World} {B : Nat} {c : Value × Value × Value} (h : Bx3 w B c) : B < w.heap.size ∧ w.cell? ⟨B, 0, none⟩ = some c.1 ∧ w.cell? ⟨B, 1, none⟩ = some c.2.1 ∧ w.cell? ⟨B, 2, none⟩ = some c.2.2 ∧ w.frozen? ⟨B, 0, none⟩ = false ∧ w.frozen? ⟨B, 1, none⟩ = false ∧ w.frozen? ⟨B, 2, none⟩ = false := by
  obtain ⟨T, h⟩ := h
  exact ⟨h.lt, by rw [h.cell]; rfl, by rw [h.cell]; rfl, by rw [h.cell]; rfl, h.frozen 0, h.frozen 1, h.frozen 2⟩
theorem Bx3.step {w w' : World} {B : Nat} {c : Value × Value × Value} (h : Bx3 w B c) (hb : Below w.heap.size w w') : Bx3 w' B c := by
  obtain ⟨T, h⟩ := h; exact ⟨T, h.below hb h.lt⟩
theorem Bx3.more {w : World} {B : Nat} {c : Value × Value × Value} (h : Bx3 w B c) (o : Obj) : Bx3 (w.alloc o) B c := by
  obtain ⟨T, h⟩ := h; exact ⟨T, h.alloc o⟩
theorem Bx3.new (w : World) (a b c : Value) (T : TypeId) : Bx3 (w.alloc (.cells #[a, b, c] T)) w.heap.size (a, b, c) := ⟨T, Blk.new w _ _⟩
theorem Bx3.put {w : World} {B : Nat} {c : Value × Value × Value} (h : Bx3 w B c) (x y z : Value) : Bx3 (((w.setCell ⟨B, 0, none⟩ x).setCell ⟨B, 1, none⟩ y).setCell ⟨B, 2, none⟩ z) B (x, y, z) := by
  obtain ⟨T, h⟩ := h
  exact ⟨T, by simpa using ((h.set_ 0 x).set_ 1 y).set_ 2 z⟩
theorem Bx3.far {w : World} {B C : Nat} {c : Value × Value × Value} (h : Bx3 w B c) (hne : B ≠ C) (x y z : Value) : Bx3 (((w.setCell ⟨C, 0, none⟩ x).setCell ⟨C, 1, none⟩ y).setCell ⟨C, 2, none⟩ z) B c := by
  obtain ⟨T, h⟩ := h
  exact ⟨T, ((h.far (p := ⟨C, 0, none⟩) hne x).far (p := ⟨C, 1, none⟩) hne y).far (p := ⟨C, 2, none⟩) hne z⟩
theorem below_put3 {n : Nat} {w W : World} {A : Nat} (hb : Below n w W) (hA : n ≤ A) (a' b' c' : Value) : Below n w (((W.setCell ⟨A, 0, none⟩ a').setCell ⟨A, 1, none⟩ b').setCell ⟨A, 2, none⟩ c') :=
  ((hb.setCell (p := ⟨A, 0, none⟩) hA a').setCell (p := ⟨A, 1, none⟩) hA b').setCell (p := ⟨A, 2, none⟩) hA c'
abbrev C3 := Value × Value × Value
/-- From w on: boxes that stay, and behind them one for what is answered. -/
def BR (w : World) (l : List C3) (W : World) : Prop := Below w.heap.size w W ∧ (∀ i c, l[i]? = some c → Bx3 W (w.heap.size + i) c) ∧ ∃ (b : Bool) (y z : Value), Bx3 W (w.heap.size + l.length) (.bool b, y, z)
theorem BR.step {w : World} {l : List C3} {W W' : World} (h : BR w l W) (hb : Below W.heap.size W W') : BR w l W' := by
  obtain ⟨b, y, z, hc⟩ := h.2.2
  exact ⟨below_chain h.1 hb, fun i c hi => (h.2.1 i c hi).step hb, b, y, z, hc.step hb⟩
theorem BR.more {w : World} {l : List C3} {W : World} (h : BR w l W) (o : Obj) : BR w l (W.alloc o) := h.step ((Below.refl _ _).alloc (Nat.le_refl _) _)
theorem BR.drawn {w : World} {l : List C3} {W : World} (h : BR w l W) (n : Nat) : BR w l (W.drewN n) := h.step (below_drewN (Below.refl _ _) n)
theorem BR.drew {w : World} {l : List C3} {W : World} (h : BR w l W) : BR w l W.drew := h.step (Below.refl _ _).drew
theorem BR.put {w : World} {l : List C3} {W : World} (h : BR w l W) {n : Nat} (hn : l.length = n) (x : Bool) (y z : Value) : BR w l (((W.setCell ⟨w.heap.size + n, 0, none⟩ (.bool x)).setCell ⟨w.heap.size + n, 1, none⟩ y).setCell ⟨w.heap.size + n, 2, none⟩ z) := by
  subst hn
  obtain ⟨b, y', z', hc⟩ := h.2.2
  refine ⟨below_put3 h.1 (by omega) _ _ _, fun i c hi => (h.2.1 i c hi).far ?_ _ _ _, _, _, _, hc.put (.bool x) y z⟩
  have := (List.getElem?_eq_some_iff.1 hi).1
  omega
/-- A row of words doesn't lie in a box that begins with a bool. -/
theorem Row.put3 {W : World} {B : Nat} {A : Option Addr} {n L C : Nat} (hr : Row W B A n L) {b : Bool} (hc : W.cell? ⟨C, 0, none⟩ = some (.bool b)) (x y z : Value) : Row (((W.setCell ⟨C, 0, none⟩ x).setCell ⟨C, 1, none⟩ y).setCell ⟨C, 2, none⟩ z) B A n L := fun hL => by
  obtain ⟨g, e, hg, hcell⟩ := hr hL
  refine ⟨g, e, hg, fun j hj => ?_⟩
  have hne : g ≠ C := fun c => by
    have := hcell 0 hL
    rw [c, hc] at this
    cases this
  have h1 : ∀ (U : World) (i : Nat) (v : Value), (U.setCell ⟨C, i, none⟩ v).cell? ⟨g, j, none⟩ = U.cell? ⟨g, j, none⟩ := fun U i v => by
    unfold World.cell?
    rw [show (U.setCell ⟨C, i, none⟩ v).heap[g]? = U.heap[g]? from by simp [World.setCell, Array.getElem?_modify, Ne.symm hne]]
  rw [h1, h1, h1]
  exact hcell j hj
theorem BR.row {w : World} {l : List C3} {W : World} (h : BR w l W) {n : Nat} (hn : l.length = n) {B : Nat} {A : Option Addr} {m L : Nat} (hr : Row W B A m L) (x y z : Value) : Row (((W.setCell ⟨w.heap.size + n, 0, none⟩ x).setCell ⟨w.heap.size + n, 1, none⟩ y).setCell ⟨w.heap.size + n, 2, none⟩ z) B A m L := by
  subst hn
  obtain ⟨b, y', z', hc⟩ := h.2.2
  exact hr.put3 hc.facts.2.1 x y z
theorem BR.box {w : World} {l : List C3} {W : World} (h : BR w l W) (i : Nat) (c : C3) (hi : l[i]? = some c) : w.heap.size + i < W.heap.size ∧ W.cell? ⟨w.heap.size + i, 0, none⟩ = some c.1 ∧ W.cell? ⟨w.heap.size + i, 1, none⟩ = some c.2.1 ∧ W.cell? ⟨w.heap.size + i, 2, none⟩ = some c.2.2 ∧ W.frozen? ⟨w.heap.size + i, 0, none⟩ = false ∧ W.frozen? ⟨w.heap.size + i, 1, none⟩ = false ∧ W.frozen? ⟨w.heap.size + i, 2, none⟩ = false := (h.2.1 i c hi).facts
/-- What stands in a cell. -/
@[irreducible] def celAt (W : World) (B i : Nat) : Value := (W.cell? ⟨B, i, none⟩).getD undef
theorem celAt_eq {W : World} {B i : Nat} {v : Value} (h : W.cell? ⟨B, i, none⟩ = some v) : W.cell? ⟨B, i, none⟩ = some (celAt W B i) := by unfold celAt; rw [h]; rfl
theorem BR.res {w : World} {l : List C3} {W : World} (h : BR w l W) {n : Nat} (hn : l.length = n) : w.heap.size + n < W.heap.size ∧ W.cell? ⟨w.heap.size + n, 0, none⟩ = some (celAt W (w.heap.size + n) 0) ∧ W.cell? ⟨w.heap.size + n, 1, none⟩ = some (celAt W (w.heap.size + n) 1) ∧ W.cell? ⟨w.heap.size + n, 2, none⟩ = some (celAt W (w.heap.size + n) 2) ∧ W.frozen? ⟨w.heap.size + n, 0, none⟩ = false ∧ W.frozen? ⟨w.heap.size + n, 1, none⟩ = false ∧ W.frozen? ⟨w.heap.size + n, 2, none⟩ = false := by
  subst hn
  obtain ⟨b, y, z, hc⟩ := h.2.2
  obtain ⟨r0, r1, r2, r3, r4, r5, r6⟩ := hc.facts
  exact ⟨r0, celAt_eq r1, celAt_eq r2, celAt_eq r3, r4, r5, r6⟩
theorem BR.res0 {w : World} {W : World} (h : BR w [] W) : w.heap.size < W.heap.size ∧ W.cell? ⟨w.heap.size, 0, none⟩ = some (celAt W w.heap.size 0) ∧ W.cell? ⟨w.heap.size, 1, none⟩ = some (celAt W w.heap.size 1) ∧ W.cell? ⟨w.heap.size, 2, none⟩ = some (celAt W w.heap.size 2) ∧ W.frozen? ⟨w.heap.size, 0, none⟩ = false ∧ W.frozen? ⟨w.heap.size, 1, none⟩ = false ∧ W.frozen? ⟨w.heap.size, 2, none⟩ = false := h.res (n := 0) rfl
theorem BR.start0 (w : World) (x : Bool) (y z : Value) (U : TypeId) : BR w [] (w.alloc (.cells #[.bool x, y, z] U)) := by
  refine ⟨(Below.refl _ _).alloc (Nat.le_refl _) _, fun i d hi => ?_, x, y, z, Bx3.new w (.bool x) y z U⟩
  simp at hi
theorem BR.start1 (w : World) (a b c : Value) (x : Bool) (y z : Value) (T U : TypeId) : BR w [(a, b, c)] ((w.alloc (.cells #[a, b, c] T)).alloc (.cells #[.bool x, y, z] U)) := by
  refine ⟨((Below.refl _ _).alloc (Nat.le_refl _) _).alloc (by simp) _, fun i d hi => ?_, x, y, z, by have := Bx3.new (w.alloc (.cells #[a, b, c] T)) (.bool x) y z U; simpa using this⟩
  match i, hi with
  | 0, hi => cases hi; exact (Bx3.new w a b c T).more _
  | n + 1, hi => simp at hi
theorem BR.start2 (w : World) (a b c a' b' c' : Value) (x : Bool) (y z : Value) (T T' U : TypeId) : BR w [(a, b, c), (a', b', c')] (((w.alloc (.cells #[a, b, c] T)).alloc (.cells #[a', b', c'] T')).alloc (.cells #[.bool x, y, z] U)) := by
  refine ⟨(((Below.refl _ _).alloc (Nat.le_refl _) _).alloc (by simp) _).alloc (by simp; omega) _, fun i d hi => ?_, x, y, z, by have := Bx3.new ((w.alloc (.cells #[a, b, c] T)).alloc (.cells #[a', b', c'] T')) (.bool x) y z U; simpa using this⟩
  match i, hi with
  | 0, hi => cases hi; exact ((Bx3.new w a b c T).more _).more _
  | 1, hi => cases hi; have := (Bx3.new (w.alloc (.cells #[a, b, c] T)) a' b' c' T').more (.cells #[.bool x, y, z] U); simpa using this
  | n + 2, hi => simp at hi
/-- Two boxes without one for the answer: the second serves as the last. -/
theorem BR.pair (w : World) (a b c : Value) (a' : Bool) (b' c' : Value) (T T' : TypeId) : BR w [(a, b, c)] ((w.alloc (.cells #[a, b, c] T)).alloc (.cells #[.bool a', b', c'] T')) := BR.start1 w a b c a' b' c' T T'
end Go.Proofs.YtajcapliokblfaaGreatDoor
set_option linter.unusedSimpArgs false
set_option linter.unusedVariables false
namespace Go.Proofs.YtajcapliokblfaaGreatDoor
open Go Go.RowKit Nt
/-- A Ratio's value. -/
@[reducible] noncomputable def qv (q : Rat) : Value := .agg #[.bool (qG q), .string (natS (qN q)), .string (natS (qD q))]
def qfits (q : Rat) : Prop := fits (qN q) ∧ fits (qD q)
open Classical in
@[irreducible] noncomputable def rsG (q : Rat) : Bool := if qfits q then qG q else false
open Classical in
@[irreducible] noncomputable def rsN (q : Rat) : ByteArray := if qfits q then natS (qN q) else ⟨#[]⟩
open Classical in
@[irreducible] noncomputable def rsD (q : Rat) : ByteArray := if qfits q then natS (qD q) else ⟨#[]⟩
open Classical in
@[irreducible] noncomputable def rsE (q : Rat) : Int := if qfits q then 0 else 4
theorem rs_ok {q : Rat} (h : qfits q) : rsG q = qG q ∧ rsN q = natS (qN q) ∧ rsD q = natS (qD q) ∧ rsE q = 0 := by
  unfold rsG rsN rsD rsE; rw [if_pos h, if_pos h, if_pos h, if_pos h]; exact ⟨rfl, rfl, rfl, rfl⟩
theorem rs_no {q : Rat} (h : ¬ qfits q) : rsG q = false ∧ rsN q = ⟨#[]⟩ ∧ rsD q = ⟨#[]⟩ ∧ rsE q = 4 := by
  unfold rsG rsN rsD rsE; rw [if_neg h, if_neg h, if_neg h, if_neg h]; exact ⟨rfl, rfl, rfl, rfl⟩
/-- What lowest gives. -/
def LwPost (q : Rat) (w : World) (e : Ending) (w' : World) : Prop := e = .returned (.tuple #[.agg #[.bool (rsG q), .string (rsN q), .string (rsD q)], .int .i64 (rsE q)]) ∧ Below w.heap.size w w'
/-- What a function that makes a fraction leaves. -/
def FrPost (g : Bool) (n d : Nat) (w : World) (e : Ending) (w' : World) : Prop :=
  ∃ A c A' c', e = .returned (.agg #[.bool g, .slice A (nd W n) c, .slice A' (nd W d) c']) ∧ nd W n ≤ c ∧ nd W d ≤ c' ∧ Row w' w'.heap.size A n (nd W n) ∧ Row w' w'.heap.size A' d (nd W d) ∧ Below w.heap.size w w'
theorem bits_131072'' {n : Nat} : ((131072 : Int) < (nd 2 n : Int)) ↔ ¬ fits n := by
  have := bits_le n 16384
  unfold fits
  omega
theorem Pwords_c (n : Nat) (w : World) (hn : fits n) :
    Calls Tryz.prog 59 #[.string (natS n)] w (NumPost n w) := by
  have hz : (natS n).size ≤ 1000000000 := by rw [natS_size]; unfold fits at hn; omega
  have hr := Read_c (natS n) w hz
  rw [bytesN_natS] at hr
  have HR := Lib.hid hr
  clear hr
  go_enter Tryz.func59, Tryz.ntmps59
  go_wp2_with fail
  refine HR.out.mono ?_
  intro e w' hp
  obtain ⟨A, c, rfl, hc, hrow, hb⟩ := hp.get
  go_wp2
  go_ret
  exact NumPost.mk hc hrow hb
set_option maxRecDepth 100000 in
set_option maxHeartbeats 1000000 in
theorem Popen_c (g : Bool) (n d : Nat) (w : World) (hn : fits n) (hd : fits d) :
    Calls Tryz.prog 81 #[.agg #[.bool g, .string (natS n), .string (natS d)]] w (FrPost g n d w) := by
  have K1 := Lib.hid (fun w => Pwords_c n w hn)
  have K2 := Lib.hid (fun w => Pwords_c d w hd)
  have T0 := BR.start1 w (.bool g) (.string (natS n)) (.string (natS d)) false (.slice none 0 0) (.slice none 0 0) 24 77
  have L0 : ∀ W, BR w [(.bool g, .string (natS n), .string (natS d))] W → W.cell? ⟨w.heap.size, 0, none⟩ = some (.bool g) := fun W h => (h.box 0 _ rfl).2.1
  have L1 : ∀ W, BR w [(.bool g, .string (natS n), .string (natS d))] W → W.cell? ⟨w.heap.size, 1, none⟩ = some (.string (natS n)) := fun W h => (h.box 0 _ rfl).2.2.1
  have L2 : ∀ W, BR w [(.bool g, .string (natS n), .string (natS d))] W → W.cell? ⟨w.heap.size, 2, none⟩ = some (.string (natS d)) := fun W h => (h.box 0 _ rfl).2.2.2.1
  have M1 := fun W (h : BR w [(.bool g, .string (natS n), .string (natS d))] W) => (h.res (n := 1) rfl).2.1
  have M2 := fun W (h : BR w [(.bool g, .string (natS n), .string (natS d))] W) => (h.res (n := 1) rfl).2.2.1
  have M3 := fun W (h : BR w [(.bool g, .string (natS n), .string (natS d))] W) => (h.res (n := 1) rfl).2.2.2.1
  have M4 := fun W (h : BR w [(.bool g, .string (natS n), .string (natS d))] W) => (h.res (n := 1) rfl).2.2.2.2.1
  have M5 := fun W (h : BR w [(.bool g, .string (natS n), .string (natS d))] W) => (h.res (n := 1) rfl).2.2.2.2.2.1
  have M6 := fun W (h : BR w [(.bool g, .string (natS n), .string (natS d))] W) => (h.res (n := 1) rfl).2.2.2.2.2.2
  clear hn hd
  go_enter Tryz.func81, Tryz.ntmps81
  go_wp2_with fail
  go_region_held3 (BR w [(.bool g, .string (natS n), .string (natS d))]) (first | assumption | exact BR.step (by assumption) (by assumption) | exact BR.put (by assumption) rfl _ _ _ | exact BR.drew (by assumption) | exact BR.drawn (by assumption) _)
    (first
      | (go_at_call 59; (with_reducible refine (K1.out _).mono ?_); rintro e wa hp; obtain ⟨A1, c1, rfl, hc1, hr1, hb1⟩ := hp.get; clear hp)
      | (go_at_call 59; (with_reducible refine (K2.out _).mono ?_); rintro e wb hp; obtain ⟨A2, c2, rfl, hc2, hr2, hb2⟩ := hp.get; clear hp; have HSV := Lib.hid (BR.step (w := w) (by assumption) hb2)))
  have HR1 := Lib.hid (HSV.out.row (n := 1) rfl ((hr1.below hb2).more hb2.size))
  have HR2 := Lib.hid (HSV.out.row (n := 1) rfl hr2)
  obtain ⟨r0, r1, r2, r3, r4, r5, r6⟩ := HSV.out.res (n := 1) rfl
  have hfin := below_put3 HSV.out.1 (show w.heap.size ≤ w.heap.size + 1 by omega)
  clear L0 L1 L2 M1 M2 M3 M4 M5 M6 hr1 hr2 hb1 hb2
  go_wp2_with fail
  refine bodyPost_ret (v := .agg #[.bool g, .slice A1 (nd W n) c1, .slice A2 (nd W d) c2]) (by simp [results, Tryz.results81, go_sem, r0, r1, r2, r3]) rfl ⟨A1, c1, A2, c2, rfl, hc1, hc2, ?_, ?_, hfin _ _ _⟩
  · simpa using HR1.out _ _ _
  · simpa using HR2.out _ _ _
end Go.Proofs.YtajcapliokblfaaGreatDoor
set_option linter.unusedSimpArgs false
set_option linter.unusedVariables false
namespace Go.Proofs.YtajcapliokblfaaGreatDoor
open Go Go.RowKit Nt
theorem ad_same {g h : Bool} (x y : Nat) (hg : g = h) : adG g x h y = g ∧ adN g x h y = x + y := by unfold adG adN; rw [if_pos hg, if_pos hg]; exact ⟨rfl, rfl⟩
theorem ad_less {g h : Bool} {x y : Nat} (hg : ¬ g = h) (hl : x < y) : adG g x h y = h ∧ adN g x h y = y - x := by unfold adG adN; rw [if_neg hg, if_neg hg, if_pos hl, if_pos hl]; exact ⟨rfl, rfl⟩
theorem ad_more {g h : Bool} {x y : Nat} (hg : ¬ g = h) (hl : ¬ x < y) : adG g x h y = g ∧ adN g x h y = x - y := by unfold adG adN; rw [if_neg hg, if_neg hg, if_neg hl, if_neg hl]; exact ⟨rfl, rfl⟩
end Go.Proofs.YtajcapliokblfaaGreatDoor
set_option linter.unusedVariables false
namespace Go.Proofs.YtajcapliokblfaaGreatDoor
open Nt
theorem ndB_mul (a b : Nat) : nd 256 (a * b) ≤ nd 256 a + nd 256 b := by
  refine nd_le (by omega) ?_
  rw [Nat.pow_add]
  have h1 := lt_nd (b := 256) (n := a) (by omega)
  have h2 := lt_nd (b := 256) (n := b) (by omega)
  exact Nat.mul_lt_mul'' h1 h2
theorem ndB_add {a b k : Nat} (ha : nd 256 a ≤ k) (hb : nd 256 b ≤ k) : nd 256 (a + b) ≤ k + 1 := by
  refine nd_le (by omega) ?_
  have h1 := Nat.lt_of_lt_of_le (lt_nd (b := 256) (n := a) (by omega)) (Nat.pow_le_pow_right (by omega) ha)
  have h2 := Nat.lt_of_lt_of_le (lt_nd (b := 256) (n := b) (by omega)) (Nat.pow_le_pow_right (by omega) hb)
  rw [Nat.pow_succ]; omega
theorem ndB_mono {a b : Nat} (h : a ≤ b) : nd 256 a ≤ nd 256 b := nd_mono (by omega) h
/-- A rational number's parts have at most k bytes. -/
def Bq (q : Rat) (k : Nat) : Prop := nd 256 (qN q) ≤ k ∧ nd 256 (qD q) ≤ k
theorem Bq.le {q : Rat} {k m : Nat} (h : Bq q k) (hk : k ≤ m) : Bq q m := ⟨Nat.le_trans h.1 hk, Nat.le_trans h.2 hk⟩
theorem adN_le (g : Bool) (x : Nat) (h : Bool) (y : Nat) : adN g x h y ≤ x + y := by
  unfold adN
  by_cases c : x < y <;> cases g <;> cases h <;> simp [c] <;> omega
theorem Bq_fr {g : Bool} {n d k : Nat} (hd : d ≠ 0) (h1 : nd 256 n ≤ k) (h2 : nd 256 d ≤ k) : Bq (fr g n d) k :=
  ⟨Nat.le_trans (ndB_mono (qN_le g n d hd)) h1, Nat.le_trans (ndB_mono (qD_le g n d hd)) h2⟩
theorem Bq.add {x y : Rat} {k m : Nat} (hx : Bq x k) (hy : Bq y m) : Bq (x + y) (k + m + 1) := by
  rw [← fr_add]
  refine Bq_fr (Nat.mul_ne_zero (qD_pos x) (qD_pos y)) ?_ ?_
  · refine Nat.le_trans (ndB_mono (adN_le _ _ _ _)) (ndB_add (k := k + m) ?_ ?_)
    · have := ndB_mul (qN x) (qD y); have := hx.1; have := hy.2; omega
    · have := ndB_mul (qN y) (qD x); have := hx.2; have := hy.1; omega
  · have := ndB_mul (qD x) (qD y); have := hx.2; have := hy.2; omega
theorem Bq.mul {x y : Rat} {k m : Nat} (hx : Bq x k) (hy : Bq y m) : Bq (x * y) (k + m) := by
  rw [← fr_mul]
  refine Bq_fr (Nat.mul_ne_zero (qD_pos x) (qD_pos y)) ?_ ?_
  · have := ndB_mul (qN x) (qN y); have := hx.1; have := hy.1; omega
  · have := ndB_mul (qD x) (qD y); have := hx.2; have := hy.2; omega
theorem Bq.neg {x : Rat} {k : Nat} (hx : Bq x k) : Bq (-x) k := by
  have := q_neg x
  unfold Bq
  rw [this.2.1, this.2.2]; exact hx
theorem Bq.sub {x y : Rat} {k m : Nat} (hx : Bq x k) (hy : Bq y m) : Bq (x - y) (k + m + 1) := by
  rw [Rat.sub_eq_add_neg]; exact hx.add hy.neg
theorem Bq.quo {x y : Rat} {k m : Nat} (hx : Bq x k) (hy : Bq y m) (h0 : qN y ≠ 0) : Bq (x / y) (k + m) := by
  rw [← fr_quo x y h0]
  refine Bq_fr (Nat.mul_ne_zero (qD_pos x) h0) ?_ ?_
  · have := ndB_mul (qN x) (qD y); have := hx.1; have := hy.2; omega
  · have := ndB_mul (qD x) (qN y); have := hx.2; have := hy.1; omega
end Go.Proofs.YtajcapliokblfaaGreatDoor
set_option linter.unusedSimpArgs false
set_option linter.unusedVariables false
namespace Go.Proofs.YtajcapliokblfaaGreatDoor
open Go Go.RowKit Nt
/-- What a division leaves. -/
def DivPost (q r : Nat) (w : World) (e : Ending) (w' : World) : Prop :=
  ∃ A c A' c', e = .returned (.tuple #[.slice A (nd W q) c, .slice A' (nd W r) c']) ∧ nd W q ≤ c ∧ nd W r ≤ c' ∧ Row w' w'.heap.size A q (nd W q) ∧ Row w' w'.heap.size A' r (nd W r) ∧ Below w.heap.size w w'
theorem one_word {b : Nat} (h : nd W b = 1) : dgt W b 0 = b ∧ b ≠ 0 ∧ b < 18446744073709551616 := by
  have h1 : b < W ^ 1 := (lt_pow_iff W2 1 b).2 (by omega)
  rw [Nat.pow_one] at h1
  refine ⟨by rw [dgt_def, Nat.pow_zero, Nat.div_one, Nat.mod_eq_of_lt h1], fun c => ?_, by rw [← W_eq]; exact h1⟩
  subst c; rw [nd_zero] at h; omega
set_option maxRecDepth 100000 in
set_option maxHeartbeats 1000000 in
theorem Div_one (A A' : Option Addr) (c c' a b : Nat) (w : World) (hb1 : nd W b = 1) (hab : b ≤ a) (hL : nd W a ≤ 1000000000) (hr : Row w w.heap.size A a (nd W a)) (hr' : Row w w.heap.size A' b (nd W b)) :
    Calls Tryz.prog 112 #[.slice A (nd W a) c, .slice A' (nd W b) c'] w (DivPost (a / b) (a % b) w) := by
  have hcmp := cmp_pos hab
  have hcm := Cmp_c A A' c c' a b w.heap.size w hL (by omega) hr hr'
  have HCM := Lib.hid hcm
  obtain ⟨g', rfl, hg', hcell⟩ := hr'.at_ (k := 0) (by omega)
  obtain ⟨e1, e2, e3⟩ := one_word hb1
  rw [e1] at hcell
  have HR := Lib.hid hr
  have HR' := Lib.hid hr'
  have HE2 := Lib.hid e2
  have HE3 := Lib.hid e3
  have HLL := Lib.hid hL
  have H1 := Lib.hid hb1
  rw [hb1] at HCM ⊢
  clear hcm hr hr' e1 e2 e3 hab hL hb1
  go_enter Tryz.func112, Tryz.ntmps112
  go_wp2
  go_step3
  go_wp2_with (first
    | (go_at_call 131; refine HCM.out.mono ?_; rintro e w1 ⟨rfl, nn, rfl⟩)
    | (go_at_call 149; refine (Take_c A c a b _ _ HE2.out HE3.out HLL.out (HR.out.drewN nn) (Nat.le_refl _)).mono ?_; rintro e w2 ⟨A2, c2, rfl, hA2, hs2, hc2, hr2, hb2⟩; have HR2 := Lib.hid hr2; clear hA2 hr2)
    | (go_at_call 164; refine (Of_c _ _ (by exact Nat.lt_of_lt_of_le (Nat.mod_lt _ (Nat.pos_of_ne_zero HE2.out)) (Nat.le_of_lt HE3.out))).mono ?_; intro e w3 hp; obtain ⟨A3, c3, rfl, hc3, hr3, hb3⟩ := hp.get; have HR3 := Lib.hid hr3; clear hr3 hp))
  rw [Exit.noGoto_ret]
  go_ret2
  exact ⟨_, _, _, _, rfl, hc2, hc3, (HR2.out.below hb3).more hb3.size, HR3.out, (below_drewN (Below.refl _ _) nn).trans (hb2.trans (hb3.mono hb2.size))⟩
/-- Two texts and an error. -/
def Str2Post (s t : ByteArray) (r : Int) (w : World) (e : Ending) (w' : World) : Prop := e = .returned (.tuple #[.string s, .string t, .int .i64 r]) ∧ Below w.heap.size w w'
set_option maxRecDepth 100000 in
set_option maxHeartbeats 1000000 in
theorem NDiv_of (a b : Nat) (w : World) (ha : fits a) (hb : fits b) (hb0 : b ≠ 0)
    (hdiv : ∀ (A A' : Option Addr) (c c' : Nat) (w : World), Row w w.heap.size A a (nd W a) → Row w w.heap.size A' b (nd W b) → Calls Tryz.prog 112 #[.slice A (nd W a) c, .slice A' (nd W b) c'] w (DivPost (a / b) (a % b) w)) :
    Calls Tryz.prog 86 #[.string (natS a), .string (natS b)] w (Str2Post (natS (a / b)) (natS (a % b)) 0 w) := by
  have hm := may2 ha hb
  have n1 := natS_full hb0
  have n2 := natS_full2 hb0
  have hq := fits_words (fits_le ha (Nat.div_le_self a b))
  have hrr := fits_words (fits_le ha (Nat.mod_le a b))
  have HDV := Lib.hid hdiv
  clear hdiv
  go_enter Tryz.func86, Tryz.ntmps86
  go_upto_region 6 with (first
    | (go_at_call 109; refine (all_c _ 2 [natS a, natS b] _ (by simp) (strs_new w 22 [natS a, natS b])).mono ?_; rintro e w' ⟨rfl, rfl⟩))
  have hbw : Below w.heap.size w (w.alloc (.cells #[.string (natS a), .string (natS b)] 22)) := (Below.refl _ _).alloc (Nat.le_refl _) _
  generalize w.alloc (.cells #[.string (natS a), .string (natS b)] 22) = w1 at *
  go_wp2_with fail
  refine (words_c a _ ha).mono ?_
  intro e w2 hp
  obtain ⟨A1, c1, rfl, hc1, hr1, hb2⟩ := hp.get
  have HR1 := Lib.hid hr1
  clear hr1 hp
  go_wp2_with fail
  refine (words_c b _ hb).mono ?_
  intro e w3 hp
  obtain ⟨A2, c2, rfl, hc2, hr2, hb3⟩ := hp.get
  have HR2 := Lib.hid hr2
  clear hr2 hp
  go_wp2_with fail
  refine (HDV.out A1 A2 c1 c2 w3 ((HR1.out.below hb3).more hb3.size) HR2.out).mono ?_
  rintro e w4 ⟨A3, c3, A4, c4, rfl, hc3, hc4, hr3, hr4, hb4⟩
  have HR3 := Lib.hid hr3
  have HR4 := Lib.hid hr4
  clear hr3 hr4
  go_wp2_with fail
  refine (Bytes_c A3 c3 (a / b) w4.heap.size w4 (by omega) HR3.out (Nat.le_refl _)).mono ?_
  rintro e w5 ⟨rfl, hb5⟩
  go_wp2_with fail
  refine (Bytes_c A4 c4 (a % b) w5.heap.size w5 (by omega) ((HR4.out.below hb5).more hb5.size) (Nat.le_refl _)).mono ?_
  rintro e w6 ⟨rfl, hb6⟩
  go_wp2
  have hfin : Below w.heap.size w w6 := hbw.trans ((hb2.mono hbw.size).trans ((hb3.mono (Nat.le_trans hbw.size hb2.size)).trans ((hb4.mono (Nat.le_trans hbw.size (Nat.le_trans hb2.size hb3.size))).trans ((hb5.mono (Nat.le_trans hbw.size (Nat.le_trans hb2.size (Nat.le_trans hb3.size hb4.size)))).trans (hb6.mono (Nat.le_trans hbw.size (Nat.le_trans hb2.size (Nat.le_trans hb3.size (Nat.le_trans hb4.size hb5.size)))))))))
  first
    | (go_ret3; exact ⟨rfl, hfin⟩)
    | exact bodyPost_ret (v := .tuple #[.string (natS (a / b)), .string (natS (a % b)), .int .i64 0]) (by simp [results, Tryz.results86, go_sem]) rfl ⟨rfl, hfin⟩
end Go.Proofs.YtajcapliokblfaaGreatDoor
set_option linter.unusedSimpArgs false
set_option linter.unusedVariables false
namespace Nt
/-- The guess is not too small. -/
theorem est_hi {U v k m q : Nat} (hv : W ^ m ≤ v) (h : q * (W ^ k * v) ≤ U) : q ≤ U / W ^ (k + m) / (v / W ^ m) := by
  have hV : 0 < v / W ^ m := Nat.div_pos hv (Nat.pow_pos W0)
  rw [Nat.le_div_iff_mul_le hV, Nat.le_div_iff_mul_le (Nat.pow_pos W0)]
  have h1 : v / W ^ m * W ^ m ≤ v := Nat.div_mul_le_self _ _
  have h2 : q * (W ^ k * (v / W ^ m * W ^ m)) ≤ q * (W ^ k * v) := Nat.mul_le_mul_left _ (Nat.mul_le_mul_left _ h1)
  refine Nat.le_trans (Nat.le_of_eq ?_) (Nat.le_trans h2 h)
  rw [Nat.pow_add, Nat.mul_assoc, Nat.mul_left_comm (v / W ^ m)]
/-- The guess is too great by one at most. -/
theorem est_lo {U v k m g : Nat} (hv : W ^ (m + 1) ≤ v) (hg : g ≤ W) (h : g * (v / W ^ m) ≤ U / W ^ (k + m)) : g * (W ^ k * v) ≤ U + W ^ k * v := by
  have h1 := Nat.mod_add_div v (W ^ m)
  have h2 : v % W ^ m < W ^ m := Nat.mod_lt _ (Nat.pow_pos W0)
  have h3 : g * (v / W ^ m) * W ^ (k + m) ≤ U := by
    rwa [Nat.le_div_iff_mul_le (Nat.pow_pos W0)] at h
  have h4 : g * (v % W ^ m) ≤ W * W ^ m := Nat.mul_le_mul hg (Nat.le_of_lt h2)
  have h5 : W * W ^ m = W ^ (m + 1) := by rw [Nat.pow_succ, Nat.mul_comm]
  have h6 : g * (W ^ k * v) = W ^ k * (g * (v % W ^ m)) + g * (v / W ^ m) * W ^ (k + m) := by
    conv => lhs; rw [← h1]
    rw [Nat.mul_add, Nat.mul_add, Nat.pow_add]
    congr 1
    · rw [Nat.mul_left_comm]
    · rw [Nat.mul_assoc, Nat.mul_left_comm (v / W ^ m), Nat.mul_comm (v / W ^ m)]
  have h7 : W ^ k * (g * (v % W ^ m)) ≤ W ^ k * v := Nat.mul_le_mul_left _ (by omega)
  omega
/-- The guess where the highest words are the same. -/
theorem est_top {U v k n x y : Nat} (hx : x = v / W ^ n) (hy : y = U / W ^ (k + n + 1)) (hxy : x ≤ y) (hn : W ≤ 2 * x) : (W - 2) * (W ^ k * v) ≤ U := by
  have h1 := Nat.mod_add_div v (W ^ n)
  have h2 : v % W ^ n < W ^ n := Nat.mod_lt _ (Nat.pow_pos W0)
  have h3 : y * W ^ (k + n + 1) ≤ U := by rw [hy]; exact Nat.div_mul_le_self _ _
  rw [← hx] at h1
  have hv : v ≤ W ^ n * (x + 1) := by rw [Nat.mul_add]; omega
  have h4 : (W - 2) * (x + 1) ≤ x * W := by
    obtain ⟨c, hc⟩ : ∃ c, W = c + 2 := ⟨W - 2, by have := W2; omega⟩
    rw [hc] at hn ⊢
    rw [Nat.add_sub_cancel, Nat.mul_add, Nat.mul_add, Nat.mul_comm c x]; omega
  calc (W - 2) * (W ^ k * v) ≤ (W - 2) * (W ^ k * (W ^ n * (x + 1))) := Nat.mul_le_mul_left _ (Nat.mul_le_mul_left _ hv)
    _ = W ^ (k + n) * ((W - 2) * (x + 1)) := by rw [Nat.pow_add]; simp only [Nat.mul_left_comm, Nat.mul_comm, Nat.mul_assoc]
    _ ≤ W ^ (k + n) * (x * W) := Nat.mul_le_mul_left _ h4
    _ = x * W ^ (k + n + 1) := by rw [Nat.pow_succ]; simp only [Nat.mul_left_comm, Nat.mul_comm, Nat.mul_assoc]
    _ ≤ y * W ^ (k + n + 1) := Nat.mul_le_mul_right _ hxy
    _ ≤ U := h3
/-- What the guess of a digit is. -/
def guessN (u2 u1 u0 v1 v0 : Nat) : Nat := if v1 ≤ u2 then W - 1 else ((u2 * W + u1) * W + u0) / (v1 * W + v0)
theorem turn3 (a b c w : Nat) : a + w * (b + w * c) = (c * w + b) * w + a := by
  rw [Nat.mul_comm (c * w + b) w, Nat.mul_comm c w, Nat.add_comm (w * c) b, Nat.add_comm _ a]
theorem turn2 (a b w : Nat) : a + w * b = b * w + a := by rw [Nat.mul_comm b w, Nat.add_comm _ a]
theorem three (U j : Nat) (h : U < W ^ (j + 3)) : U / W ^ j = (dgt W U (j + 2) * W + dgt W U (j + 1)) * W + dgt W U j := by
  have e1 := div_eq_dgt W0 U j
  have e2 := div_eq_dgt W0 U (j + 1)
  have e3 := div_eq_dgt W0 U (j + 2)
  have e4 : U / W ^ (j + 2 + 1) = 0 := Nat.div_eq_of_lt h
  rw [e4, Nat.mul_zero] at e3
  have e5 : U / W ^ (j + 1 + 1) = dgt W U (j + 2) := e3.trans (Nat.add_zero _)
  rw [e5] at e2
  rw [e2] at e1
  rw [e1]
  exact turn3 _ _ _ _
theorem two_w (v j : Nat) (h : v < W ^ (j + 2)) : v / W ^ j = dgt W v (j + 1) * W + dgt W v j := by
  have e1 := div_eq_dgt W0 v j
  have e2 := div_eq_dgt W0 v (j + 1)
  have e4 : v / W ^ (j + 1 + 1) = 0 := Nat.div_eq_of_lt h
  rw [e4, Nat.mul_zero] at e2
  rw [e2.trans (Nat.add_zero _)] at e1
  rw [e1]
  exact turn2 _ _ _
theorem top_w (v j : Nat) (h : v < W ^ (j + 1)) : v / W ^ j = dgt W v j := by
  have e := div_eq_dgt W0 v j
  rw [Nat.div_eq_of_lt h, Nat.mul_zero] at e
  exact e.trans (Nat.add_zero _)
/-- The guess is the digit, or one more. -/
theorem guess_ok {U v k m : Nat} (hv : v < W ^ (m + 2)) (hn : W ^ (m + 2) ≤ 2 * v) (hU : U < W * (W ^ k * v)) :
    guessN (dgt W U (k + m + 2)) (dgt W U (k + m + 1)) (dgt W U (k + m)) (dgt W v (m + 1)) (dgt W v m) < W ∧
    (U / (W ^ k * v) = guessN (dgt W U (k + m + 2)) (dgt W U (k + m + 1)) (dgt W U (k + m)) (dgt W v (m + 1)) (dgt W v m) ∨
     U / (W ^ k * v) + 1 = guessN (dgt W U (k + m + 2)) (dgt W U (k + m + 1)) (dgt W U (k + m)) (dgt W v (m + 1)) (dgt W v m)) := by
  have hp := Nat.pow_pos (n := m) W0
  have hpk := Nat.pow_pos (n := k) W0
  have hw := W2
  have hv0 : W ^ (m + 1) ≤ v := by
    have : W ^ (m + 2) = W ^ (m + 1) * W := Nat.pow_succ ..
    have h2 : W ^ (m + 1) * 2 ≤ W ^ (m + 1) * W := Nat.mul_le_mul_left _ hw
    omega
  have hv1 : W ^ m ≤ v := Nat.le_trans (Nat.pow_le_pow_right W0 (by omega)) hv0
  have hvp : 0 < v := Nat.lt_of_lt_of_le hp hv1
  have hV : 0 < W ^ k * v := Nat.mul_pos hpk hvp
  have hUW : U < W ^ (k + m + 3) := by
    refine Nat.lt_trans hU ?_
    have : W ^ (k + m + 3) = W * (W ^ k * W ^ (m + 2)) := by
      rw [← Nat.pow_add, ← Nat.pow_succ', show (k + (m + 2)).succ = k + m + 3 by omega]
    rw [this]
    exact (Nat.mul_lt_mul_left W0).2 ((Nat.mul_lt_mul_left hpk).2 hv)
  obtain ⟨q, hq⟩ : ∃ q, q = U / (W ^ k * v) := ⟨_, rfl⟩
  have hqle : q * (W ^ k * v) ≤ U := by rw [hq]; exact Nat.div_mul_le_self _ _
  have hqlt : U < (q + 1) * (W ^ k * v) := by
    rw [hq]
    have := Nat.lt_mul_div_succ U hV
    rwa [Nat.mul_comm] at this
  have hqW : q < W := by
    rw [hq, Nat.div_lt_iff_lt_mul hV]; exact hU
  rw [← hq]
  -- one bound suffices
  have main : ∀ g, g ≤ W → q ≤ g → g * (W ^ k * v) ≤ U + W ^ k * v → q = g ∨ q + 1 = g := fun g _ h1 h2 => by
    have h3 : g * (W ^ k * v) < (q + 2) * (W ^ k * v) := by
      have : (q + 2) * (W ^ k * v) = (q + 1) * (W ^ k * v) + W ^ k * v := by rw [← Nat.succ_mul]
      omega
    have := Nat.lt_of_mul_lt_mul_right h3
    omega
  unfold guessN
  by_cases hc : dgt W v (m + 1) ≤ dgt W U (k + m + 2)
  · rw [if_pos hc]
    refine ⟨by omega, main _ (by omega) (by omega) ?_⟩
    have hx : dgt W v (m + 1) = v / W ^ (m + 1) := (top_w v (m + 1) hv).symm
    have hy : dgt W U (k + m + 2) = U / W ^ (k + (m + 1) + 1) := (top_w U (k + m + 2) hUW).symm
    have hn2 : W ≤ 2 * dgt W v (m + 1) := by
      rw [hx]
      have h1 := Nat.lt_mul_div_succ v (Nat.pow_pos (n := m + 1) W0)
      have h2 : W ^ (m + 2) = W ^ (m + 1) * W := Nat.pow_succ ..
      have h3 : W ^ (m + 1) * W < W ^ (m + 1) * (2 * (v / W ^ (m + 1) + 1)) := by
        rw [← h2, Nat.mul_left_comm]; omega
      have h4 := Nat.lt_of_mul_lt_mul_left h3
      have h5 : W % 2 = 0 := by rw [W_eq]
      omega
    have ht := est_top (U := U) (v := v) (k := k) (n := m + 1) hx hy hc hn2
    have : (W - 1) * (W ^ k * v) = (W - 2) * (W ^ k * v) + W ^ k * v := by
      rw [← Nat.succ_mul]; congr 1; omega
    omega
  · rw [if_neg hc]
    have e1 := three U (k + m) hUW
    have e2 := two_w v m hv
    rw [← e1, ← e2]
    have hV2 : 0 < v / W ^ m := Nat.div_pos hv1 hp
    have h1 := est_hi (q := q) (k := k) hv1 hqle
    have hgle : U / W ^ (k + m) / (v / W ^ m) * (v / W ^ m) ≤ U / W ^ (k + m) := Nat.div_mul_le_self _ _
    have hgW : U / W ^ (k + m) / (v / W ^ m) < W := by
      rw [Nat.div_lt_iff_lt_mul hV2, e1, e2]
      have hu1 := dgt_lt W0 U (k + m + 1)
      have hu0 := dgt_lt W0 U (k + m)
      have h2 : dgt W U (k + m + 2) + 1 ≤ dgt W v (m + 1) := by omega
      have h3 : (dgt W U (k + m + 2) + 1) * W * W ≤ dgt W v (m + 1) * W * W := Nat.mul_le_mul_right _ (Nat.mul_le_mul_right _ h2)
      have h4 : dgt W U (k + m + 1) * W + W ≤ W * W := by
        have := Nat.mul_le_mul_right W (show dgt W U (k + m + 1) + 1 ≤ W from hu1)
        rwa [Nat.add_mul, Nat.one_mul] at this
      rw [Nat.add_mul, Nat.add_mul, Nat.one_mul] at h3
      rw [Nat.add_mul, Nat.mul_add, Nat.mul_comm W (dgt W v (m + 1) * W)]
      have := Nat.zero_le (W * dgt W v m)
      omega
    exact ⟨hgW, main _ (by omega) h1 (est_lo hv0 (by omega) hgle)⟩
end Nt
set_option linter.unusedSimpArgs false
set_option linter.unusedVariables false
namespace Nt
/-- A multiple is being taken away: the words up to i are done. -/
def subI (U v q k i Z c b : Nat) : Prop := Z + W ^ k * (q * (v % W ^ i)) = U + W ^ (k + i) * (b + c)
theorem subI_first (U v q k : Nat) : subI U v q k 0 U 0 0 := by
  unfold subI; rw [Nat.pow_zero, Nat.mod_one, Nat.mul_zero, Nat.mul_zero, Nat.add_zero, Nat.mul_zero, Nat.add_zero]
theorem subI_step {U v q k i Z c b s d b' : Nat} (h : subI U v q k i Z c b) (hs : s = q * dgt W v i + c) (hd : d + s % W + b = dgt W Z (k + i) + W * b') :
    subI U v q k (i + 1) (put W Z (k + i) d) (s / W) b' := by
  unfold subI at h ⊢
  have h1 := put_eq (b := W) Z (k + i) d W0
  have h2 := Nat.mod_add_div s W
  have h3 : W ^ k * (q * (v % W ^ (i + 1))) = W ^ k * (q * (v % W ^ i)) + W ^ (k + i) * (q * dgt W v i) := by
    rw [mod_succ, Nat.mul_add, Nat.mul_add, Nat.pow_add]
    congr 1
    rw [Nat.mul_left_comm q, Nat.mul_assoc]
  have h4 : W ^ (k + (i + 1)) * (b' + s / W) = W ^ (k + i) * (W * b') + W ^ (k + i) * (W * (s / W)) := by
    rw [← Nat.add_assoc, Nat.pow_succ, Nat.mul_assoc, Nat.mul_add, Nat.mul_add]
  have h5 : W ^ (k + i) * d + W ^ (k + i) * (s % W) + W ^ (k + i) * b = W ^ (k + i) * dgt W Z (k + i) + W ^ (k + i) * (W * b') := by
    rw [← Nat.mul_add, ← Nat.mul_add, ← Nat.mul_add, hd]
  have h6 : W ^ (k + i) * (s % W) + W ^ (k + i) * (W * (s / W)) = W ^ (k + i) * (q * dgt W v i) + W ^ (k + i) * c := by
    rw [← Nat.mul_add, ← Nat.mul_add, h2, hs]
  rw [Nat.mul_add] at h
  rw [h3, h4]
  omega
theorem subI_last {U v q k n Z b : Nat} (h : subI U v q k (n + 1) Z 0 b) (hv : v < W ^ n) : Z + W ^ k * (q * v) = U + W ^ (k + n + 1) * b := by
  unfold subI at h
  rw [Nat.mod_eq_of_lt (Nat.lt_trans hv (Nat.pow_lt_pow_right W2 (by omega)))] at h
  exact h
/-- The divisor is being added back. -/
def addI (U v k i Z c : Nat) : Prop := Z + W ^ (k + i) * c = U + W ^ k * (v % W ^ i)
theorem addI_first (U v k : Nat) : addI U v k 0 U 0 := by
  unfold addI; rw [Nat.pow_zero, Nat.mod_one, Nat.mul_zero, Nat.mul_zero]
theorem addI_step {U v k i Z c d c' : Nat} (h : addI U v k i Z c) (hd : d + W * c' = dgt W Z (k + i) + dgt W v i + c) :
    addI U v k (i + 1) (put W Z (k + i) d) c' := by
  unfold addI at h ⊢
  have h1 := put_eq (b := W) Z (k + i) d W0
  have h3 : W ^ k * (v % W ^ (i + 1)) = W ^ k * (v % W ^ i) + W ^ (k + i) * dgt W v i := by
    rw [mod_succ, Nat.mul_add, Nat.pow_add, Nat.mul_assoc]
  have h4 : W ^ (k + (i + 1)) * c' = W ^ (k + i) * (W * c') := by rw [← Nat.add_assoc, Nat.pow_succ, Nat.mul_assoc]
  have h5 : W ^ (k + i) * d + W ^ (k + i) * (W * c') = W ^ (k + i) * dgt W Z (k + i) + W ^ (k + i) * dgt W v i + W ^ (k + i) * c := by
    rw [← Nat.mul_add, ← Nat.mul_add, ← Nat.mul_add, hd]
  rw [h3, h4]
  omega
theorem addI_last {U v k n Z c : Nat} (h : addI U v k (n + 1) Z c) (hv : v < W ^ n) : Z + W ^ (k + n + 1) * c = U + W ^ k * v := by
  unfold addI at h
  rw [Nat.mod_eq_of_lt (Nat.lt_trans hv (Nat.pow_lt_pow_right W2 (by omega)))] at h
  exact h
/-- What stands behind a digit's step: no borrow. -/
theorem step_fine {U v q k n Z g : Nat} (hg : q = g ∨ q + 1 = g) (hq : q = U / (W ^ k * v)) (hv : 0 < v) (h : Z + W ^ k * (g * v) = U) : q = g ∧ Z = U % (W ^ k * v) := by
  have hV : 0 < W ^ k * v := Nat.mul_pos (Nat.pow_pos W0) hv
  have h1 := Nat.mod_add_div U (W ^ k * v)
  have h2 := Nat.mod_lt U hV
  rw [← hq] at h1
  rw [Nat.mul_left_comm] at h
  rcases hg with rfl | hg
  · refine ⟨rfl, ?_⟩
    rw [Nat.mul_comm (W ^ k * v)] at h1; omega
  · rw [← hg, Nat.add_mul] at h
    rw [Nat.mul_comm (W ^ k * v)] at h1; omega
/-- .. a borrow, and the divisor added back. -/
theorem step_back {U v q k n Z Z' g c : Nat} (hg : q = g ∨ q + 1 = g) (hq : q = U / (W ^ k * v)) (hv0 : 0 < v) (hv : v < W ^ n) (hU : U < W ^ (k + n + 1)) (hZ : Z < W ^ (k + n + 1)) (hZ' : Z' < W ^ (k + n + 1)) (hc : c ≤ 1)
    (h : Z + W ^ k * (g * v) = U + W ^ (k + n + 1)) (hb : Z' + W ^ (k + n + 1) * c = Z + W ^ k * v) : q + 1 = g ∧ Z' = U % (W ^ k * v) := by
  have hV : 0 < W ^ k * v := Nat.mul_pos (Nat.pow_pos W0) hv0
  have h1 := Nat.mod_add_div U (W ^ k * v)
  have h2 := Nat.mod_lt U hV
  rw [← hq] at h1
  rw [Nat.mul_left_comm] at h
  have h3 : W ^ k * v < W ^ (k + n + 1) := by
    rw [Nat.add_assoc, Nat.pow_add]
    exact (Nat.mul_lt_mul_left (Nat.pow_pos W0)).2 (Nat.lt_trans hv (Nat.pow_lt_pow_right W2 (by omega)))
  rw [Nat.mul_comm (W ^ k * v)] at h1
  rcases hg with rfl | hg
  · omega
  · refine ⟨hg, ?_⟩
    rw [← hg, Nat.add_mul, Nat.one_mul] at h
    generalize W ^ (k + n + 1) = M at *
    generalize W ^ k * v = V at *
    generalize q * V = S at *
    have : c = 0 ∨ c = 1 := by omega
    rcases this with rfl | rfl
    · omega
    · omega
/-- The whole so far: the words above k are done. -/
def divI (A v Q U k : Nat) : Prop := A = U + v * (W ^ k * Q) ∧ U < W ^ k * v
theorem divI_step {A v Q U k q : Nat} (h : divI A v Q U (k + 1)) (hq : q = U / (W ^ k * v)) (hv : 0 < v) : divI A v (q + W * Q) (U % (W ^ k * v)) k := by
  have hV : 0 < W ^ k * v := Nat.mul_pos (Nat.pow_pos W0) hv
  have h1 := Nat.mod_add_div U (W ^ k * v)
  refine ⟨?_, Nat.mod_lt _ hV⟩
  rw [← hq] at h1
  obtain ⟨h2, _⟩ := h
  have h3 : v * (W ^ k * (q + W * Q)) = W ^ k * v * q + v * (W ^ (k + 1) * Q) := by
    rw [Nat.mul_add, Nat.mul_add, Nat.pow_succ, Nat.mul_assoc (W ^ k) W, Nat.mul_left_comm v, Nat.mul_assoc (W ^ k) v]
  rw [h3]; omega
theorem divI_lt {A v Q U k : Nat} (h : divI A v Q U (k + 1)) : U < W * (W ^ k * v) := by
  have := h.2
  rwa [Nat.pow_succ, Nat.mul_comm (W ^ k) W, Nat.mul_assoc] at this
theorem divI_end {a b A v Q U by_ : Nat} (h : divI A v Q U 0) (hA : A = a * 2 ^ by_) (hv : v = b * 2 ^ by_) (hb : 0 < b) : Q = a / b ∧ U / 2 ^ by_ = a % b := by
  obtain ⟨h1, h2⟩ := h
  rw [Nat.pow_zero, Nat.one_mul] at h1 h2
  have hp := Nat.two_pow_pos by_
  generalize 2 ^ by_ = p at *
  subst hA hv
  have hU : U / p < b := by rw [Nat.div_lt_iff_lt_mul hp]; exact h2
  have e1 : U = p * (U / p) := by
    have h3 := Nat.mod_add_div U p
    have h4 : U % p = 0 := by
      have h5 : (U + b * p * Q) % p = 0 := by rw [← h1]; exact Nat.mul_mod_left _ _
      rw [Nat.mul_right_comm, Nat.add_mul_mod_self_right] at h5
      exact h5
    omega
  have e2 : a = U / p + b * Q := by
    refine Nat.eq_of_mul_eq_mul_right hp ?_
    rw [h1, Nat.add_mul, Nat.mul_right_comm b Q p]
    congr 1
    rw [Nat.mul_comm]; exact e1
  have e3 : a / b = Q := by
    rw [e2, Nat.add_mul_div_left _ _ hb, Nat.div_eq_of_lt hU, Nat.zero_add]
  refine ⟨e3.symm, ?_⟩
  rw [e2, Nat.add_mul_mod_self_left, Nat.mod_eq_of_lt hU]
/-- The guess's loop. -/
def gueI (u2 u1 u0 v1 v0 q r : Nat) : Prop := q * v1 + r = u2 * W + u1 ∧ ((u2 * W + u1) * W + u0) / (v1 * W + v0) ≤ q ∧ q < W
theorem gue_first {u2 u1 u0 v1 v0 : Nat} (h : u2 < v1) (h1 : u1 < W) (h0 : u0 < W) : gueI u2 u1 u0 v1 v0 ((u2 * W + u1) / v1) ((u2 * W + u1) % v1) := by
  have hv : 0 < v1 := by omega
  have e1 := Nat.mod_add_div (u2 * W + u1) v1
  have hV : 0 < v1 * W + v0 := by have := Nat.mul_pos hv W0; omega
  refine ⟨by rw [Nat.mul_comm]; omega, ?_, ?_⟩
  · rw [← Nat.lt_succ_iff, Nat.div_lt_iff_lt_mul hV]
    have h2 := Nat.lt_mul_div_succ (u2 * W + u1) hv
    have h3 : (u2 * W + u1 + 1) * W ≤ v1 * ((u2 * W + u1) / v1 + 1) * W := Nat.mul_le_mul_right _ h2
    rw [Nat.add_mul, Nat.one_mul] at h3
    have h4 : ((u2 * W + u1) / v1).succ * (v1 * W + v0) = v1 * ((u2 * W + u1) / v1 + 1) * W + ((u2 * W + u1) / v1 + 1) * v0 := by
      rw [Nat.mul_add, ← Nat.mul_assoc, Nat.mul_comm v1]
    rw [h4]
    omega
  · rw [Nat.div_lt_iff_lt_mul hv]
    have h2 : (u2 + 1) * W ≤ v1 * W := Nat.mul_le_mul_right _ h
    rw [Nat.add_mul, Nat.one_mul] at h2
    rw [Nat.mul_comm W]; omega
theorem gue_done {u2 u1 u0 v1 v0 q r : Nat} (h : gueI u2 u1 u0 v1 v0 q r) (hv : 0 < v1) (ht : q * v0 ≤ r * W + u0) : q = ((u2 * W + u1) * W + u0) / (v1 * W + v0) := by
  obtain ⟨h1, h2, _⟩ := h
  have hV : 0 < v1 * W + v0 := by have := Nat.mul_pos hv W0; omega
  refine Nat.le_antisymm ?_ h2
  rw [Nat.le_div_iff_mul_le hV, ← h1]
  have : q * (v1 * W + v0) = q * v1 * W + q * v0 := by rw [Nat.mul_add, Nat.mul_assoc]
  rw [this, Nat.add_mul]; omega
theorem gue_next {u2 u1 u0 v1 v0 q r : Nat} (h : gueI u2 u1 u0 v1 v0 q r) (hv : 0 < v1) (ht : r * W + u0 < q * v0) : 0 < q ∧ gueI u2 u1 u0 v1 v0 (q - 1) (r + v1) := by
  obtain ⟨h1, h2, h3⟩ := h
  have hq : 0 < q := by
    rcases Nat.eq_zero_or_pos q with c | c
    · rw [c, Nat.zero_mul] at ht; omega
    · exact c
  have hV : 0 < v1 * W + v0 := by have := Nat.mul_pos hv W0; omega
  obtain ⟨x, rfl⟩ : ∃ x, q = x + 1 := ⟨q - 1, by omega⟩
  refine ⟨hq, ?_, ?_, ?_⟩
  · rw [Nat.add_sub_cancel]; rw [Nat.add_mul, Nat.one_mul] at h1; omega
  · rw [Nat.add_sub_cancel, ← Nat.lt_succ_iff, Nat.div_lt_iff_lt_mul hV, ← h1]
    have : x.succ * (v1 * W + v0) = (x + 1) * v1 * W + (x + 1) * v0 := by rw [Nat.mul_add, Nat.mul_assoc]
    rw [this, Nat.add_mul ((x + 1) * v1)]; omega
  · omega
theorem gue_full {u0 v0 q r : Nat} (hq : q < W) (hv : v0 < W) (hr : W ≤ r) : q * v0 ≤ r * W + u0 := by
  have h1 : q * v0 ≤ W * W := Nat.mul_le_mul (by omega) (by omega)
  have h2 : W * W ≤ r * W := Nat.mul_le_mul_right _ hr
  omega
/-- The product's two words tell the test. -/
theorem two_words {p r u0 : Nat} (hu : u0 < W) : p ≤ r * W + u0 ↔ p / W < r ∨ (p / W = r ∧ p % W ≤ u0) := by
  have h := Nat.mod_add_div p W
  have h2 := Nat.mod_lt p W0
  constructor
  · intro h1
    rcases Nat.lt_trichotomy (p / W) r with c | c | c
    · exact Or.inl c
    · refine Or.inr ⟨c, ?_⟩
      rw [c, Nat.mul_comm W] at h; omega
    · have h3 : W * (r + 1) ≤ W * (p / W) := Nat.mul_le_mul_left _ c
      rw [Nat.mul_add, Nat.mul_comm W r] at h3; omega
  · rintro (c | ⟨c, d⟩)
    · have h3 : W * (p / W + 1) ≤ W * r := Nat.mul_le_mul_left _ c
      rw [Nat.mul_add, Nat.mul_comm W r] at h3; omega
    · rw [c, Nat.mul_comm W] at h; omega
/-- The divisor with its highest bit set. -/
theorem normed {b n s : Nat} (hn : nd W b = n + 1) (hs : nd 2 (dgt W b n) + s = 64) : b * 2 ^ s < W ^ (n + 1) ∧ W ^ (n + 1) ≤ 2 * (b * 2 ^ s) := by
  have hb : b < W ^ (n + 1) := by rw [← hn]; exact lt_nd W2
  have h1 := Nat.mod_add_div b (W ^ n)
  rw [top_w b n hb] at h1
  have h2 := Nat.mod_lt b (Nat.pow_pos (n := n) W0)
  have ht0 : dgt W b n ≠ 0 := by
    have := dgt_top (b := W) (n := b) W2 (fun c => by rw [c, nd_zero] at hn; omega)
    rwa [hn, Nat.add_sub_cancel] at this
  generalize dgt W b n = t at *
  have h3 : t < 2 ^ nd 2 t := lt_nd (by omega)
  have hnz : nd 2 t ≠ 0 := fun c => ht0 ((nd_eq_zero (by omega)).1 c)
  have h4 : 2 ^ (nd 2 t - 1) ≤ t := (pow_le_iff (by omega) _ _).2 (by omega)
  have h5 : 2 ^ nd 2 t = 2 ^ (nd 2 t - 1) * 2 := by rw [← Nat.pow_succ]; congr 1; omega
  have hW : 2 ^ nd 2 t * 2 ^ s = W := by rw [← Nat.pow_add, hs, W_eq]
  have h6 : (t + 1) * 2 ^ s ≤ W := by rw [← hW]; exact Nat.mul_le_mul_right _ h3
  have h7 : W ≤ 2 * t * 2 ^ s := by rw [← hW]; exact Nat.mul_le_mul_right _ (by rw [h5]; omega)
  have hp := Nat.two_pow_pos s
  constructor
  · have h8 : b < W ^ n * (t + 1) := by rw [Nat.mul_add]; omega
    have h9 : b * 2 ^ s < W ^ n * (t + 1) * 2 ^ s := (Nat.mul_lt_mul_right hp).2 h8
    rw [Nat.mul_assoc] at h9
    refine Nat.lt_of_lt_of_le h9 ?_
    rw [Nat.pow_succ]
    exact Nat.mul_le_mul_left _ h6
  · rw [Nat.pow_succ]
    have h8 : W ^ n * t ≤ b := Nat.le_trans (Nat.le_add_left _ _) (Nat.le_of_eq h1)
    have h9 : W ^ n * W ≤ W ^ n * (2 * t * 2 ^ s) := Nat.mul_le_mul_left _ h7
    refine Nat.le_trans h9 ?_
    have h10 : W ^ n * (2 * t * 2 ^ s) = 2 * (W ^ n * t * 2 ^ s) := by
      rw [Nat.mul_assoc 2, Nat.mul_left_comm, Nat.mul_assoc (W ^ n)]
    rw [h10]
    exact Nat.mul_le_mul_left _ (Nat.mul_le_mul_right _ h8)
end Nt
set_option linter.unusedSimpArgs false
set_option linter.unusedVariables false
namespace Go.Proofs.YtajcapliokblfaaGreatDoor
open Go Go.RowKit Nt
theorem addc64 (x y : Nat) : ∃ s c : Nat, (∀ w, (callFunc 173 #[.int .u64 (x : Nat), .int .u64 (y : Nat), .int .u64 0]).run Tryz.prog w = .ok (.value (.tuple #[.int .u64 (s : Nat), .int .u64 (c : Nat)])) w) ∧
    s = (x + y) % 18446744073709551616 ∧ c = (x + y) / 18446744073709551616 :=
  ⟨_, _, fun w => Tryz.bits_Add64 x y 0 (by omega) w, by rw [Nat.add_zero], by rw [Nat.add_zero]⟩
theorem mul_two (x y : Nat) (hx : x < 18446744073709551616) (hy : y < 18446744073709551616) : ∃ hi lo : Nat, (∀ w, Calls Tryz.prog 172 #[.int .u64 (x : Nat), .int .u64 (y : Nat)] w fun e w' => e = .returned (.tuple #[.int .u64 (hi : Nat), .int .u64 (lo : Nat)]) ∧ w = w') ∧
    hi = x * y / W ∧ lo = x * y % W := by
  refine ⟨x * y / 18446744073709551616, x * y % 18446744073709551616, fun w => ?_, by rw [W_eq], by rw [W_eq]⟩
  refine (Tryz.bits_Mul64 x y hx hy w).mono ?_
  rintro e w' ⟨rfl, rfl⟩; exact ⟨rfl, rfl⟩
theorem div_two (hi lo y : Nat) (hhy : hi < y) (hy : y < 18446744073709551616) (hlo : lo < 18446744073709551616) : ∃ q r : Nat, (∀ w, Calls Tryz.prog 182 #[.int .u64 (hi : Nat), .int .u64 (lo : Nat), .int .u64 (y : Nat)] w fun e w' => e = .returned (.tuple #[.int .u64 (q : Nat), .int .u64 (r : Nat)]) ∧ ∃ n, w' = w.drewN n) ∧
    q = (hi * W + lo) / y ∧ r = (hi * W + lo) % y :=
  ⟨_, _, fun w => Div64_c hi lo y w hhy hy hlo, by rw [W_eq], by rw [W_eq]⟩
set_option maxRecDepth 100000 in
theorem Digit_top (u2 u1 u0 v1 v0 : Nat) (w : World) (h : v1 ≤ u2) :
    Calls Tryz.prog 166 #[.int .u64 (u2 : Nat), .int .u64 (u1 : Nat), .int .u64 (u0 : Nat), .int .u64 (v1 : Nat), .int .u64 (v0 : Nat)] w fun e w' => e = .returned (.int .u64 (guessN u2 u1 u0 v1 v0 : Nat)) ∧ Drawn w w' := by
  have hg : ((guessN u2 u1 u0 v1 v0 : Nat) : Int) = 18446744073709551615 := by unfold guessN; rw [if_pos h, W_eq]; rfl
  have HG := Lib.hid hg
  have h2 : (v1 : Int) ≤ (u2 : Int) := by omega
  clear hg
  go_enter Tryz.func166, Tryz.ntmps166
  go_wp2_with fail
  go_ret
  exact ⟨by rw [HG.out]; rfl, Drawn.refl _⟩
set_option maxRecDepth 100000 in
set_option maxHeartbeats 1000000 in
theorem Digit_c (u2 u1 u0 v1 v0 : Nat) (w : World) (h : u2 < v1) (hv1 : v1 < 18446744073709551616) (hu1 : u1 < 18446744073709551616) (hu0 : u0 < 18446744073709551616) (hv0 : v0 < 18446744073709551616) :
    Calls Tryz.prog 166 #[.int .u64 (u2 : Nat), .int .u64 (u1 : Nat), .int .u64 (u0 : Nat), .int .u64 (v1 : Nat), .int .u64 (v0 : Nat)] w fun e w' => e = .returned (.int .u64 (guessN u2 u1 u0 v1 v0 : Nat)) ∧ Drawn w w' := by
  have hg : guessN u2 u1 u0 v1 v0 = ((u2 * W + u1) * W + u0) / (v1 * W + v0) := by unfold guessN; rw [if_neg (by omega)]
  obtain ⟨q0, r0, hdiv, hq0, hr0⟩ := div_two u2 u1 v1 h hv1 hu1
  have hw := W_eq
  have hfirst := gue_first (u2 := u2) (u1 := u1) (u0 := u0) (v1 := v1) (v0 := v0) h (by omega) (by omega)
  rw [← hq0, ← hr0] at hfirst
  have hr0v : r0 < v1 := by rw [hr0]; exact Nat.mod_lt _ (by omega)
  have HG := Lib.hid hg
  have KD := Lib.hid hdiv
  have HF := Lib.hid hfirst
  have HR0 := Lib.hid (show r0 < 18446744073709551616 by omega)
  have HV1 := Lib.hid hv1
  have HV1P := Lib.hid (show 0 < v1 by omega)
  have HV0 := Lib.hid hv0
  have HU0 := Lib.hid hu0
  have h2 : ¬ (v1 : Int) ≤ (u2 : Int) := by omega
  clear hg hdiv hq0 hr0 hw hfirst hr0v hv1 hu1 hu0 hv0 h
  go_enter Tryz.func166, Tryz.ntmps166
  go_wp2_with fail
  refine (KD.out _).mono ?_
  rintro e w1 ⟨rfl, nn, rfl⟩
  have hdr : Drawn w (w.drewN nn) := ⟨nn, rfl⟩
  generalize w.drewN nn = w1 at *
  have HDR := Lib.hid hdr
  clear hdr
  go_wp2_with fail
  go_loopw [11, 12] (fun x y wr => ∃ q r : Nat, x = .int .u64 q ∧ y = .int .u64 r ∧ Hid (gueI u2 u1 u0 v1 v0 q r) ∧ Hid (r < 18446744073709551616) ∧ w1 = wr) (fun x _ _ => (intOf x).toNat)
  case atStart => exact ⟨q0, r0, rfl, rfl, HF, HR0, rfl⟩
  case round =>
    obtain ⟨q, r, rfl, rfl, hgu, hr, rfl⟩ := hrel
    have hqW : q < 18446744073709551616 := by have := hgu.out.2.2; have := W_eq; omega
    obtain ⟨hi, lo, hmul, hhi, hlo⟩ := mul_two q v0 hqW HV0.out
    have KM := Lib.hid hmul
    have htw := two_words (p := q * v0) (r := r) (u0 := u0) (by have := HU0.out; have := W_eq; omega)
    rw [← hhi, ← hlo] at htw
    by_cases ht : q * v0 ≤ r * W + u0
    · have hq := gue_done hgu.out HV1P.out ht
      have HQ := Lib.hid (HG.out.trans hq.symm)
      have hc := htw.1 ht
      have hc2 : hi < r ∨ (¬ hi < r ∧ hi = r ∧ lo ≤ u0) := by
        rcases hc with c | ⟨c, d⟩
        · exact Or.inl c
        · exact Or.inr ⟨by omega, c, d⟩
      clear hmul htw ht hq hc hhi hlo hqW
      rcases hc2 with c | ⟨c1, rfl, c3⟩
      all_goals
        go_wp2_with fail
        refine (KM.out _).mono ?_
        rintro e w2 ⟨rfl, rfl⟩
        go_wp2_with fail
        go_ret
        exact ⟨by rw [HQ.out]; rfl, HDR.out⟩
    · obtain ⟨hq0, hnext⟩ := gue_next hgu.out HV1P.out (by omega)
      have hc2 : ¬ hi < r ∧ (¬ hi = r ∨ (hi = r ∧ ¬ lo ≤ u0)) := by
        refine ⟨fun c => ht (htw.2 (Or.inl c)), ?_⟩
        by_cases c : hi = r
        · exact Or.inr ⟨c, fun d => ht (htw.2 (Or.inr ⟨c, d⟩))⟩
        · exact Or.inl c
      obtain ⟨s, c, hadd, hs, hcc⟩ := addc64 r v1
      obtain ⟨x, rfl⟩ : ∃ x, q = x + 1 := ⟨q - 1, by omega⟩
      rw [Nat.add_sub_cancel] at hnext
      have hwx : IntKind.u64.wrap ((x : Int) + 1 - 1) = (x : Int) := by rw [IntKind.wrap_u64]; omega
      have hwx2 : IntKind.u64.wrap (x : Int) = (x : Int) := by rw [IntKind.wrap_u64]; omega
      have hrr := hr.out
      have hvv := HV1.out
      obtain ⟨hnr, hc3⟩ := hc2
      have HN := Lib.hid hnext
      by_cases hcz : c = 0
      · have hsv : s = r + v1 := by omega
        have HS := Lib.hid hsv
        have HSB : Hid (s < 18446744073709551616) := Lib.hid (by omega)
        subst hcz
        clear hmul htw ht hhi hlo hs hcc hrr hvv hqW hnext hq0 hsv
        rcases hc3 with c1 | ⟨rfl, c2⟩
        case' inl =>
          have c1' : ((hi : Int) == (r : Int)) = false := by rw [beq_eq_false_iff_ne]; omega
        all_goals
          go_wp2_with fail
          refine (KM.out _).mono ?_
          rintro e w2 ⟨rfl, rfl⟩
          go_wp2_with (first | simp only [hadd])
          go_roundw
          case rel => exact ⟨x, s, rfl, rfl, by rw [HS.out]; exact HN, HSB, trivial⟩
          case measure => simp [intOf]; try omega
      · have hfull := gue_full (u0 := u0) (q := x) (v0 := v0) (r := r + v1) (by have := W_eq; omega) (by have := W_eq; have := HV0.out; omega) (by have := W_eq; omega)
        have hq := gue_done hnext HV1P.out hfull
        have HQ := Lib.hid (HG.out.trans hq.symm)
        have hcn : (((c : Nat) : Int) != 0) = true := by rw [bne_iff_ne]; omega
        have HC := Lib.hid hcz
        clear hmul htw ht hhi hlo hs hcc hrr hvv hqW hnext hq0 hfull hq hcz
        rcases hc3 with c1 | ⟨rfl, c2⟩
        case' inl =>
          have c1' : ((hi : Int) == (r : Int)) = false := by rw [beq_eq_false_iff_ne]; omega
        all_goals
          go_wp2_with fail
          refine (KM.out _).mono ?_
          rintro e w2 ⟨rfl, rfl⟩
          go_wp2_with (first | simp only [hadd])
          go_ret
          exact ⟨by rw [HQ.out]; rfl, HDR.out⟩
theorem Digit_all (u2 u1 u0 v1 v0 : Nat) (w : World) (hv1 : v1 < 18446744073709551616) (hu1 : u1 < 18446744073709551616) (hu0 : u0 < 18446744073709551616) (hv0 : v0 < 18446744073709551616) :
    Calls Tryz.prog 166 #[.int .u64 (u2 : Nat), .int .u64 (u1 : Nat), .int .u64 (u0 : Nat), .int .u64 (v1 : Nat), .int .u64 (v0 : Nat)] w fun e w' => e = .returned (.int .u64 (guessN u2 u1 u0 v1 v0 : Nat)) ∧ Drawn w w' := by
  by_cases h : v1 ≤ u2
  · exact Digit_top u2 u1 u0 v1 v0 w h
  · exact Digit_c u2 u1 u0 v1 v0 w (by omega) hv1 hu1 hu0 hv0
end Go.Proofs.YtajcapliokblfaaGreatDoor
set_option linter.unusedSimpArgs false
set_option linter.unusedVariables false
namespace Go.Proofs.YtajcapliokblfaaGreatDoor
open Go Go.RowKit Nt
/-- One word of a multiple taken away. -/
theorem less_words (q y c x b : Nat) (hq : q < 18446744073709551616) (hy : y < 18446744073709551616) (hc : c < 18446744073709551616) (hx : x < 18446744073709551616) (hb : b ≤ 1) : ∃ hi lo lo2 c1 cy d b2 : Nat,
    (∀ w, Calls Tryz.prog 172 #[.int .u64 (q : Nat), .int .u64 (y : Nat)] w fun e w' => e = .returned (.tuple #[.int .u64 (hi : Nat), .int .u64 (lo : Nat)]) ∧ w = w') ∧
    (∀ w, (callFunc 173 #[.int .u64 (lo : Nat), .int .u64 (c : Nat), .int .u64 0]).run Tryz.prog w = .ok (.value (.tuple #[.int .u64 (lo2 : Nat), .int .u64 (c1 : Nat)])) w) ∧
    IntKind.u64.wrap ((hi : Int) + (c1 : Int)) = (cy : Int) ∧
    (∀ w, (callFunc 174 #[.int .u64 (x : Nat), .int .u64 (lo2 : Nat), .int .u64 (b : Nat)]).run Tryz.prog w = .ok (.value (.tuple #[.int .u64 (d : Nat), .int .u64 (b2 : Nat)])) w) ∧
    d < 18446744073709551616 ∧ cy < 18446744073709551616 ∧ b2 ≤ 1 ∧ cy = (q * y + c) / W ∧ d + (q * y + c) % W + b = x + W * b2 := by
  have hp := prod_lt hq hy
  have h1 := Tryz.bits_Add64 (q * y % 18446744073709551616) c 0 (by omega)
  have hl := Nat.mod_lt (q * y % 18446744073709551616 + c + 0) (show 0 < 18446744073709551616 by omega)
  have h2 := Tryz.bits_Sub64 x ((q * y % 18446744073709551616 + c + 0) % 18446744073709551616) b hb
  refine ⟨q * y / 18446744073709551616, q * y % 18446744073709551616, (q * y % 18446744073709551616 + c + 0) % 18446744073709551616, (q * y % 18446744073709551616 + c + 0) / 18446744073709551616,
    q * y / 18446744073709551616 + (q * y % 18446744073709551616 + c + 0) / 18446744073709551616, _, _, ?_, h1, ?_, h2, ?_, ?_, ?_, ?_, ?_⟩
  · intro w
    refine (Tryz.bits_Mul64 q y hq hy w).mono ?_
    rintro e w' ⟨rfl, rfl⟩; exact ⟨rfl, rfl⟩
  · refine wadd_nat rfl ?_
    generalize q * y = p at *; omega
  · exact Nat.mod_lt _ (by omega)
  · generalize q * y = p at *; omega
  · split <;> omega
  · rw [W_eq]; generalize q * y = p at *; omega
  · rw [W_eq]
    have e : (q * y % 18446744073709551616 + c + 0) % 18446744073709551616 = (q * y + c) % 18446744073709551616 := by generalize q * y = p at *; omega
    rw [e]
    have hm := Nat.mod_lt (q * y + c) (show 0 < 18446744073709551616 by omega)
    generalize (q * y + c) % 18446744073709551616 = m at *
    split <;> omega
/-- No other block is touched. -/
def Only (g : Nat) (w w' : World) : Prop := ∀ x, x ≠ g → w'.heap[x]? = w.heap[x]?
theorem Only.refl (g : Nat) (w : World) : Only g w w := fun _ _ => rfl
theorem Only.set {g i : Nat} {w w' : World} (h : Only g w w') (u : Value) : Only g w (w'.setCell ⟨g, i, none⟩ u) := fun x hx => (Below.heap_setCell w' ⟨g, i, none⟩ u x hx).trans (h x hx)
theorem Only.blk {g x : Nat} {T : TypeId} {cs : Array Value} {w w' : World} (h : Only g w w') (hx : x ≠ g) (hb : Blk w x T cs) : Blk w' x T cs := (h x hx).trans hb
/-- What taking a multiple away leaves. -/
def LessPost (g k n L U v q : Nat) (T : TypeId) (w : World) (e : Ending) (w' : World) : Prop :=
  ∃ (Z b : Nat) (bb : Bool), e = .returned (.bool bb) ∧ (bb = decide (b ≠ 0)) ∧ b ≤ 1 ∧ Blk w' g T (wcells Z L) ∧ Only g w w' ∧ Below g w w' ∧ Z < W ^ (k + n + 1) ∧ Z + W ^ k * (q * v) = U + W ^ (k + n + 1) * b
set_option maxRecDepth 100000 in
set_option maxHeartbeats 2000000 in
theorem Less_c (g k n L U v q cp cv : Nat) (Av : Option Addr) (w : World) (hb : Blk w g 66 (wcells U L)) (hL : k + n + 1 ≤ L) (hL2 : L ≤ 1000000000) (hv : Row w g Av v n) (hvn : v < W ^ n) (hq : q < 18446744073709551616) (hU : U < W ^ (k + n + 1)) (hcp : n + 1 ≤ cp) :
    Calls Tryz.prog 167 #[.slice (some ⟨g, k, none⟩) (n + 1) cp, .slice Av n cv, .int .u64 (q : Nat)] w (LessPost g k n L U v q 66 w) := by
  have HB := Lib.hid hb
  have HV := Lib.hid hv
  have HVN := Lib.hid hvn
  have HQ := Lib.hid hq
  have HU := Lib.hid hU
  have HL := Lib.hid hL
  have hn : n ≤ 1000000000 := by omega
  have HL2 := Lib.hid hL2
  have HCP := Lib.hid hcp
  clear hb hv hvn hq hU hL hL2 hcp
  go_enter Tryz.func167, Tryz.ntmps167
  go_wp2_with fail
  go_loopw [7, 8, 16] (fun c b i wr => ∃ (j Z cc bb : Nat), j ≤ n ∧ i = .int .i64 j ∧ c = .int .u64 cc ∧ b = .int .u64 bb ∧ Hid (cc < 18446744073709551616 ∧ bb ≤ 1) ∧ Hid (subI U v q k j Z cc bb) ∧ Hid (Z < W ^ (k + n + 1)) ∧ Hid (Blk wr g 66 (wcells Z L)) ∧ Hid (Only g w wr) ∧ Below g w wr) (fun _ _ i _ => n - (intOf i).toNat)
  case atStart => exact ⟨0, U, 0, 0, Nat.zero_le _, rfl, rfl, rfl, Lib.hid ⟨by omega, by omega⟩, Lib.hid (subI_first U v q k), HU, HB, Lib.hid (Only.refl _ _), Below.refl _ _⟩
  case round =>
    obtain ⟨j, Z, cc, bb, hj, rfl, rfl, rfl, hcb, hsub, hZ, hblk, hon, hbw⟩ := hrel
    by_cases hlt : j < n
    · obtain ⟨gv, rfl, hgv, hcv⟩ := HV.out.at_ hlt
      have hcv2 := (hbw.cell (p := ⟨gv, j, none⟩) hgv).trans hcv
      have hcz := hblk.out.cell (k + j)
      rw [wcells_get _ _ _ (by have := HL.out; omega)] at hcz
      have hfz := hblk.out.frozen (k + j)
      obtain ⟨hi, lo, lo2, c1, cy, d, b2, hmul, ha1, hw1, hs1, hd, hcy, hb2, hcye, hde⟩ := less_words q (dgt W v j) cc (dgt W Z (k + j)) bb HQ.out (wd_lt _ _) hcb.out.1 (wd_lt _ _) hcb.out.2
      have HN := Lib.hid (subI_step hsub.out rfl hde)
      rw [← hcye] at HN
      have HZ := Lib.hid (put_lt W2 (by rw [W_eq]; exact hd) hZ.out (show k + j < k + n + 1 by omega))
      have HB1 := hblk.out.set_ (k + j) (.int .u64 (d : Nat))
      rw [wcells_set _ _ _ _ hd] at HB1
      have HB2 := Lib.hid HB1
      have hb1 := hbw.setCell (p := ⟨g, k + j, none⟩) (Nat.le_refl _) (.int .u64 (d : Nat))
      have HON := Lib.hid (hon.out.set (i := k + j) (.int .u64 (d : Nat)))
      have KM := Lib.hid hmul
      have HCB : Hid (cy < 18446744073709551616 ∧ b2 ≤ 1) := Lib.hid ⟨hcy, hb2⟩
      have HD := Lib.hid hd
      generalize dgt W v j = y at *
      generalize dgt W Z (k + j) = x at *
      clear hmul hcv hcye hde HB1 hd hcy hb2
      go_wp2_with fail
      refine (KM.out _).mono ?_
      rintro e w2 ⟨rfl, rfl⟩
      go_wp2_with (first | simp only [ha1] | simp only [hs1])
      go_roundw
      case rel => exact ⟨j + 1, _, cy, b2, by omega, by go_num, rfl, rfl, HCB, HN, HZ, HB2, HON, hb1⟩
      case measure => simp [intOf]; omega
    · obtain rfl : j = n := by omega
      have hcz := hblk.out.cell (k + j)
      rw [wcells_get _ _ _ (by have := HL.out; omega)] at hcz
      have hfz := hblk.out.frozen (k + j)
      have hcb1 := hcb.out
      have hx := wd_lt Z (k + j)
      have h2 := Tryz.bits_Sub64 (dgt W Z (k + j)) cc bb hcb1.2
      obtain ⟨d, hd⟩ : ∃ d, d = (dgt W Z (k + j) + 18446744073709551616 - cc - bb) % 18446744073709551616 := ⟨_, rfl⟩
      obtain ⟨b2, hb2⟩ : ∃ b2, b2 = (if dgt W Z (k + j) < cc + bb then 1 else 0) := ⟨_, rfl⟩
      rw [← hd, ← hb2] at h2
      have hd1 : d < 18446744073709551616 := by rw [hd]; exact Nat.mod_lt _ (by omega)
      have hb1' : b2 ≤ 1 := by rw [hb2]; split <;> omega
      have hvz : dgt W v j = 0 := dgt_of_lt W2 HVN.out (Nat.le_refl _)
      have hcw : cc % W = cc := Nat.mod_eq_of_lt (by rw [W_eq]; exact hcb1.1)
      have hcd : cc / W = 0 := Nat.div_eq_of_lt (by rw [W_eq]; exact hcb1.1)
      have hde : d + (q * dgt W v j + cc) % W + bb = dgt W Z (k + j) + W * b2 := by
        rw [hvz, Nat.mul_zero, Nat.zero_add, hcw, hd, hb2]
        generalize dgt W Z (k + j) = x at *
        rw [W_eq]
        split <;> omega
      have hstep := subI_step hsub.out rfl hde
      rw [hvz, Nat.mul_zero, Nat.zero_add, hcd] at hstep
      have hlast := subI_last hstep HVN.out
      have HZ := Lib.hid (put_lt W2 (by rw [W_eq]; exact hd1) hZ.out (show k + j < k + j + 1 by omega))
      have HB1 := hblk.out.set_ (k + j) (.int .u64 (d : Nat))
      rw [wcells_set _ _ _ _ hd1] at HB1
      have HB2 := Lib.hid HB1
      have hb1 := hbw.setCell (p := ⟨g, k + j, none⟩) (Nat.le_refl _) (.int .u64 (d : Nat))
      have HON := Lib.hid (hon.out.set (i := k + j) (.int .u64 (d : Nat)))
      have HLAST := Lib.hid hlast
      have HB1L := Lib.hid hb1'
      have hjj : j < j + 1 := by omega
      generalize dgt W Z (k + j) = x at *
      clear hd hb2 hd1 hvz hcw hcd hde hstep hlast HB1 hx hcb1 hb1'
      by_cases hz : b2 = 0
      · have hbf : ((b2 : Int) != 0) = false := by subst hz; rfl
        have HZ2 := Lib.hid hz
        clear hz
        go_wp2_with (first | simp only [h2])
        go_ret
        exact ⟨_, b2, _, rfl, by rw [HZ2.out]; rfl, HB1L.out, HB2.out, HON.out, hb1, HZ.out, HLAST.out⟩
      · have hbf : ((b2 : Int) != 0) = true := by rw [bne_iff_ne]; omega
        have HZ2 := Lib.hid hz
        clear hz
        go_wp2_with (first | simp only [h2])
        go_ret
        exact ⟨_, b2, _, rfl, (decide_eq_true HZ2.out).symm, HB1L.out, HB2.out, HON.out, hb1, HZ.out, HLAST.out⟩
end Go.Proofs.YtajcapliokblfaaGreatDoor
set_option linter.unusedSimpArgs false
set_option linter.unusedVariables false
namespace Go.Proofs.YtajcapliokblfaaGreatDoor
open Go Go.RowKit Nt
/-- What adding the divisor back leaves. -/
def BackPost (g k n L U v : Nat) (T : TypeId) (w : World) (e : Ending) (w' : World) : Prop :=
  ∃ (Z c : Nat), e = .returned (.tuple #[]) ∧ c ≤ 1 ∧ Blk w' g T (wcells Z L) ∧ Only g w w' ∧ Below g w w' ∧ Z < W ^ (k + n + 1) ∧ Z + W ^ (k + n + 1) * c = U + W ^ k * v
theorem back_words (x y c : Nat) (hx : x < 18446744073709551616) (hy : y < 18446744073709551616) (hc : c ≤ 1) : ∃ d c2 : Nat,
    (∀ w, (callFunc 173 #[.int .u64 (x : Nat), .int .u64 (y : Nat), .int .u64 (c : Nat)]).run Tryz.prog w = .ok (.value (.tuple #[.int .u64 (d : Nat), .int .u64 (c2 : Nat)])) w) ∧
    d < 18446744073709551616 ∧ c2 ≤ 1 ∧ d + W * c2 = x + y + c :=
  ⟨_, _, fun w => Tryz.bits_Add64 x y c hc w, Nat.mod_lt _ (by omega), by omega, by rw [W_eq]; omega⟩
set_option maxRecDepth 100000 in
set_option maxHeartbeats 2000000 in
theorem Back_c (g k n L U v cp cv : Nat) (Av : Option Addr) (w : World) (hb : Blk w g 66 (wcells U L)) (hL : k + n + 1 ≤ L) (hL2 : L ≤ 1000000000) (hv : Row w g Av v n) (hvn : v < W ^ n) (hU : U < W ^ (k + n + 1)) (hcp : n + 1 ≤ cp) :
    Calls Tryz.prog 168 #[.slice (some ⟨g, k, none⟩) (n + 1) cp, .slice Av n cv] w (BackPost g k n L U v 66 w) := by
  have HB := Lib.hid hb
  have HV := Lib.hid hv
  have HVN := Lib.hid hvn
  have HU := Lib.hid hU
  have HL := Lib.hid hL
  have hn : n ≤ 1000000000 := by omega
  have HL2 := Lib.hid hL2
  have HCP := Lib.hid hcp
  clear hb hv hvn hU hL hL2 hcp
  go_enter Tryz.func168, Tryz.ntmps168
  go_wp2_with fail
  go_loopw [4, 9] (fun c i wr => ∃ (j Z cc : Nat), j ≤ n ∧ i = .int .i64 j ∧ c = .int .u64 cc ∧ Hid (cc ≤ 1) ∧ Hid (addI U v k j Z cc) ∧ Hid (Z < W ^ (k + n + 1)) ∧ Hid (Blk wr g 66 (wcells Z L)) ∧ Hid (Only g w wr) ∧ Below g w wr) (fun _ i _ => n - (intOf i).toNat)
  case atStart => exact ⟨0, U, 0, Nat.zero_le _, rfl, rfl, Lib.hid (by omega), Lib.hid (addI_first U v k), HU, HB, Lib.hid (Only.refl _ _), Below.refl _ _⟩
  case round =>
    obtain ⟨j, Z, cc, hj, rfl, rfl, hcb, hadd, hZ, hblk, hon, hbw⟩ := hrel
    by_cases hlt : j < n
    · obtain ⟨gv, rfl, hgv, hcv⟩ := HV.out.at_ hlt
      have hcv2 := (hbw.cell (p := ⟨gv, j, none⟩) hgv).trans hcv
      have hcz := hblk.out.cell (k + j)
      rw [wcells_get _ _ _ (by have := HL.out; omega)] at hcz
      have hfz := hblk.out.frozen (k + j)
      obtain ⟨d, c2, ha1, hd, hc2, hde⟩ := back_words (dgt W Z (k + j)) (dgt W v j) cc (wd_lt _ _) (wd_lt _ _) hcb.out
      have HN := Lib.hid (addI_step hadd.out hde)
      have HZ := Lib.hid (put_lt W2 (by rw [W_eq]; exact hd) hZ.out (show k + j < k + n + 1 by omega))
      have HB1 := hblk.out.set_ (k + j) (.int .u64 (d : Nat))
      rw [wcells_set _ _ _ _ hd] at HB1
      have HB2 := Lib.hid HB1
      have hb1 := hbw.setCell (p := ⟨g, k + j, none⟩) (Nat.le_refl _) (.int .u64 (d : Nat))
      have HON := Lib.hid (hon.out.set (i := k + j) (.int .u64 (d : Nat)))
      have HC2 := Lib.hid hc2
      generalize dgt W v j = y at *
      generalize dgt W Z (k + j) = x at *
      clear hcv hde HB1 hd hc2
      go_wp2_with (first | simp only [ha1])
      go_roundw
      case rel => exact ⟨j + 1, _, c2, by omega, by go_num, rfl, HC2, HN, HZ, HB2, HON, hb1⟩
      case measure => simp [intOf]; omega
    · obtain rfl : j = n := by omega
      have hcz := hblk.out.cell (k + j)
      rw [wcells_get _ _ _ (by have := HL.out; omega)] at hcz
      have hfz := hblk.out.frozen (k + j)
      have hx := wd_lt Z (k + j)
      have hcb1 := hcb.out
      obtain ⟨d, hd⟩ : ∃ d, d = (dgt W Z (k + j) + cc) % 18446744073709551616 := ⟨_, rfl⟩
      obtain ⟨c2, hc2⟩ : ∃ c2, c2 = (dgt W Z (k + j) + cc) / 18446744073709551616 := ⟨_, rfl⟩
      have hd1 : d < 18446744073709551616 := by rw [hd]; exact Nat.mod_lt _ (by omega)
      have hvz : dgt W v j = 0 := dgt_of_lt W2 HVN.out (Nat.le_refl _)
      have hde : d + W * c2 = dgt W Z (k + j) + dgt W v j + cc := by
        rw [hvz, hd, hc2]
        generalize dgt W Z (k + j) = x at *
        rw [W_eq]; omega
      have hlast := addI_last (addI_step hadd.out hde) HVN.out
      have hw : IntKind.u64.wrap ((dgt W Z (k + j) : Nat) + (cc : Nat) : Int) = (d : Int) := by rw [IntKind.wrap_u64]; omega
      have HZ := Lib.hid (put_lt W2 (by rw [W_eq]; exact hd1) hZ.out (show k + j < k + j + 1 by omega))
      have HB1 := hblk.out.set_ (k + j) (.int .u64 (d : Nat))
      rw [wcells_set _ _ _ _ hd1] at HB1
      have HB2 := Lib.hid HB1
      have hb1 := hbw.setCell (p := ⟨g, k + j, none⟩) (Nat.le_refl _) (.int .u64 (d : Nat))
      have HON := Lib.hid (hon.out.set (i := k + j) (.int .u64 (d : Nat)))
      have HLAST := Lib.hid hlast
      have HC2 := Lib.hid (show c2 ≤ 1 by omega)
      have hjj : j < j + 1 := by omega
      generalize dgt W Z (k + j) = x at *
      clear hd hc2 hd1 hvz hde hlast HB1 hx hcb1
      go_wp2_with fail
      go_end0
      exact ⟨_, c2, rfl, HC2.out, HB2.out, HON.out, hb1, HZ.out, HLAST.out⟩
end Go.Proofs.YtajcapliokblfaaGreatDoor
set_option linter.unusedSimpArgs false
set_option linter.unusedVariables false
namespace Go.Proofs.YtajcapliokblfaaGreatDoor
open Go Go.RowKit Nt
@[irreducible] def KA : Nat := 9223372036854775808
@[irreducible] def KB : Nat := 10
@[irreducible] def KP : Nat := 92233720368547758080
theorem natS_one {n : Nat} (h0 : 1 ≤ n) (h : n < 256) : natS n = ⟨#[UInt8.ofNat n]⟩ := by
  have e : nd 256 n = 1 := nd_unique (b := 256) (k := 0) (by omega) (by simpa using h0) (by simpa using h)
  rw [natS_def, e]
  have : dl 256 n 1 = [n] := by
    unfold dl; simp [List.range_succ, dgt_def, Nat.mod_eq_of_lt h]
  rw [this]; rfl
def KL : List Nat := [0, 8, 0, 8, 5, 7, 7, 4, 5, 8, 6, 3, 0, 2, 7, 3, 3, 2, 2, 9]
end Go.Proofs.YtajcapliokblfaaGreatDoor
set_option linter.unusedSimpArgs false
set_option linter.unusedVariables false
namespace Go.Proofs.YtajcapliokblfaaGreatDoor
open Go Go.RowKit Nt
theorem wcells_splice (U L l : Nat) (hU : U < W ^ l) (hl : l ≤ L) :
    (splice ((dl W 0 L).map (fun (x : Nat) => Value.int .u64 (x : Int))) 0 ((dl W U l).map (fun (x : Nat) => Value.int .u64 (x : Int)))).toArray = wcells U L := by
  unfold wcells splice
  congr 1
  apply List.ext_getElem?
  intro j
  rw [List.take_zero, List.nil_append, List.length_map, dl_length, Nat.zero_add]
  by_cases h : j < l
  · rw [List.getElem?_append_left (by rw [List.length_map, dl_length]; exact h), List.getElem?_map, List.getElem?_map, dl_get? _ _ _ _ h, dl_get? _ _ _ _ (by omega)]
  · rw [List.getElem?_append_right (by rw [List.length_map, dl_length]; omega), List.length_map, dl_length, List.getElem?_drop, List.getElem?_map, List.getElem?_map, show l + (j - l) = j by omega]
    by_cases h2 : j < L
    · rw [dl_get? _ _ _ _ h2, dl_get? _ _ _ _ h2, dgt_of_lt W2 hU (by omega)]
      rw [dgt_def, Nat.zero_div, Nat.zero_mod]
    · rw [List.getElem?_eq_none (by rw [dl_length]; omega), List.getElem?_eq_none (by rw [dl_length]; omega)]
theorem quo_put {k Q v M : Nat} (hv : v < W) (h : W ^ (k + 1) * Q < W ^ M) (hk : k < M) : put W (W ^ (k + 1) * Q) k v = W ^ k * (v + W * Q) ∧ W ^ k * (v + W * Q) < W ^ M := by
  have hd : dgt W (W ^ (k + 1) * Q) k = 0 := by
    rw [dgt_def, Nat.pow_succ, Nat.mul_assoc, Nat.mul_div_cancel_left _ (Nat.pow_pos W0), Nat.mul_mod_right]
  have h1 := put_eq (b := W) (W ^ (k + 1) * Q) k v W0
  rw [hd, Nat.mul_zero, Nat.add_zero] at h1
  have e : put W (W ^ (k + 1) * Q) k v = W ^ k * (v + W * Q) := by
    rw [h1, Nat.mul_add, Nat.pow_succ, Nat.mul_assoc]; omega
  exact ⟨e, by rw [← e]; exact put_lt W2 hv h hk⟩
theorem made_wc (L : Nat) : madeCells (Value.cells (.int .u64 0)) (L * 1) = wcells 0 L := by rw [Nat.mul_one]; exact wcells_made L
/-- The numbers at the start. -/
theorem div_start {a b s n la M : Nat} (hn : nd W b = n + 1) (hla : nd W a = la) (hs : nd 2 (dgt W b n) + s = 64) (hM : M + n = la) :
    divI (a * 2 ^ s) (b * 2 ^ s) 0 (a * 2 ^ s) M ∧ nd W (a * 2 ^ s) ≤ la + 1 ∧ nd W (b * 2 ^ s) = n + 1 := by
  obtain ⟨h1, h2⟩ := normed hn hs
  have ht0 : dgt W b n ≠ 0 := by
    have := dgt_top (b := W) (n := b) W2 (fun c => by rw [c, nd_zero] at hn; omega)
    rwa [hn, Nat.add_sub_cancel] at this
  have hnz : nd 2 (dgt W b n) ≠ 0 := fun c => ht0 ((nd_eq_zero (by omega)).1 c)
  have hp : 2 * 2 ^ s ≤ W := by
    rw [← Nat.pow_succ', W_eq, show (18446744073709551616 : Nat) = 2 ^ 64 by rfl]
    exact Nat.pow_le_pow_right (by omega) (by omega)
  have ha : a < W ^ la := by rw [← hla]; exact lt_nd W2
  have h3 : 2 * (a * 2 ^ s) < W ^ (la + 1) := by
    have e : 2 * (a * 2 ^ s) = a * (2 * 2 ^ s) := by rw [Nat.mul_left_comm]
    rw [e, Nat.pow_succ]
    exact Nat.lt_of_lt_of_le ((Nat.mul_lt_mul_right (by have := Nat.two_pow_pos s; omega)).2 ha) (Nat.mul_le_mul_left _ hp)
  refine ⟨⟨by rw [Nat.mul_zero, Nat.mul_zero, Nat.add_zero], ?_⟩, nd_le W2 (by omega), ?_⟩
  · have h4 : W ^ M * W ^ (n + 1) ≤ W ^ M * (2 * (b * 2 ^ s)) := Nat.mul_le_mul_left _ h2
    rw [← Nat.pow_add, show M + (n + 1) = la + 1 by omega, Nat.mul_left_comm] at h4
    omega
  · refine nd_unique W2 ?_ h1
    have h5 : W ^ n * 2 ≤ W ^ n * W := Nat.mul_le_mul_left _ W2
    rw [Nat.pow_succ] at h2
    omega
set_option maxRecDepth 100000 in
set_option maxHeartbeats 4000000 in
theorem Div_big (A A' : Option Addr) (c c' a b m la M : Nat) (w : World) (hn : nd W b = m + 2) (hab : b ≤ a) (hla : nd W a = la) (hM : M + (m + 1) = la) (hL : la ≤ 100000000) (hr : Row w w.heap.size A a la) (hr' : Row w w.heap.size A' b (m + 2)) :
    Calls Tryz.prog 112 #[.slice A la c, .slice A' (m + 2) c'] w (DivPost (a / b) (a % b) w) := by
  obtain ⟨i0, hi0, hz0, hz1, hz2⟩ := info_parts (P := Tryz.prog) (e := 66) (z := .int .u64 0) (size := 1) (bytes := 8) (by kernel_rfl)
  have hcmp := cmp_pos hab
  have hcm := Cmp_c A A' c c' a b w.heap.size w (by omega) (by omega) (by rw [hla]; exact hr) (by rw [hn]; exact hr')
  rw [hla, hn] at hcm
  have HCM := Lib.hid hcm
  obtain ⟨t, ht⟩ : ∃ t, t = dgt W b (m + 1) := ⟨_, rfl⟩
  have htw : t < 18446744073709551616 := by rw [ht]; exact wd_lt _ _
  have ht64 : nd 2 t ≤ 64 := nd_le (by omega) (by rw [show (2 : Nat) ^ 64 = 18446744073709551616 by rfl]; exact htw)
  obtain ⟨s, hs⟩ : ∃ s, nd 2 t + s = 64 := ⟨64 - nd 2 t, by omega⟩
  have KLZ : Hid (∀ w, Calls Tryz.prog 165 #[.int .u64 (t : Nat)] w fun e w' => e = .returned (.int .i64 (s : Nat)) ∧ w = w') := Lib.hid (fun w => by
    refine (Tryz.bits_LeadingZeros64 _ _ (by omega) (by omega)).mono ?_
    rintro e w' ⟨rfl, rfl⟩
    refine ⟨ret_int ?_, rfl⟩
    rw [Int.toNat_natCast, bitLen_nd htw]; omega)
  obtain ⟨hst, hla2, hnV⟩ := div_start (a := a) (b := b) (s := s) (n := m + 1) (la := la) (M := M) (by omega) hla (by rw [← ht]; exact hs) hM
  obtain ⟨hV1, hV2⟩ := normed (b := b) (n := m + 1) (s := s) (by omega) (by rw [← ht]; exact hs)
  have hsl : s / 64 ≤ 1 := by omega
  have hmla : m + 2 ≤ la := by rw [← hla, ← hn]; exact nd_mono W2 hab
  have KS1 : Hid (∀ (w : World), Row w w.heap.size A' b (m + 2) → Calls Tryz.prog 118 #[.slice A' (m + 2) c', .int .i64 (s : Nat)] w (NumPost (b * 2 ^ s) w)) := Lib.hid (fun w h => by
    have := Shl_c A' c' b s w.heap.size w (by omega) (by rw [hn]; exact h) (Nat.le_refl _)
    rwa [hn] at this)
  have KS2 : Hid (∀ (w : World), Row w w.heap.size A a la → Calls Tryz.prog 118 #[.slice A la c, .int .i64 (s : Nat)] w (NumPost (a * 2 ^ s) w)) := Lib.hid (fun w h => by
    have := Shl_c A c a s w.heap.size w (by omega) (by rw [hla]; exact h) (Nat.le_refl _)
    rwa [hla] at this)
  have hb0 : 0 < b := by
    rcases Nat.eq_zero_or_pos b with e | e
    · rw [e, nd_zero] at hn; omega
    · exact e
  have HEND : Hid (∀ Q U, divI (a * 2 ^ s) (b * 2 ^ s) Q U 0 → Q = a / b ∧ U / 2 ^ s = a % b) := Lib.hid (fun Q U h => divI_end h rfl rfl hb0)
  have hV0 : 0 < b * 2 ^ s := Nat.mul_pos hb0 (Nat.two_pow_pos s)
  have hU0 : a * 2 ^ s < W ^ nd W (a * 2 ^ s) := lt_nd W2
  obtain ⟨V, hV⟩ : ∃ V, V = b * 2 ^ s := ⟨_, rfl⟩
  obtain ⟨Ua, hUa⟩ : ∃ Ua, Ua = a * 2 ^ s := ⟨_, rfl⟩
  rw [← hV] at hst hnV hV1 hV2 KS1 HEND hV0
  rw [← hUa] at hst hla2 KS2 HEND hU0
  obtain ⟨l2, hl2⟩ : ∃ l2, l2 = nd W Ua := ⟨_, rfl⟩
  rw [← hl2] at hla2 hU0
  have hcb : Hid (∀ w' : World, (∀ p : Addr, p.block < w.heap.size → w'.cell? p = w.cell? p) → ∃ gb, A' = some ⟨gb, 0, none⟩ ∧ w'.cell? ⟨gb, m + 1, none⟩ = some (.int .u64 (t : Nat))) := Lib.hid (fun w' h => by
    obtain ⟨gb, e, hg, hc⟩ := hr'.at_ (k := m + 1) (by omega)
    exact ⟨gb, e, by rw [h _ hg, hc, ht]⟩)
  obtain ⟨n, hnn⟩ : ∃ n, n = m + 2 := ⟨_, rfl⟩
  obtain ⟨n1, hn1⟩ : ∃ n1, n1 = m + 1 := ⟨_, rfl⟩
  obtain ⟨L, hLL⟩ : ∃ L, L = la + 1 := ⟨_, rfl⟩
  rw [← hnn] at HCM KS1 ⊢
  rw [← hn1] at hcb
  have hn1I : (n : Int) - 1 = (n1 : Int) := by omega
  have hLI : (la : Int) + 1 = (L : Int) := by omega
  have hMI : (la : Int) - (n : Int) + 1 = (M : Int) := by omega
  have hne1 : ¬ n = 1 := by omega
  have hne : ((n : Int) == 1) = false := by rw [beq_eq_false_iff_ne]; omega
  have hn8 : n ≤ 100000000 := by omega
  have hM8 : M ≤ 100000000 := by omega
  have hL8 : L ≤ 100000001 := by omega
  have hn1lt : n1 < n := by omega
  have HR := Lib.hid hr
  have HR' := Lib.hid (show Row w w.heap.size A' b n by rw [hnn]; exact hr')
  have HNN := Lib.hid hnn
  have HN1 := Lib.hid hn1
  have HLL := Lib.hid hLL
  have HST := Lib.hid hst
  have HL2 := Lib.hid (show l2 ≤ L by omega)
  have HNV := Lib.hid hnV
  have HV1 := Lib.hid hV1
  have HV2 := Lib.hid hV2
  have HV0 := Lib.hid hV0
  have HU0 := Lib.hid hU0
  have HL2E := Lib.hid hl2
  have HMM := Lib.hid hM
  have hs64 : s ≤ 64 := by omega
  clear hcm hr hr' hla hn hM ht ht64 hs hst hla2 hnV hV1 hV2 hV0 hU0 hb0 hV hUa hl2 hnn hn1 hLL hsl htw hab hmla
  go_enter Tryz.func112, Tryz.ntmps112
  go_wp2
  go_step3
  go_wp2_with fail
  refine HCM.out.mono ?_
  rintro e w1 ⟨rfl, nn, rfl⟩
  have hd1 : ∀ p : Addr, p.block < w.heap.size → (w.drewN nn).cell? p = w.cell? p := fun _ _ => rfl
  obtain ⟨gb, rfl, hcell⟩ := hcb.out (w.drewN nn) hd1
  have hR1 := HR.out.drewN nn
  have hR2 := HR'.out.drewN nn
  have hbw1 : Below w.heap.size w (w.drewN nn) := below_drewN (Below.refl _ _) nn
  have hsz1 : (w.drewN nn).heap.size = w.heap.size := rfl
  rw [← hsz1] at hR1 hR2
  generalize w.drewN nn = w1 at *
  have HR1 := Lib.hid hR1
  have HR2 := Lib.hid hR2
  have HSZ1 := Lib.hid hsz1
  clear hR1 hR2 hsz1 hd1
  go_wp2_with fail
  refine (KLZ.out _).mono ?_
  rintro e w2 ⟨rfl, rfl⟩
  go_wp2_with fail
  refine (KS1.out _ HR2.out).mono ?_
  intro e w2 hp
  obtain ⟨A1, c1, rfl, hc1, hr1, hb1⟩ := hp.get
  rw [HNV.out, show m + 1 + 1 = n from HNN.out.symm] at hc1 hr1 ⊢
  have HRV := Lib.hid hr1
  have HRA := Lib.hid ((HR1.out.below hb1).more hb1.size)
  have hbw2 : Below w.heap.size w w2 := below_chain hbw1 hb1
  clear hr1 hp hcell
  obtain ⟨g, hg⟩ : ∃ g, g = w2.heap.size := ⟨_, rfl⟩
  have HG := Lib.hid hg
  go_wp2_with (at_make; (refine wpList_make_zero _ rfl _ _ _ rfl 66 i0 _ Tryz.underlying74 hi0 hz0 hz1 .i64 .i64 _ _ L rfl rfl (by omega) (by omega) (by rw [hz2]; omega) (by unfold maxLen; omega) ?_); rw [made_wc]; have HB0 := Lib.hid (Blk.new w2 66 (wcells 0 L)); have hbl : Below w2.heap.size w2 (w2.alloc (.cells (wcells 0 L) 66)) := (Below.refl _ _).alloc (Nat.le_refl _) _; generalize w2.alloc (.cells (wcells 0 L) 66) = w3 at *; rw [← hg] at HB0 hbl ⊢; clear hg)
  have HRA3 := Lib.hid ((HRA.out.below (by rw [← HG.out]; exact hbl)).more (by have := hbl.size; rw [← HG.out] at *; exact this))
  refine (KS2.out _ HRA3.out).mono ?_
  intro e w4 hp
  obtain ⟨A2, c2, rfl, hc2, hr2, hb2⟩ := hp.get
  rw [← HL2E.out] at hc2 hr2 ⊢
  have HRU := Lib.hid hr2
  have HB4 := Lib.hid (HB0.out.below hb2 HB0.out.lt)
  have hbg4 : Below g w2 w4 := hbl.trans (hb2.mono (by have := HB0.out.lt; omega))
  clear hr2 hp hbl hb2
  have hcur : ∃ cur : List Value, cur = (dl W 0 L).map (fun (x : Nat) => Value.int .u64 (x : Int)) ∧ cur.length = L := ⟨_, rfl, by rw [List.length_map, dl_length]⟩
  obtain ⟨cur, hcur, hcurl⟩ := hcur
  have hcs : ∃ cs : List Value, cs = (dl W Ua l2).map (fun (x : Nat) => Value.int .u64 (x : Int)) ∧ cs.length = l2 := ⟨_, rfl, by rw [List.length_map, dl_length]⟩
  obtain ⟨cs, hcs, hcsl⟩ := hcs
  have hblk : w4.heap[g]? = some (.cells cur.toArray 66 (0, 0)) := by rw [hcur]; exact HB4.out
  have hsplice : (splice cur 0 cs).toArray = wcells Ua L := by rw [hcur, hcs]; exact wcells_splice Ua L l2 HU0.out HL2.out
  have hone : ∀ v ∈ cs, v.oneCell' = true := fun v hv => by
    rw [hcs] at hv
    obtain ⟨y, _, rfl⟩ := List.mem_map.1 hv
    rfl
  have hpos : 0 < cs.length → ∃ ad, A2 = some ad ∧ ∀ j v, cs[j]? = some v → w4.cell? (ad.add j) = some v := fun hp => by
    obtain ⟨ga, e, hga, hc⟩ := HRU.out (by omega)
    refine ⟨⟨ga, 0, none⟩, e, fun j v hj => ?_⟩
    have hjl : j < l2 := by
      rcases Nat.lt_or_ge j l2 with h | h
      · exact h
      · rw [List.getElem?_eq_none (by omega)] at hj; cases hj
    rw [hcs, List.getElem?_map, dl_get? _ _ _ _ hjl] at hj
    rw [add_plain0, hc j hjl]; exact hj
  have HCUR := Lib.hid hcurl
  have HCS := Lib.hid hcsl
  have HBL := Lib.hid hblk
  have HSP := Lib.hid hsplice
  have HON := Lib.hid hone
  have HPO := Lib.hid hpos
  have hmin : Hid (cs.length = Nat.min l2 L) := Lib.hid (by rw [hcsl]; exact (Nat.min_eq_left HL2.out).symm)
  have hfit : Hid (0 + cs.length ≤ cur.length) := Lib.hid (by rw [hcsl, hcurl]; have := HL2.out; omega)
  clear hcur hcs hblk hsplice hone hpos hcurl hcsl
  have hsz4 : g ≤ w4.heap.size := by rw [HG.out]; exact hbg4.size
  go_upto_region 10 with (refine wpList_copy_splice (o := ⟨some 54, _, _, _, _, _⟩) rfl (.tmp 50) (.tmp 53) _ _ rfl 66 Tryz.underlying74 (by kernel_rfl) (some ⟨g, 0, none⟩) A2 L L l2 c2 rfl rfl g 0 cur 66 HBL.out cs hmin.out (fun hp => ⟨rfl, HPO.out hp⟩) hfit.out HON.out g w2 hbg4 (Nat.le_refl _) ?_; intro w5 hblk5 hbg5; have HB5 : Hid (Blk w5 g 66 (wcells Ua L)) := Lib.hid (by have h := hblk5.out; rw [HSP.out] at h; exact h); clear hblk5)
  go_wp2_with (at_make; (refine wpList_make_zero _ rfl _ _ _ rfl 66 i0 _ Tryz.underlying74 hi0 hz0 hz1 .i64 .i64 _ _ M rfl rfl (by omega) (by omega) (by rw [hz2]; omega) (by unfold maxLen; omega) ?_); rw [made_wc]; have HQ0 := Lib.hid (Blk.new w5 66 (wcells 0 M)); have HB6 := Lib.hid (HB5.out.alloc (.cells (wcells 0 M) 66)); have hbg6 : Below g w2 (w5.alloc (.cells (wcells 0 M) 66)) := hbg5.alloc (Nat.le_of_lt HB5.out.lt) _; obtain ⟨g2, hg2⟩ : ∃ g2, g2 = w5.heap.size := ⟨_, rfl⟩; have HGG : Hid (g < g2) := Lib.hid (by rw [hg2]; exact HB5.out.lt); rw [← hg2] at HQ0 ⊢; generalize w5.alloc (.cells (wcells 0 M) 66) = w6 at *; clear hg2)
  go_step3
  go_wp2_with fail
  go_loopw [12] (fun kk wr => ∃ (K U Q : Nat) (z : Int), K ≤ M ∧ kk = .int .i64 z ∧ Hid (z = (K : Int) - 1) ∧ Hid (divI Ua V Q U K) ∧ Hid (W ^ K * Q < W ^ M) ∧ Hid (Blk wr g 66 (wcells U L)) ∧ Hid (Blk wr g2 66 (wcells (W ^ K * Q) M)) ∧ Below g w2 wr) (fun kk _ => (intOf kk + 1).toNat)
  case atStart => exact ⟨M, Ua, 0, _, Nat.le_refl _, rfl, Lib.hid (by first | rfl | omega | go_num), HST, Lib.hid (by rw [Nat.mul_zero]; exact Nat.pow_pos W0), HB6, by rw [Nat.mul_zero]; exact HQ0, hbg6⟩
  case round =>
    obtain ⟨K, U, Q, z, hK, rfl, hz, hdi, hQM, hbu, hbq, hbw⟩ := hrel
    by_cases h0 : K = 0
    · subst h0
      obtain rfl : z = -1 := by have := hz.out; omega
      have hq1 := hbq.out
      have hq2 := hQM.out
      rw [Nat.pow_zero, Nat.one_mul] at hq1 hq2
      obtain ⟨e1, e2⟩ := HEND.out Q U hdi.out
      have hUV := hdi.out.2
      rw [Nat.pow_zero, Nat.one_mul] at hUV
      have hUL : U < W ^ L := Nat.lt_of_lt_of_le (Nat.lt_trans hUV HV1.out) (Nat.pow_le_pow_right W0 (by have := HLL.out; have := HMM.out; omega))
      have hndU := nd_le W2 hUL
      have hndQ := nd_le W2 hq2
      have KC1 := Lib.hid (Cut_c (some ⟨g2, 0, none⟩) M M Q (g2 + 1) wr hq2 (Nat.le_refl _) (by omega) (Row.of_blk hq1 (by omega)))
      have KC2 := Lib.hid (Cut_c (some ⟨g, 0, none⟩) L L U (g + 1) wr hUL (Nat.le_refl _) (by omega) (Row.of_blk hbu.out (by omega)))
      have hrU : Row wr wr.heap.size (some ⟨g, 0, none⟩) U (nd W U) := (Row.of_blk hbu.out hbu.out.lt).less hndU
      have KS3 := Lib.hid (Shr_c (some ⟨g, 0, none⟩) L U s wr.heap.size wr (by omega) (by omega) hrU (Nat.le_refl _))
      rw [e2] at KS3
      subst e1
      have HQ1 := Lib.hid hq1
      have HNQ := Lib.hid hndQ
      have HBW := Lib.hid (below_chain hbw2 (by have h := hbw; rw [HG.out] at h; exact h))
      clear hq1 hq2 hUV hUL hndU hrU hndQ
      go_wp2_with fail
      refine KC1.out.mono ?_
      rintro e w7 ⟨rfl, rfl⟩
      go_wp2_with fail
      refine KC2.out.mono ?_
      rintro e w7 ⟨rfl, rfl⟩
      go_wp2_with fail
      refine KS3.out.mono ?_
      intro e w8 hp
      obtain ⟨A8, c8, rfl, hc8, hr8, hb8⟩ := hp.get
      have HR8 := Lib.hid hr8
      clear hp hr8
      go_wp2_with fail
      rw [Exit.noGoto_ret]
      go_ret2
      exact ⟨_, _, _, _, rfl, HNQ.out, hc8, ((Row.of_blk HQ1.out HQ1.out.lt).less HNQ.out).below hb8 |>.more hb8.size, HR8.out, below_chain HBW.out hb8⟩
    · obtain ⟨k, rfl⟩ : ∃ k, K = k + 1 := ⟨K - 1, by omega⟩
      obtain rfl : z = (k : Int) := by have := hz.out; omega
      have hlt := divI_lt hdi.out
      have hV1 := HV1.out
      have hV2 := HV2.out
      have hgok := guess_ok (U := U) (v := V) (k := k) (m := m) hV1 hV2 hlt
      obtain ⟨p2, hp2⟩ : ∃ p2, p2 = k + m + 2 := ⟨_, rfl⟩
      obtain ⟨p1, hp1⟩ : ∃ p1, p1 = k + m + 1 := ⟨_, rfl⟩
      obtain ⟨p0, hp0⟩ : ∃ p0, p0 = k + m := ⟨_, rfl⟩
      rw [← hp2, ← hp1, ← hp0, ← HN1.out] at hgok
      have hnm := HNN.out
      have hn1m := HN1.out
      have hlL := HLL.out
      have hmM := HMM.out
      have hUW : U < W ^ (k + n + 1) := by
        refine Nat.lt_trans hlt ?_
        have e : W ^ (k + n + 1) = W * (W ^ k * W ^ n) := by rw [← Nat.pow_add, ← Nat.pow_succ']
        rw [e, hnm]
        exact (Nat.mul_lt_mul_left W0).2 ((Nat.mul_lt_mul_left (Nat.pow_pos W0)).2 hV1)
      have hu2 := hbu.out.cell p2
      have hu1 := hbu.out.cell p1
      have hu0 := hbu.out.cell p0
      rw [wcells_get _ _ _ (by omega)] at hu2 hu1 hu0
      obtain ⟨gv, e1, hgv, hv1⟩ := HRV.out.at_ (k := n1) (by omega)
      obtain ⟨gv', e1', hgv', hv0⟩ := HRV.out.at_ (k := m) (by omega)
      have hee : gv' = gv := by rw [e1] at e1'; injection e1' with h; injection h with h; exact h.symm
      subst hee
      subst e1
      have hv1' := (hbw.cell (p := ⟨gv', n1, none⟩) (by rw [HG.out]; exact hgv)).trans hv1
      have hv0' := (hbw.cell (p := ⟨gv', m, none⟩) (by rw [HG.out]; exact hgv)).trans hv0
      have KDG := fun w => Digit_all (dgt W U p2) (dgt W U p1) (dgt W U p0) (dgt W V n1) (dgt W V m) w (wd_lt _ _) (wd_lt _ _) (wd_lt _ _) (wd_lt _ _)
      obtain ⟨G, hG⟩ : ∃ G, G = guessN (dgt W U p2) (dgt W U p1) (dgt W U p0) (dgt W V n1) (dgt W V m) := ⟨_, rfl⟩
      rw [← hG] at hgok KDG
      obtain ⟨hGW, hGq⟩ := hgok
      have HGQ := Lib.hid hGq
      have HGW := Lib.hid hGW
      have hG64 : G < 18446744073709551616 := by rw [← W_eq]; exact hGW
      have KD := Lib.hid KDG
      have i2 : (k : Int) + (n : Int) = (p2 : Int) := by omega
      have i1 : (p2 : Int) - 1 = (p1 : Int) := by omega
      have i0 : (p2 : Int) - 2 = (p0 : Int) := by omega
      have in2 : (n : Int) - 2 = (m : Int) := by omega
      have hw2 : IntKind.i64.wrap ((k : Int) + (n : Int)) = (p2 : Int) := by rw [IntWalk.i64_in _ (by omega)]; exact i2
      have hw1 : IntKind.i64.wrap ((p2 : Int) - 1) = (p1 : Int) := by rw [IntWalk.i64_in _ (by omega)]; exact i1
      have hw0 : IntKind.i64.wrap ((p2 : Int) - 2) = (p0 : Int) := by rw [IntWalk.i64_in _ (by omega)]; exact i0
      have hwn1 : IntKind.i64.wrap ((n : Int) - 1) = (n1 : Int) := by rw [IntWalk.i64_in _ (by omega)]; exact hn1I
      have hwn2 : IntKind.i64.wrap ((n : Int) - 2) = (m : Int) := by rw [IntWalk.i64_in _ (by omega)]; exact in2
      have b2 : p2 < L := by omega
      have b1 : p1 < L := by omega
      have b0 : p0 < L := by omega
      have bn1 : n1 < n := by omega
      have bn0 : m < n := by omega
      have HUW := Lib.hid hUW
      have HKM := Lib.hid (show k < M by omega)
      have HP2 := Lib.hid (show p2 = k + n by omega)
      generalize dgt W U p2 = d2 at *
      generalize dgt W U p1 = d1 at *
      generalize dgt W U p0 = d0 at *
      generalize dgt W V n1 = x1 at *
      generalize dgt W V m = x0 at *
      have hk8 : k ≤ 100000000 := by omega
      clear hlt hV1 hV2 hp2 hp1 hp0 hnm hn1m hlL hmM hUW hgv hv1 hv0 e1' hgv' KDG hG hGW hGq hK h0
      go_wp2_with fail
      go_quiet ((go_at_call 166; exact Calls.quiet_of ((KD.out _).mono fun _ _ h => ⟨h.1, h.2⟩)))
      have hbwq := below_drewN hbw nq
      have hbuq := Lib.hid (hbu.out.drewN nq)
      have hbqq := Lib.hid (hbq.out.drewN nq)
      clear hu2 hu1 hu0 hv1' hv0' hbu hbq hbw
      generalize wr.drewN nq = wq at *
      by_cases hG0 : G = 0
      · subst hG0
        have hq0 : U / (W ^ k * V) = 0 := by
          rcases HGQ.out with h | h
          · exact h
          · exact absurd h (Nat.succ_ne_zero _)
        have hst := divI_step hdi.out hq0.symm HV0.out
        have hUm : U % (W ^ k * V) = U := by
          refine Nat.mod_eq_of_lt ?_
          have h1 := Nat.lt_div_mul_add (a := U) (Nat.mul_pos (Nat.pow_pos (n := k) W0) HV0.out)
          rw [hq0, Nat.zero_mul, Nat.zero_add] at h1
          exact h1
        rw [hUm] at hst
        have he : W ^ (k + 1) * Q = W ^ k * (0 + W * Q) := by rw [Nat.zero_add, Nat.pow_succ, Nat.mul_assoc]
        rw [he] at hQM hbqq
        have HSTN := Lib.hid hst
        have HKM2 := HKM
        clear hq0 hst hUm he
        go_wp2_with fail
        go_roundw
        case rel => exact ⟨k, U, _, (k : Int) - 1, by have := HKM.out; omega, by first | rfl | go_num, Lib.hid rfl, HSTN, hQM, hbuq, hbqq, hbwq⟩
        case measure => simp [intOf]; try omega
      · have hGz : ((G : Int) == 0) = false := by rw [beq_eq_false_iff_ne]; omega
        have hkn : ((p2 : Int) + 1) ≤ (L : Int) := by omega
        have hkL : ¬ L = k := by have := HP2.out; omega
        have hsub : p2 + 1 - k = n + 1 := by have := HP2.out; omega
        have hsub2 : k + n + 1 - k = n + 1 := by omega
        have hVn : V < W ^ n := by rw [HNN.out]; exact HV1.out
        have hkL2 : k + n + 1 ≤ L := by have := HP2.out; omega
        have hRVq : Row wq g (some ⟨gv', 0, none⟩) V n := by
          have h := HRV.out
          rw [← HG.out] at h
          exact h.below hbwq
        have KL := Lib.hid (Less_c g k n L U V G (L - k) c1 (some ⟨gv', 0, none⟩) wq hbuq.out hkL2 (by omega) hRVq hVn hG64 HUW.out (by omega))
        have KB := Lib.hid (fun Z w7 h1 h2 h3 => Back_c g k n L Z V (L - k) c1 (some ⟨gv', 0, none⟩) w7 h1 hkL2 (by omega) h2 hVn h3 (by omega))
        have HRVQ := Lib.hid hRVq
        have HVN := Lib.hid hVn
        have hkM := HKM.out
        clear hRVq hVn hkL2 i2 i1 i0 hw2 hw1 hw0 hwn1 hwn2
        go_wp2_with fail
        (with_reducible refine KL.out.mono ?_)
        rintro e w7 ⟨Z, bo, bb, rfl, hbb, hbo, hblk7, hon7, hb7, hZ7, heq7⟩
        have HQ7 := Lib.hid (hon7.blk (Nat.ne_of_gt HGG.out) hbqq.out)
        have HB7 := Lib.hid hblk7
        have HEQ7 := Lib.hid heq7
        have HZ7 := Lib.hid hZ7
        have hbw7 : Below g w2 w7 := hbwq.trans hb7
        have hRV7 := Lib.hid (HRVQ.out.below hb7)
        clear hblk7 hon7 hZ7 heq7 hb7 hbwq
        by_cases hb0 : bo = 0
        · subst hb0
          obtain rfl : bb = false := by rw [hbb]; rfl
          obtain ⟨hqG, hZe⟩ := step_fine (n := n) (Z := Z) HGQ.out rfl HV0.out (by have := HEQ7.out; rwa [Nat.mul_zero, Nat.add_zero] at this)
          have hst := divI_step hdi.out hqG.symm HV0.out
          rw [← hZe] at hst
          obtain ⟨hq1, hq2⟩ := quo_put (k := k) (Q := Q) (v := G) (M := M) HGW.out hQM.out hkM
          have hcq := HQ7.out.cell k
          rw [wcells_get _ _ _ hkM] at hcq
          have hfq := HQ7.out.frozen k
          have HQ8 := HQ7.out.set_ k (.int .u64 (G : Nat))
          rw [wcells_set _ _ _ _ hG64, hq1] at HQ8
          have HQ9 := Lib.hid HQ8
          have HB8 := Lib.hid (HB7.out.far (p := ⟨g2, k, none⟩) (Nat.ne_of_lt HGG.out) (.int .u64 (G : Nat)))
          have hb8 := hbw7.setCell (p := ⟨g2, k, none⟩) (Nat.le_of_lt HGG.out) (.int .u64 (G : Nat))
          have HSTN := Lib.hid hst
          have HQB := Lib.hid hq2
          clear hbb hbo hqG hZe hst hq1 hq2 HQ8
          go_wp2_with fail
          go_roundw
          case rel => exact ⟨k, Z, _, (k : Int) - 1, by have := HKM.out; omega, by first | rfl | go_num, Lib.hid rfl, HSTN, HQB, HB8, HQ9, hb8⟩
          case measure => simp [intOf]; try omega
        · obtain rfl : bo = 1 := by omega
          obtain rfl : bb = true := by rw [hbb]; rfl
          obtain ⟨x, rfl⟩ : ∃ x, G = x + 1 := ⟨G - 1, by omega⟩
          have hwx : IntKind.u64.wrap ((x : Int) + 1 - 1) = (x : Int) := by rw [IntKind.wrap_u64]; omega
          have hwx2 : IntKind.u64.wrap (x : Int) = (x : Int) := by rw [IntKind.wrap_u64]; omega
          have hx64 : x < 18446744073709551616 := by omega
          have hxI : ((x + 1 : Nat) : Int) - 1 = (x : Int) := by omega
          clear hbb hbo hb0
          go_wp2_with fail
          refine (KB.out Z w7 HB7.out hRV7.out HZ7.out).mono ?_
          rintro e w8 ⟨Z2, cc, rfl, hcc, hblk8, hon8, hb8, hZ8, heq8⟩
          obtain ⟨hqG, hZe⟩ := step_back (n := n) (Z := Z) (Z' := Z2) (c := cc) HGQ.out rfl HV0.out HVN.out HUW.out HZ7.out hZ8 hcc (by have := HEQ7.out; rwa [Nat.mul_one] at this) heq8
          have hst := divI_step (q := x) hdi.out (Nat.succ.inj hqG).symm HV0.out
          rw [← hZe] at hst
          obtain ⟨hq1, hq2⟩ := quo_put (k := k) (Q := Q) (v := x) (M := M) (Nat.lt_of_succ_lt HGW.out) hQM.out hkM
          have HQ8 := hon8.blk (Nat.ne_of_gt HGG.out) HQ7.out
          have hcq := HQ8.cell k
          rw [wcells_get _ _ _ hkM] at hcq
          have hfq := HQ8.frozen k
          have HQ9 := HQ8.set_ k (.int .u64 (x : Nat))
          rw [wcells_set _ _ _ _ hx64, hq1] at HQ9
          have HQ10 := Lib.hid HQ9
          have HB9 := Lib.hid (hblk8.far (p := ⟨g2, k, none⟩) (Nat.ne_of_lt HGG.out) (.int .u64 (x : Nat)))
          have hb9 := (hbw7.trans hb8).setCell (p := ⟨g2, k, none⟩) (Nat.le_of_lt HGG.out) (.int .u64 (x : Nat))
          have HSTN := Lib.hid hst
          have HQB := Lib.hid hq2
          clear hqG hZe hst hq1 hq2 HQ8 HQ9 hblk8 hon8 hZ8 heq8 hcc hb8
          go_wp2_with fail
          go_roundw
          case rel => exact ⟨k, Z2, _, (k : Int) - 1, by have := HKM.out; omega, by first | rfl | go_num, Lib.hid rfl, HSTN, HQB, HB9, HQ10, hb9⟩
          case measure => simp [intOf]; try omega
end Go.Proofs.YtajcapliokblfaaGreatDoor
set_option linter.unusedSimpArgs false
set_option linter.unusedVariables false
namespace Go.Proofs.YtajcapliokblfaaGreatDoor
open Go Go.RowKit Nt
theorem run_append_none {P : Program} (w : World) (t ty e : TypeId) (i : TypeInfo) (ht : P.underlying t = some (.slice e)) (hi : P.info? e = some i) (A : Option Addr) (c : Nat) :
    (Builtin.append_ #[t, t] ty #[.slice none 0 0, .slice A 0 c]).run P w = .ok (.slice none 0 0) w := by
  cases A <;> simp [Builtin.append_, run_underlying ht, sizeOf, typeInfo, hi, Builtin.lenOf, Builtin.firstCells, loadCells, loadCellsFrom]
/-- 'append([]uint64(nil), x...)'. -/
theorem wpList_appWl {P : Program} (w0 : World) {ops : Array Oper} {rest : List Oper} {o : Oper} {a : Act} {Q : Exit → Act → World → Prop} (hgd : o.guard = none) (s x : Operand) (t : TypeId)
    (ho : o.op = .call { callee := .builtin .append, args := #[s, x], argTypes := #[t, t] })
    (e : TypeId) (i : TypeInfo) (ht : P.underlying t = some (.slice e)) (hi : P.info? e = some i) (hz : i.zero = some (.int .u64 0))
    (hsize : i.size = 1) (hby : i.bytes = 8)
    (n : Nat) (A : Option Addr) (L c B : Nat) (hs : a.eval s = .slice none 0 0) (hx : a.eval x = .slice A L c) (hr : Row w0 B A n L)
    (hn : L ≤ 1000000000)
    (h : ∀ A' c' w', L ≤ c' → c' ≤ 9223372036854775807 → Row w' w'.heap.size A' n L → Below w0.heap.size w0 w' → wpList P ops Q rest (a.put o.dst (.slice A' L c')) w') :
    wpList P ops Q (o :: rest) a w0 := by
  by_cases h0 : L = 0
  · subst h0
    refine wpList_plain hgd fun K hK => ?_
    have hrun := run_append_none (P := P) w0 t o.type e i ht hi A c
    unfold Oper.wp execOp
    simp only [ho, resolve, invoke, builtin, Sem.run_bind, Sem.run_pure, Result.andThen_ok, List.map_toArray, List.map_cons, List.map_nil, hs, hx, hrun]
    exact hK _ _ (h none 0 w0 (Nat.le_refl _) (by omega) Row.none_ (Below.refl _ _))
  · obtain ⟨g, rfl, hg, hc⟩ := hr (by omega)
    refine wpList_append_own_at w0 hgd s x t ho w0.heap.size e i (.int .u64 0) 1 8 ht hi hz hsize hby rfl (by omega) (.slice none 0 0) 0 [] hs (World.ownsRow_nil _ _ _ _) ⟨g, 0, none⟩ L c ((dl W n L).map (fun (x : Nat) => Value.int .u64 (x : Int))) hx (by rw [List.length_map, dl_length, Nat.mul_one]) ?_ ?_ (by simp [maxLen]; omega) (by omega) (Nat.le_refl _) ?_
    · intro j u hu
      have hj : j < L := by
        rcases Nat.lt_or_ge j L with h | h
        · exact h
        · rw [List.getElem?_eq_none (by rw [List.length_map, dl_length]; exact h)] at hu; cases hu
      rw [List.getElem?_map, dl_get? _ _ _ _ hj] at hu
      rw [add_plain0, hc j hj]; exact hu
    · intro u hu
      obtain ⟨y, _, rfl⟩ := List.mem_map.1 hu
      rfl
    · intro v' w' hown hgw _ _
      rw [Nat.zero_add, List.nil_append] at hown
      obtain ⟨_, hform⟩ := hown
      rcases hform with ⟨_, h2⟩ | ⟨g', cap, cur, rfl, hB, hh, h3, h4, h5, h6⟩
      · exact absurd h2 h0
      · refine h _ _ _ h3 (by simpa [maxLen] using h4) (fun _ => ⟨g', rfl, Blk.lt (cs := cur) (t := e) hh, fun j hj => ?_⟩) (Below.grown (Below.refl _ _) hgw (Nat.le_refl _) (fun g e => by simp [Value.ownBlock] at e))
        rw [Blk.cell (cs := cur) (t := e) hh j]
        have ee := congrArg (fun x => x[j]?) h6
        simp only [Nat.mul_one] at ee
        rw [List.getElem?_take, if_pos hj, List.getElem?_map, dl_get? _ _ _ _ hj] at ee
        rw [← Array.getElem?_toList]; exact ee
set_option maxRecDepth 100000 in
set_option maxHeartbeats 1000000 in
theorem Div_less (A A' : Option Addr) (c c' a b : Nat) (w : World) (hab : a < b) (hL : nd W a ≤ 100000000) (hL' : nd W b ≤ 100000000) (hr : Row w w.heap.size A a (nd W a)) (hr' : Row w w.heap.size A' b (nd W b)) :
    Calls Tryz.prog 112 #[.slice A (nd W a) c, .slice A' (nd W b) c'] w (DivPost (a / b) (a % b) w) := by
  obtain ⟨i0, hi0, hz0, hz1, hz2⟩ := info_parts (P := Tryz.prog) (e := 66) (z := .int .u64 0) (size := 1) (bytes := 8) (by kernel_rfl)
  rw [Nat.div_eq_of_lt hab, Nat.mod_eq_of_lt hab]
  have hcm := Cmp_c A A' c c' a b w.heap.size w (by omega) (by omega) hr hr'
  rw [cmpN_lt hab] at hcm
  have HCM := Lib.hid hcm
  have HR := Lib.hid hr
  have hlt : a < W ^ nd W a := lt_nd W2
  obtain ⟨la, hla⟩ : ∃ la, la = nd W a := ⟨_, rfl⟩
  rw [← hla] at HCM HR hL hlt ⊢
  have HLA := Lib.hid hla
  have HLT := Lib.hid hlt
  clear hcm hr hr' hab hla hlt
  go_enter Tryz.func112, Tryz.ntmps112
  go_wp2
  go_step3
  go_wp2_with fail
  refine HCM.out.mono ?_
  rintro e w1 ⟨rfl, nn, rfl⟩
  have hR1 := Lib.hid (HR.out.drewN nn)
  have hbw1 : Below w.heap.size w (w.drewN nn) := below_drewN (Below.refl _ _) nn
  generalize w.drewN nn = w1 at *
  go_wp2_with (at_builtin; go_loud (refine wpList_appWl w1 rfl (.const (.slice none 0 0)) (.tmp 19) _ rfl 66 i0 Tryz.underlying74 hi0 hz0 hz1 hz2 a A la c w.heap.size rfl rfl hR1.out (by omega) ?_); intro A2 c2 w2 hc2 hc22 hr2 hb2; have HR2 := Lib.hid hr2; clear hr2)
  refine (Cut_c A2 la c2 a w2.heap.size w2 HLT.out hc2 hc22 HR2.out).mono ?_
  rintro e w3 ⟨rfl, rfl⟩
  go_wp2_with fail
  rw [Exit.noGoto_ret]
  go_ret2
  have e0 : nd W 0 = 0 := nd_zero _
  refine ⟨none, 0, A2, c2, ?_, by rw [e0]; exact Nat.le_refl _, by rw [← HLA.out]; exact hc2, by rw [e0]; exact Row.none_, by rw [← HLA.out]; exact HR2.out, below_chain hbw1 hb2⟩
  rw [e0]; rfl
theorem Div_all (A A' : Option Addr) (c c' a b : Nat) (w : World) (hb : b ≠ 0) (hL : nd W a ≤ 100000000) (hL' : nd W b ≤ 100000000) (hr : Row w w.heap.size A a (nd W a)) (hr' : Row w w.heap.size A' b (nd W b)) :
    Calls Tryz.prog 112 #[.slice A (nd W a) c, .slice A' (nd W b) c'] w (DivPost (a / b) (a % b) w) := by
  by_cases hab : a < b
  · exact Div_less A A' c c' a b w hab hL hL' hr hr'
  · have hle : b ≤ a := by omega
    have hn0 : nd W b ≠ 0 := fun e => hb ((nd_eq_zero W2).1 e)
    by_cases h1 : nd W b = 1
    · exact Div_one A A' c c' a b w h1 hle (by omega) hr hr'
    · obtain ⟨m, hm⟩ : ∃ m, nd W b = m + 2 := ⟨nd W b - 2, by omega⟩
      have hmn := nd_mono (b := W) W2 hle
      obtain ⟨M, hM⟩ : ∃ M, M + (m + 1) = nd W a := ⟨nd W a - (m + 1), by omega⟩
      have h := Div_big A A' c c' a b m (nd W a) M w hm hle rfl hM hL hr (by rw [← hm]; exact hr')
      rw [← hm] at h
      exact h
theorem NDiv_c (a b : Nat) (w : World) (ha : fits a) (hb : fits b) (hb0 : b ≠ 0) :
    Calls Tryz.prog 86 #[.string (natS a), .string (natS b)] w (Str2Post (natS (a / b)) (natS (a % b)) 0 w) :=
  NDiv_of a b w ha hb hb0 (fun A A' c c' w hr hr' => Div_all A A' c c' a b w hb0 (by have := fits_words ha; omega) (by have := fits_words hb; omega) hr hr')
end Go.Proofs.YtajcapliokblfaaGreatDoor
