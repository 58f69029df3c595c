/- Contracts of package nat: brief, Of, Small. -/
import Derived.Test.YtjkonfopajihdaaDoorN15
set_option linter.unusedSimpArgs false
set_option linter.unusedVariables false
namespace Go.Proofs.YtjkonfopajihdaaDoor
open Go Go.RowKit Nt

@[irreducible] def brB (n : Nat) : Bool := decide (nd 256 n ≤ 8)
@[irreducible] def brN (n : Nat) : Nat := if nd 256 n ≤ 8 then n else 0
theorem brB_yes {n : Nat} (h : nd 256 n ≤ 8) : brB n = true := by unfold brB; exact decide_eq_true h
theorem brB_no {n : Nat} (h : ¬ nd 256 n ≤ 8) : brB n = false := by unfold brB; exact decide_eq_false h
theorem brN_yes {n : Nat} (h : nd 256 n ≤ 8) : brN n = n := by unfold brN; rw [if_pos h]
theorem brN_no {n : Nat} (h : ¬ nd 256 n ≤ 8) : brN n = 0 := by unfold brN; rw [if_neg h]
theorem br_lt {n : Nat} : nd 256 n ≤ 8 ↔ n < 18446744073709551616 := by
  rw [← lt_pow_iff (by omega)]
theorem brN_lt (n : Nat) : brN n < 18446744073709551616 := by
  by_cases h : nd 256 n ≤ 8
  · rw [brN_yes h]; exact br_lt.1 h
  · rw [brN_no h]; omega
/-- The value of the bytes ahead of the place k. -/
@[irreducible] def preN (n k : Nat) : Nat := n / 256 ^ (nd 256 n - k)
theorem preN_zero (n : Nat) : preN n 0 = 0 := by unfold preN; rw [Nat.sub_zero]; exact Nat.div_eq_of_lt (lt_nd (by omega))
theorem preN_full (n : Nat) : preN n (nd 256 n) = n := by unfold preN; rw [Nat.sub_self, Nat.pow_zero, Nat.div_one]
theorem preN_succ (n k : Nat) (h : k < nd 256 n) : preN n (k + 1) = 256 * preN n k + dgt 256 n (nd 256 n - 1 - k) := by
  unfold preN
  obtain ⟨m, hm⟩ : ∃ m, nd 256 n = k + 1 + m := ⟨nd 256 n - k - 1, by omega⟩
  rw [hm, show k + 1 + m - (k + 1) = m by omega, show k + 1 + m - k = m + 1 by omega, show k + 1 + m - 1 - k = m by omega, div_eq_dgt (by omega) n m, Nat.add_comm]
theorem preN_le (n k : Nat) : preN n k ≤ n := by unfold preN; exact Nat.div_le_self _ _
set_option maxRecDepth 100000 in
set_option maxHeartbeats 400000 in
theorem brief_c (n : Nat) (w : World) (hf : fits n) :
    Calls Tryd.prog 122 #[.string (natS n)] w fun e w' => e = .returned (.tuple #[.int .u64 (brN n : Nat), .bool (brB n)]) ∧ w = w' := by
  have hsz := natS_size n
  unfold fits at hf
  by_cases h : nd 256 n ≤ 8
  · have HB := Lib.hid (brB_yes h)
    have HN := Lib.hid (brN_yes h)
    have hlt8 : n < 18446744073709551616 := br_lt.1 h
    have HL := Lib.hid hlt8
    have h8 : ¬ 8 < nd 256 n := by omega
    clear hlt8
    go_enter Tryd.func122, Tryd.ntmps122
    go_wp2
    go_loop [2, 10] (fun v i => ∃ k : Nat, k ≤ nd 256 n ∧ i = .int .i64 k ∧ v = .int .u64 (preN n k : Nat)) (fun _ i => nd 256 n - (intOf i).toNat)
    case atStart => exact ⟨0, Nat.zero_le _, rfl, by rw [preN_zero]; rfl⟩
    case round =>
      obtain ⟨k, hk, rfl, rfl⟩ := hrel
      by_cases hlt : k < nd 256 n
      · have hks : k < (natS n).size := by omega
        have e := natS_get n k hks
        have es := preN_succ n k hlt
        have hp1 := preN_le n (k + 1)
        have hHL := HL.out
        have hv : bits .or .u64 (IntKind.u64.wrap ((preN n k : Nat) * 256)) (IntKind.u64.wrap (((natS n)[k].toNat : Nat) : Int)) = ((preN n (k + 1) : Nat) : Int) := by
          have hb := (natS n)[k].toNat_lt
          have e1 : IntKind.u64.wrap ((preN n k : Nat) * 256) = ((256 * preN n k : Nat) : Int) := by rw [IntKind.wrap_u64]; omega
          have e2 : IntKind.u64.wrap (((natS n)[k].toNat : Nat) : Int) = (((natS n)[k].toNat : Nat) : Int) := by rw [IntKind.wrap_u64]; omega
          rw [e1, e2, bits_or_u64_nat _ _ (by omega) (by omega), es, ← e]
          have := or_hi (preN n k) (natS n)[k].toNat 8 hb
          exact congrArg Int.ofNat this
        have HV := Lib.hid hv
        have E := Lib.hid e
        have ES := Lib.hid es
        clear e es hv hp1 hHL
        go_wp2
        go_round
        case rel => exact ⟨k + 1, by omega, by go_num, by rw [HV.out]⟩
        case measure => simp [intOf]; omega
      · obtain rfl : k = nd 256 n := by omega
        rw [preN_full]
        go_wp2
        go_ret2
        exact ⟨by rw [HB.out, HN.out]; rfl, rfl⟩
  · have HB := Lib.hid (brB_no h)
    have HN := Lib.hid (brN_no h)
    have h8 : 8 < nd 256 n := by omega
    go_enter Tryd.func122, Tryd.ntmps122
    go_wp2
    go_ret2
    exact ⟨by rw [HB.out, HN.out]; rfl, rfl⟩
/-- The cells of the array when k bytes stand at its end. -/
def ofF (n k j : Nat) : Nat := if 8 - k ≤ j ∧ j < 8 then dgt 256 n (7 - j) else 0
theorem ofF_step (n k i j : Nat) (h : i + (k + 1) = 8) (hj : j < 8) : (if j = i then dgt 256 n k else ofF n k j) = ofF n (k + 1) j := by
  unfold ofF
  by_cases h1 : j = i
  · rw [if_pos h1, if_pos (by omega)]; congr 1; omega
  · rw [if_neg h1]
    by_cases h2 : 8 - k ≤ j ∧ j < 8
    · rw [if_pos h2, if_pos (by omega)]
    · rw [if_neg h2, if_neg (by omega)]
theorem add_plainO (g k j : Nat) : (⟨g, k, none⟩ : Addr).add j = ⟨g, k + j, none⟩ := by
  unfold Addr.add; split
  · rename_i h; subst h; rfl
  · simp
theorem neqz_true {x : Nat} (h : x ≠ 0) : (((x : Nat) : Int) != 0) = true := by rw [bne_iff_ne]; omega
theorem neqz_false {x : Nat} (h : x = 0) : (((x : Nat) : Int) != 0) = false := by subst h; rfl
theorem arr_slice (g j : Nat) (h : j ≤ 8) : ∃ A : Option Addr, ((8 - j ≠ 0 → A = some ⟨g, j, none⟩) ∧ ∃ ad, A = some ad) ∧ ∀ w, (Instr.sliceAt 113 (.pointer (some ⟨g, 0, none⟩)) (some (.int .i64 j)) none none).run Tryd.prog w = .ok (.slice A (8 - j) (8 - j)) w := by
  refine ⟨if 8 = j then some ⟨g, 0, none⟩ else some ⟨g, j, none⟩, ⟨fun h0 => by rw [if_neg (by omega)], by split <;> exact ⟨_, rfl⟩⟩, fun w => ?_⟩
  have hal : Tryd.prog.arrayLen 113 = 8 := by kernel_rfl
  have ht : Tryd.prog.underlying 113 = some (.array (Tryd.prog.arrayLen 113) (Tryd.prog.elem 113)) := by kernel_rfl
  have he : Tryd.prog.elem 113 = 5 := by kernel_rfl
  rw [run_sliceAt_array_l w 113 ⟨g, 0, none⟩ ht .i64 _ (by omega) (by rw [hal]; omega), he, Tryd.sizeOf5 w, hal]
  simp only [Result.andThen, slicedAt, Int.toNat_natCast]
  by_cases h1 : 8 = j
  · rw [if_pos h1, if_pos h1]
  · rw [if_neg h1, if_neg h1, Nat.mul_one, add_plain0]
set_option maxRecDepth 100000 in
set_option maxHeartbeats 400000 in
theorem Of_n (n : Nat) (w : World) (hn : n < 18446744073709551616) :
    Calls Tryd.prog 62 #[.int .u64 (n : Nat)] w fun e w' => e = .returned (.string (natS n)) ∧ Below w.heap.size w w' := by
  have H8 := Lib.hid (br_lt.2 hn)
  have HN := Lib.hid hn
  clear hn
  go_enter Tryd.func62, Tryd.ntmps62
  go_wp2
  have h0 : (#[Value.int IntKind.u8 0, Value.int IntKind.u8 0, Value.int IntKind.u8 0, Value.int IntKind.u8 0, Value.int IntKind.u8 0, Value.int IntKind.u8 0, Value.int IntKind.u8 0, Value.int IntKind.u8 0] : Array Value) = fcells .u8 (ofF n 0) 8 := by
    rw [fcells_congr (f' := fun _ => 0) (fun j hj => by unfold ofF; rw [if_neg (by omega)])]; rfl
  rw [h0]
  have HB0 := Lib.hid (Blk.new w 113 (fcells .u8 (ofF n 0) 8))
  have hbl : Below w.heap.size w (w.alloc (.cells (fcells .u8 (ofF n 0) 8) 113)) := (Below.refl _ _).alloc (Nat.le_refl _) _
  generalize w.alloc (.cells (fcells .u8 (ofF n 0) 8) 113) = w1 at *
  obtain ⟨g, hg⟩ : ∃ g, g = w.heap.size := ⟨_, rfl⟩
  rw [← hg] at HB0 hbl ⊢
  have HG := Lib.hid hg
  clear hg h0
  go_loopw [0, 4] (fun x i wr => ∃ (k m j : Nat), x = .int .u64 m ∧ i = .int .i64 j ∧ Hid (j + k = 8) ∧ Hid (m = n / 256 ^ k) ∧ Hid (k ≤ nd 256 n) ∧ Hid (Blk wr g 113 (fcells .u8 (ofF n k) 8)) ∧ Below g w wr) (fun _ i _ => (intOf i).toNat)
  case atStart => exact ⟨0, n, 8, rfl, rfl, Lib.hid rfl, Lib.hid (by rw [Nat.pow_zero, Nat.div_one]), Lib.hid (Nat.zero_le _), HB0, hbl⟩
  case round =>
    obtain ⟨k, m, j, rfl, rfl, hj, hm, hk, hblk, hb⟩ := hrel
    by_cases h0 : m = 0
    · have hz := neqz_false h0
      have hnd : nd 256 n = k := by
        have h1 := hm.out
        rw [h0] at h1
        have h2 : n < 256 ^ k := by
          rcases Nat.lt_or_ge n (256 ^ k) with h | h
          · exact h
          · have := Nat.div_pos h (Nat.pow_pos (n := k) (show 0 < 256 by omega)); omega
        have := nd_le (b := 256) (by omega) h2
        have := hk.out; omega
      have HND := Lib.hid hnd
      obtain ⟨A, hA, hsl⟩ := arr_slice g j (by have := hj.out; omega)
      have hcv : ∀ W, W = wr → (convert 114 22 (.slice A (8 - j) (8 - j))).run Tryd.prog W = .ok (.string (natS n)) W := by
        rintro W rfl
        have hl : ((dl 256 n (nd 256 n)).reverse.map UInt8.ofNat).length = 8 - j := by simp [dl_length, hnd]; have := hj.out; omega
        rcases Nat.eq_zero_or_pos k with hk0 | hk0
        · have e0 : (dl 256 n (nd 256 n)).reverse.map UInt8.ofNat = [] := by rw [hnd, hk0]; rfl
          have h8 : 8 - j = 0 := by have := hj.out; omega
          obtain ⟨ad, rfl⟩ := hA.2
          have h := run_convert_bytes_back (P := Tryd.prog) W 114 22 5 ad (8 - j) ((dl 256 n (nd 256 n)).reverse.map UInt8.ofNat) Tryd.underlying114 Tryd.underlying5 Tryd.underlying22 (fun i hi => by rw [hl] at hi; omega)
          rw [hl, ← natS_def] at h
          exact h
        · obtain rfl := hA.1 (by have := hj.out; omega)
          have h := run_convert_bytes_back (P := Tryd.prog) W 114 22 5 ⟨g, j, none⟩ (8 - j) ((dl 256 n (nd 256 n)).reverse.map UInt8.ofNat) Tryd.underlying114 Tryd.underlying5 Tryd.underlying22 (fun i hi => by
            have hi' : i < 8 - j := by rw [← hl]; exact hi
            rw [add_plainO, hblk.out.cell, fcells_get _ _ _ _ (by omega)]
            have e := natS_get n i (by rw [natS_size, hnd]; have := hj.out; omega)
            rw [ba_get] at e
            simp only [natS_def] at e
            rw [List.getElem_toArray] at e
            rw [e]
            unfold ofF
            have hj' := hj.out
            rw [if_pos (by omega), hnd, show 7 - (j + i) = k - 1 - i by omega])
          rw [hl, ← natS_def] at h
          exact h
      have hcv' := hcv wr rfl
      have hmz := Lib.hid h0
      clear hcv h0 hnd
      go_wp2
      go_ret
      exact ⟨rfl, by rw [← HG.out]; exact hb⟩
    · have hz := neqz_true h0
      have hnd : k < nd 256 n := by
        rcases Nat.lt_or_ge k (nd 256 n) with h | h
        · exact h
        · have := (lt_pow_iff (b := 256) (by omega) k n).2 h
          have h2 := hm.out
          rw [Nat.div_eq_of_lt this] at h2; omega
      obtain ⟨i, hi⟩ : ∃ i, j = i + 1 := ⟨j - 1, by have := hj.out; have := H8.out; omega⟩
      subst hi
      have hi8 : i < 8 := by have := hj.out; omega
      have hij : ((i : Int) + 1) - 1 = (i : Int) := by omega
      have hfz := hblk.out.frozen i
      have hck := hblk.out.cell i
      rw [fcells_get _ _ _ _ hi8] at hck
      have hv : IntKind.u8.wrap (m : Int) = ((dgt 256 n k : Nat) : Int) := by rw [wrap_u8, hm.out, dgt_def]
      have hm2 : (m : Int) / 256 = ((m / 256 : Nat) : Int) := by omega
      obtain ⟨m', hm'⟩ : ∃ m', m' = m / 256 := ⟨_, rfl⟩
      rw [← hm'] at hm2
      have HM' : Hid (m' = n / 256 ^ (k + 1)) := Lib.hid (by rw [hm', hm.out, Nat.pow_succ, Nat.div_div_eq_div_mul])
      have HB1 := Lib.hid (hblk.out.set_ i (.int .u8 (dgt 256 n k : Nat)))
      rw [fcells_set, fcells_congr (f' := ofF n (k + 1)) (fun x hx => ofF_step n k i x (by have := hj.out; omega) hx)] at HB1
      have hb1 := hb.setCell (p := ⟨g, i, none⟩) (Nat.le_refl _) (.int .u8 (dgt 256 n k : Nat))
      have HJ : Hid (i + (k + 1) = 8) := Lib.hid (by have := hj.out; omega)
      have HK : Hid (k + 1 ≤ nd 256 n) := Lib.hid (by omega)
      clear h0 hnd hm'
      go_wp2
      go_roundw
      case rel => exact ⟨k + 1, m', i, rfl, rfl, HJ, HM', HK, HB1, hb1⟩
      case measure => simp [intOf]
end Go.Proofs.YtjkonfopajihdaaDoor
