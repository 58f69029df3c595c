/- Contracts: Small of the document. -/
import Derived.Test.YtjcicbnjoffbhaaN39
set_option linter.unusedSimpArgs false
set_option linter.unusedVariables false
namespace Go.Proofs.Ytjcicbnjoffbhaa
open Go Go.RowKit Nt

set_option maxRecDepth 100000 in
set_option maxHeartbeats 400000 in
theorem rSmall_c (n : Nat) (w : World) (hf : fits n) (hz : (natS n).size ≤ 9223372036854775807) :
    Calls Try.prog 20 #[.string (natS n)] w fun e w' => e = .returned (.tuple #[.int .u64 (brN n : Nat), .bool (brB n)]) ∧ w = w' := by
  have hsz := natS_size n
  have hmay := Lib.hid (fun w => rMay_c (natS n) w hz)
  have hmb := mayB_yes ((may_natS n).2 hf)
  unfold fits at hf
  by_cases h : nd 256 n ≤ 8
  · have HB := Lib.hid (brB_yes h)
    have HN := Lib.hid (brN_yes h)
    have hlt8 : n < 18446744073709551616 := br_lt.1 h
    have HL := Lib.hid hlt8
    have h8 : ¬ 8 < nd 256 n := by omega
    clear hlt8 hz
    go_enter Try.func20, Try.ntmps20
    go_wp2_with (go_at_call 59; refine (hmay.out _).mono ?_; rintro e w' ⟨rfl, rfl⟩)
    go_loop [4, 5] (fun v i => ∃ k : Nat, k ≤ nd 256 n ∧ i = .int .i64 k ∧ v = .int .u64 (preN n k : Nat)) (fun _ i => nd 256 n - (intOf i).toNat)
    case atStart => exact ⟨0, Nat.zero_le _, rfl, by rw [preN_zero]; rfl⟩
    case round =>
      obtain ⟨k, hk, rfl, rfl⟩ := hrel
      by_cases hlt : k < nd 256 n
      · have hks : k < (natS n).size := by omega
        have e := natS_get n k hks
        have es := preN_succ n k hlt
        have hp1 := preN_le n (k + 1)
        have hHL := HL.out
        have hb := (natS n)[k].toNat_lt
        have e1 : IntKind.u64.wrap (256 * (preN n k : Nat)) = ((256 * preN n k : Nat) : Int) := by rw [IntKind.wrap_u64]; omega
        have e2 : IntKind.u64.wrap (((natS n)[k].toNat : Nat) : Int) = (((natS n)[k].toNat : Nat) : Int) := by rw [IntKind.wrap_u64]; omega
        have e3 : IntKind.u64.wrap (256 * (preN n k : Int) + (((natS n)[k].toNat : Nat) : Int)) = ((preN n (k + 1) : Nat) : Int) := by rw [IntKind.wrap_u64]; omega
        have E := Lib.hid e
        have ES := Lib.hid es
        clear e es hp1 hHL
        go_wp2
        go_round
        case rel => exact ⟨k + 1, by omega, by go_num, by first | rfl | rw [e3]⟩
        case measure => simp [intOf]; omega
      · obtain rfl : k = nd 256 n := by omega
        rw [preN_full]
        go_wp2
        go_ret2
        exact ⟨by rw [HB.out, HN.out]; rfl, rfl⟩
  · have HB := Lib.hid (brB_no h)
    have HN := Lib.hid (brN_no h)
    have h8 : 8 < nd 256 n := by omega
    have h8I : (8 : Int) < (nd 256 n : Int) := by omega
    clear hz
    go_enter Try.func20, Try.ntmps20
    go_wp2_with (go_at_call 59; refine (hmay.out _).mono ?_; rintro e w' ⟨rfl, rfl⟩)
    go_ret2
    exact ⟨by rw [HB.out, HN.out]; rfl, rfl⟩
set_option maxRecDepth 100000 in
theorem rSmall_no (s : ByteArray) (w : World) (hz : s.size ≤ 9223372036854775807) (h : ¬ May s) :
    Calls Try.prog 20 #[.string s] w fun e w' => e = .returned (.tuple #[.int .u64 0, .bool false]) ∧ w = w' := by
  have hmay := Lib.hid (fun w => rMay_c s w hz)
  have hmb := mayB_no h
  clear h
  go_enter Try.func20, Try.ntmps20
  go_wp2_with (go_at_call 59; refine (hmay.out _).mono ?_; rintro e w' ⟨rfl, rfl⟩)
  go_ret2
  exact ⟨rfl, rfl⟩
end Go.Proofs.Ytjcicbnjoffbhaa
