/- Contracts: Bit of nat and of the document. -/
import Derived.Test.YtjkonfopajihdaaDoorN33
set_option linter.unusedSimpArgs false
set_option linter.unusedVariables false
namespace Go.Proofs.YtjkonfopajihdaaDoor
open Go Go.RowKit Nt

theorem byte_bit (n q r : Nat) (hr : r < 8) : dgt 256 n q / 2 ^ r % 2 = dgt 2 n (8 * q + r) := by
  have := dgt_in (b := 2) (e := 8) (by omega) n q r hr
  rw [show (2 : Nat) ^ 8 = 256 from rfl, dgt_def 2 (dgt 256 n q)] at this
  exact this
theorem and_one_u8 (q : Nat) (hq : q < 256) : bits BinOp.and IntKind.u8 (q : Int) 1 = ((q % 2 : Nat) : Int) := by
  have h1 : (BitVec.ofInt 8 (q : Int)).toNat = q := by
    rw [BitVec.ofInt_natCast, BitVec.toNat_ofNat]; exact Nat.mod_eq_of_lt (by omega)
  have h2 : (BitVec.ofInt 8 (1 : Int)).toNat = 1 := by decide
  show IntKind.u8.wrap ((BitVec.ofInt 8 (q : Int) &&& BitVec.ofInt 8 (1 : Int)).toNat : Int) = _
  rw [BitVec.toNat_and, h1, h2, Nat.and_one_is_mod, wrap_u8]
  omega
/-- The bits of a number. -/
def BitPost (b : Nat) (r : Int) (w : World) (e : Ending) (w' : World) : Prop := e = .returned (.tuple #[.int .u8 (b : Nat), .int .i64 r]) ∧ Below w.heap.size w w'
theorem bit_above {n i : Nat} (h : ¬ i / 8 < nd 256 n) : dgt 2 n i = 0 := by
  refine dgt_big (by omega) ?_
  have := bytes_bits n
  omega
set_option maxRecDepth 100000 in
theorem NBit_no (s : ByteArray) (i : Int) (w : World) (h : ¬ May s) :
    Calls Tryd.prog 130 #[.string s, .int .i64 i] w (BitPost 0 2 w) := by
  have hm := may1_no h
  go_enter Tryd.func130, Tryd.ntmps130
  go_wp2_with (go_at_call 59; refine (Check_c _ _).mono ?_; rintro e w1 ⟨rfl, hb⟩)
  go_ret2
  exact ⟨rfl, hb⟩
set_option maxRecDepth 100000 in
theorem NBit_neg (n : Nat) (i : Int) (w : World) (hf : fits n) (hi : i < 0) :
    Calls Tryd.prog 130 #[.string (natS n), .int .i64 i] w (BitPost 0 2 w) := by
  have hm := may1 hf
  go_enter Tryd.func130, Tryd.ntmps130
  go_wp2_with (go_at_call 59; refine (Check_c _ _).mono ?_; rintro e w1 ⟨rfl, hb⟩)
  go_ret2
  exact ⟨rfl, hb⟩
set_option maxRecDepth 100000 in
theorem NBit_c (n i : Nat) (w : World) (hf : fits n) (hi : i ≤ 9223372036854775807) :
    Calls Tryd.prog 130 #[.string (natS n), .int .i64 (i : Nat)] w (BitPost (dgt 2 n i) 0 w) := by
  have hm := may1 hf
  have hsz := natS_size n
  have hL : nd 256 n ≤ 16384 := hf
  have hi0 : ¬ (i : Int) < 0 := by omega
  by_cases hq : i / 8 < nd 256 n
  · obtain ⟨x, hx⟩ : ∃ x, nd 256 n = x + 1 + i / 8 := ⟨nd 256 n - 1 - i / 8, by omega⟩
    have hxs : x < (natS n).size := by omega
    have hg := natS_get n x hxs
    rw [show nd 256 n - 1 - x = i / 8 by omega] at hg
    have hbb := byte_bit n (i / 8) (i % 8) (by omega)
    rw [show 8 * (i / 8) + i % 8 = i by omega, ← hg] at hbb
    have hb8 := (natS n)[x].toNat_lt
    have HB := Lib.hid hbb
    obtain ⟨v, hv⟩ : ∃ v, v = (natS n)[x].toNat / 2 ^ (i % 8) := ⟨_, rfl⟩
    have hv2 : v < 256 := by rw [hv]; exact Nat.lt_of_le_of_lt (Nat.div_le_self _ _) hb8
    have hvI : ((natS n)[x].toNat : Int) / 2 ^ (i % 8) = (v : Int) := by rw [hv, int_pow2, Int.natCast_ediv]
    have hand := and_one_u8 v hv2
    rw [hv, hbb] at hand
    rw [← hv] at hand
    obtain ⟨q, hq1⟩ : ∃ q, i / 8 = q := ⟨_, rfl⟩
    obtain ⟨r, hr1⟩ : ∃ r, i % 8 = r := ⟨_, rfl⟩
    rw [hq1] at hx hq
    rw [hr1] at hvI
    have hqI : (i : Int) / 8 = (q : Int) := by omega
    have hrI : (i : Int) % 8 = (r : Int) := by omega
    have hr8 : r < 8 := by omega
    have hxI : (nd 256 n : Int) - 1 - (q : Int) = (x : Int) := by omega
    have hqL : ¬ (nd 256 n : Int) ≤ (q : Int) := by omega
    clear hv hbb hg hq1 hr1 hx hf
    go_enter Tryd.func130, Tryd.ntmps130
    go_wp2_with (go_at_call 59; refine (Check_c _ _).mono ?_; rintro e w1 ⟨rfl, hb⟩)
    go_ret2
    exact ⟨rfl, hb⟩
  · have HZ := Lib.hid (bit_above hq)
    have hqI : (nd 256 n : Int) ≤ (i : Int) / 8 := by omega
    go_enter Tryd.func130, Tryd.ntmps130
    go_wp2_with (go_at_call 59; refine (Check_c _ _).mono ?_; rintro e w1 ⟨rfl, hb⟩)
    go_ret2
    exact ⟨by rw [HZ.out]; rfl, hb⟩
end Go.Proofs.YtjkonfopajihdaaDoor
