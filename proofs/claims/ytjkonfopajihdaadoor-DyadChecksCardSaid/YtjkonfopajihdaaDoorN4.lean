/- Contracts of package limb: Cut, Len. -/
import Derived.Test.YtjkonfopajihdaaDoorN3
import Derived.Test.YtjkonfopajihdaaDoorShelf
import Derived.WalkKit
import Derived.WalkLawsBesides
import Derived.WalkSpells
import Derived.Deep.QuietTactic
import Derived.BigQuiet
import Derived.Outline
import Derived.Lib.Hide
set_option linter.unusedSimpArgs false
set_option linter.unusedVariables false
namespace Go.Proofs.YtjkonfopajihdaaDoor
open Go Go.RowKit Nt

def slen : Value → Nat | .slice _ n _ => n | _ => 0
theorem nd_pred {b n m : Nat} (hb : 2 ≤ b) (h : n < b ^ (m + 1)) (hz : dgt b n m = 0) : n < b ^ m := by
  have := mod_succ b n m
  rw [hz, Nat.mod_eq_of_lt h] at this
  rw [this, Nat.mul_zero, Nat.add_zero]; exact Nat.mod_lt _ (Nat.pow_pos (by omega))
theorem nd_just {b n m : Nat} (hb : 2 ≤ b) (h : n < b ^ (m + 1)) (hz : dgt b n m ≠ 0) : nd b n = m + 1 := by
  have h1 := nd_le hb h
  rcases Nat.lt_or_ge m (nd b n) with h2 | h2
  · omega
  · exact absurd (dgt_big hb h2) hz
theorem eqz_true {x : Nat} (h : x = 0) : (((x : Nat) : Int) == 0) = true := by subst h; rfl
theorem eqz_false {x : Nat} (h : x ≠ 0) : (((x : Nat) : Int) == 0) = false := by rw [beq_eq_false_iff_ne]; omega
theorem ret_slice {A : Option Addr} {n m c : Nat} (h : n = m) : Ending.returned (.slice A n c) = .returned (.slice A m c) := by rw [h]
theorem Cut_c (A : Option Addr) (L c n B : Nat) (w : World) (hn : n < W ^ L) (hLc : L ≤ c) (hL : c ≤ 9223372036854775807) (hr : Row w B A n L) :
    Calls Tryd.prog 116 #[.slice A L c] w fun e w' => e = .returned (.slice A (nd W n) c) ∧ w = w' := by
  have HN := Lib.hid hn
  have HR := Lib.hid hr
  clear hn hr
  go_enter Tryd.func116, Tryd.ntmps116
  go_wp2
  go_loop [0] (fun x => ∃ k : Nat, k ≤ L ∧ x = .slice A k c ∧ Hid (n < W ^ k)) (fun x => slen x)
  case atStart => exact ⟨L, Nat.le_refl _, rfl, HN⟩
  case round =>
    obtain ⟨k, hk, rfl, hnk⟩ := hrel
    by_cases h0 : k = 0
    · subst h0
      go_wp2
      go_ret
      exact ⟨ret_slice ((nd_eq_zero W2).2 (by have := hnk.out; rw [Nat.pow_zero] at this; omega)).symm, rfl⟩
    · obtain ⟨m, rfl⟩ : ∃ m, k = m + 1 := ⟨k - 1, by omega⟩
      obtain ⟨g, rfl, _, hcell⟩ := HR.out.at_ (k := m) (by omega)
      by_cases hz : dgt W n m = 0
      · have hz' := eqz_true hz
        have HZ := Lib.hid hz
        clear hz
        go_wp2
        go_round
        case rel => exact ⟨m, by omega, rfl, Lib.hid (nd_pred W2 hnk.out HZ.out)⟩
        case measure => simp [slen]
      · have hz' := eqz_false hz
        have HZ := Lib.hid hz
        clear hz
        go_wp2
        go_ret
        exact ⟨ret_slice (nd_just W2 hnk.out HZ.out).symm, rfl⟩
end Go.Proofs.YtjkonfopajihdaaDoor
