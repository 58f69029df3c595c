/- Contracts of package limb: Cmp. -/
import Derived.Test.YtjkonfopajihdaaDoorN6
set_option linter.unusedSimpArgs false
set_option linter.unusedVariables false
namespace Go.Proofs.YtjkonfopajihdaaDoor
open Go Go.RowKit Nt

@[irreducible] def cmpN (a b : Nat) : Int := if a < b then -1 else if a = b then 0 else 1
theorem cmpN_lt {a b : Nat} (h : a < b) : cmpN a b = -1 := by unfold cmpN; rw [if_pos h]
theorem cmpN_eq (a : Nat) : cmpN a a = 0 := by unfold cmpN; rw [if_neg (by omega), if_pos rfl]
theorem cmpN_gt {a b : Nat} (h : b < a) : cmpN a b = 1 := by unfold cmpN; rw [if_neg (by omega), if_neg (by omega)]
theorem lt_of_nd {b m n : Nat} (hb : 2 ≤ b) (h : nd b m < nd b n) : m < n := by
  have h1 := lt_nd (n := m) hb
  have h2 := (pow_le_iff hb _ _).2 h
  omega
theorem lt_of_digit {b x y m L : Nat} (hb : 2 ≤ b) (hx : x < b ^ L) (hy : y < b ^ L) (hm : m < L) (h : ∀ j, m + 1 ≤ j → j < L → dgt b x j = dgt b y j) (hd : dgt b x m < dgt b y m) : x < y := by
  have key : x / b ^ (m + 1) = y / b ^ (m + 1) := by
    obtain ⟨d, rfl⟩ : ∃ d, L = m + 1 + d := ⟨L - (m + 1), by omega⟩
    refine eq_of_digits (b := b) (L := d) ?_ ?_ (fun i hi => ?_)
    · rw [Nat.div_lt_iff_lt_mul (Nat.pow_pos (by omega)), ← Nat.pow_add, Nat.add_comm d]; exact hx
    · rw [Nat.div_lt_iff_lt_mul (Nat.pow_pos (by omega)), ← Nat.pow_add, Nat.add_comm d]; exact hy
    · rw [dgt_skip, dgt_skip]; exact h _ (by omega) (by omega)
  have h1 := div_eq_dgt (b := b) (by omega) x m
  have h2 := div_eq_dgt (b := b) (by omega) y m
  rw [key] at h1
  rcases Nat.lt_or_ge x y with h3 | h3
  · exact h3
  · have := Nat.div_le_div_right (c := b ^ m) h3; omega
/-- Only draws happened. -/
def Drawn (w w' : World) : Prop := ∃ n, w' = w.drewN n
theorem Drawn.refl (w : World) : Drawn w w := ⟨0, rfl⟩
theorem Drawn.more {w w' : World} (h : Drawn w w') (m : Nat) : Drawn w (w'.drewN m) := by obtain ⟨n, rfl⟩ := h; exact ⟨n + m, World.drewN_drewN _ _ _⟩
set_option maxHeartbeats 400000 in
theorem Cmp_c (A A' : Option Addr) (c c' a b B : Nat) (w : World) (hL : nd W a ≤ 1000000000) (hL' : nd W b ≤ 1000000000) (hr : Row w B A a (nd W a)) (hr' : Row w B A' b (nd W b)) :
    Calls Tryd.prog 84 #[.slice A (nd W a) c, .slice A' (nd W b) c'] w fun e w' => e = .returned (.int .i64 (cmpN a b)) ∧ ∃ n, w' = w.drewN n := by
  have HR := Lib.hid hr
  have HR' := Lib.hid hr'
  clear hr hr'
  rcases Nat.lt_trichotomy (nd W a) (nd W b) with h | h | h
  · have hn : ((nd W a : Int) != (nd W b : Int)) = true := by rw [bne_iff_ne]; omega
    have HC := Lib.hid (cmpN_lt (lt_of_nd W2 h))
    go_enter Tryd.func84, Tryd.ntmps84
    go_wp2
    go_ret
    exact ⟨ret_int HC.out.symm, 0, rfl⟩
  · have ha := lt_nd (n := a) W2
    have hb := lt_nd (n := b) W2
    rw [← h] at hb hL' HR' ⊢
    have HA := Lib.hid ha
    have HB := Lib.hid hb
    have HE := Lib.hid h
    clear ha hb h
    obtain ⟨L, hLe⟩ : ∃ L, L = nd W a := ⟨_, rfl⟩
    have hLL : L ≤ 1000000000 := by omega
    rw [← hLe] at HA HB HR HR' ⊢
    have hw : wrap64 ((L : Int) - 1) = (L : Int) - 1 := IntWalk.wrap64_in _ (by omega)
    have hn : ((L : Int) != (L : Int)) = false := by simp
    have HLE := Lib.hid hLe
    clear hLe
    go_enter Tryd.func84, Tryd.ntmps84
    go_wp2
    go_loopw [5] (fun i wr => ∃ (k : Nat) (z : Int) (m : Nat), k ≤ L ∧ i = .int .i64 z ∧ Hid (z = (k : Int) - 1) ∧ Hid (∀ j, k ≤ j → j < L → dgt W a j = dgt W b j) ∧ wr = w.drewN m) (fun i _ => (intOf i + 1).toNat)
    case atStart => exact ⟨L, _, 0, Nat.le_refl _, rfl, Lib.hid rfl, Lib.hid (fun j h1 h2 => by omega), rfl⟩
    case round =>
      obtain ⟨k, z, mm, hk, rfl, hz, hd, rfl⟩ := hrel
      by_cases h0 : k = 0
      · subst h0
        obtain rfl : z = -1 := by have := hz.out; omega
        go_wp2
        go_ret
        refine ⟨ret_int ?_, _, rfl⟩
        obtain rfl : a = b := eq_of_digits HA.out HB.out (fun i hi => hd.out i (by omega) hi)
        exact (cmpN_eq _).symm
      · obtain ⟨m, rfl⟩ : ∃ m, k = m + 1 := ⟨k - 1, by omega⟩
        obtain rfl : z = (m : Int) := by have := hz.out; omega
        obtain ⟨g, rfl, _, hc⟩ := HR.out.at_ (k := m) (by omega)
        obtain ⟨g', rfl, _, hc'⟩ := HR'.out.at_ (k := m) (by omega)
        have hm : m < L := by omega
        have hw : wrap64 ((m : Int) - 1) = (m : Int) - 1 := IntWalk.wrap64_in _ (by omega)
        rcases Nat.lt_trichotomy (dgt W a m) (dgt W b m) with hlt | heq | hgt
        · have HC := Lib.hid (cmpN_lt (lt_of_digit W2 HA.out HB.out hm hd.out hlt))
          go_wp2
          go_quiet (fail)
          go_wp2
          go_ret
          exact ⟨ret_int HC.out.symm, by first | exact Drawn.more ⟨_, rfl⟩ _ | exact Drawn.more (Drawn.more ⟨_, rfl⟩ _) _⟩
        · have HD := Lib.hid heq
          have h1 : ¬ dgt W a m < dgt W b m := by omega
          have h2 : ¬ dgt W b m < dgt W a m := by omega
          clear heq
          go_wp2
          go_quiet (fail)
          go_wp2
          go_quiet (fail)
          go_wp2
          go_roundw
          case rel => exact ⟨m, _, _, by omega, rfl, Lib.hid rfl, Lib.hid (fun j h1 h2 => by
            rcases Nat.lt_or_ge m j with h3 | h3
            · exact hd.out j h3 h2
            · obtain rfl : j = m := by omega
              exact HD.out), rfl⟩
          case measure => simp [intOf]
        · have HC := Lib.hid (cmpN_gt (lt_of_digit W2 HB.out HA.out hm (fun j h1 h2 => (hd.out j h1 h2).symm) hgt))
          have h1 : ¬ dgt W a m < dgt W b m := by omega
          go_wp2
          go_quiet (fail)
          go_wp2
          go_quiet (fail)
          go_wp2
          go_ret
          exact ⟨ret_int HC.out.symm, by first | exact Drawn.more ⟨_, rfl⟩ _ | exact Drawn.more (Drawn.more ⟨_, rfl⟩ _) _⟩
  · have hn : ((nd W a : Int) != (nd W b : Int)) = true := by rw [bne_iff_ne]; omega
    have HC := Lib.hid (cmpN_gt (lt_of_nd W2 h))
    have h2 : ¬ nd W a < nd W b := by omega
    go_enter Tryd.func84, Tryd.ntmps84
    go_wp2
    go_ret
    exact ⟨ret_int HC.out.symm, 0, rfl⟩
end Go.Proofs.YtjkonfopajihdaaDoor
