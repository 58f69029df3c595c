/- The greatest number whose square is not above another one: limb.Root, Newton's way. -/
import Derived.Test.YtjcicbnjoffbhaaN60
import Derived.Deep.LoopGhost
set_option linter.unusedSimpArgs false
set_option linter.unusedVariables false
namespace Go.Proofs.Ytjcicbnjoffbhaa
open Go Go.RowKit Nt

theorem four_le (a b : Nat) : 4 * (a * b) ≤ (a + b) * (a + b) := by
  have key : ∀ a d : Nat, 4 * (a * (a + d)) ≤ (a + (a + d)) * (a + (a + d)) := by
    intro a d
    have : (a + (a + d)) * (a + (a + d)) = 4 * (a * (a + d)) + d * d := by grind
    omega
  rcases Nat.le_total a b with h | h
  · obtain ⟨d, rfl⟩ := Nat.exists_eq_add_of_le h
    exact key a d
  · obtain ⟨d, rfl⟩ := Nat.exists_eq_add_of_le h
    rw [Nat.mul_comm (b + d) b, Nat.add_comm (b + d) b]
    exact key b d
/-- One step of Newton's never falls below the root. -/
theorem newton_above {x z n : Nat} (hz : z ≠ 0) (hn : n = (z + x / z) / 2) : x < (n + 1) * (n + 1) := by
  obtain ⟨q, hq⟩ : ∃ q, q = x / z := ⟨_, rfl⟩
  rw [← hq] at hn
  have h1 : x < z * (q + 1) := by
    rw [hq]
    have h2 := Nat.mod_add_div x z
    have h3 := Nat.mod_lt x (Nat.pos_of_ne_zero hz)
    rw [Nat.mul_add, Nat.mul_one]
    omega
  have h2 := four_le z (q + 1)
  have h3 : z + (q + 1) ≤ 2 * (n + 1) := by omega
  have h4 : (z + (q + 1)) * (z + (q + 1)) ≤ (2 * (n + 1)) * (2 * (n + 1)) := Nat.mul_le_mul h3 h3
  have h5 : (2 * (n + 1)) * (2 * (n + 1)) = 4 * ((n + 1) * (n + 1)) := by grind
  omega
theorem newton_there {x z : Nat} (hz : z ≠ 0) (h : z ≤ (z + x / z) / 2) : z * z ≤ x := by
  have h1 : z ≤ x / z := by omega
  rw [Nat.le_div_iff_mul_le (Nat.pos_of_ne_zero hz)] at h1
  exact h1
/-- The root. -/
def IsRoot (x r : Nat) : Prop := r * r ≤ x ∧ x < (r + 1) * (r + 1)
theorem root_one {x r s : Nat} (h : IsRoot x r) (h' : IsRoot x s) : r = s := by
  rcases Nat.lt_trichotomy r s with c | c | c
  · have := Nat.mul_le_mul (show r + 1 ≤ s from c) (show r + 1 ≤ s from c)
    have h1 := h.2; have h2 := h'.1; omega
  · exact c
  · have := Nat.mul_le_mul (show s + 1 ≤ r from c) (show s + 1 ≤ r from c)
    have h1 := h.1; have h2 := h'.2; omega
theorem root_le {x r : Nat} (h : IsRoot x r) : r ≤ x := by
  rcases Nat.eq_zero_or_pos r with c | c
  · omega
  · exact Nat.le_trans (Nat.le_mul_of_pos_right r c) h.1
theorem root_start {x L k : Nat} (hL : nd 2 x = L) (hk : k = (L + 1) / 2) (hx : x ≠ 0) : x < (2 ^ k + 1) * (2 ^ k + 1) ∧ 2 ^ k ≤ 2 * x := by
  have h1 : x < 2 ^ L := by rw [← hL]; exact lt_nd (by omega)
  have hL1 : L ≠ 0 := fun e => hx ((nd_eq_zero (b := 2) (by omega)).1 (hL.trans e))
  have h2 : 2 ^ (L - 1) ≤ x := (pow_le_iff (b := 2) (by omega) _ _).2 (by omega)
  have h3 : 2 ^ L ≤ 2 ^ (k + k) := Nat.pow_le_pow_right (by omega) (by omega)
  rw [Nat.pow_add] at h3
  have h4 : 2 ^ k * 2 ^ k ≤ (2 ^ k + 1) * (2 ^ k + 1) := Nat.mul_le_mul (by omega) (by omega)
  have h5 : 2 ^ k ≤ 2 ^ L := Nat.pow_le_pow_right (by omega) (by omega)
  have h6 : 2 ^ L = 2 * 2 ^ (L - 1) := by rw [← Nat.pow_succ']; congr 1; omega
  exact ⟨by omega, by omega⟩
theorem nd_twice {x y : Nat} (h : y ≤ 2 * x) : nd W y ≤ nd W x + 1 := by
  refine nd_le W2 ?_
  have h1 := lt_nd (n := x) W2
  rw [Nat.pow_succ]
  have h2 : W ^ nd W x * 2 ≤ W ^ nd W x * W := Nat.mul_le_mul_left _ W2
  omega
theorem nd_add_le (a b : Nat) : nd W (a + b) ≤ nd W a + nd W b + 1 := by
  rcases Nat.le_total a b with h | h
  · have := nd_twice (show a + b ≤ 2 * b by omega); omega
  · have := nd_twice (show a + b ≤ 2 * a by omega); omega
def RootPost (x : Nat) (w : World) (e : Ending) (w' : World) : Prop := ∃ r, IsRoot x r ∧ NumPost r w e w'
set_option maxRecDepth 100000 in
set_option maxHeartbeats 1000000 in
theorem Root_c (A : Option Addr) (c x : Nat) (w : World) (hL : nd W x ≤ 10000000) (hr : Row w w.heap.size A x (nd W x)) :
    Calls Try.prog 85 #[.slice A (nd W x) c] w (RootPost x w) := by
  by_cases hx : x = 0
  · subst hx
    have e : nd W 0 = 0 := nd_zero _
    rw [e]
    go_enter Try.func85, Try.ntmps85
    go_wp2
    go_ret
    refine ⟨0, ⟨by omega, by omega⟩, .slice none 0 0, rfl, ⟨none, 0, by rw [e], by rw [e]; exact Nat.le_refl _, by rw [e]; exact Row.none_⟩, Below.refl _ _⟩
  · have hn0 : nd W x ≠ 0 := fun e => hx ((nd_eq_zero W2).1 e)
    have hlen := Len_c A c x w.heap.size w (by omega) hr
    obtain ⟨L, hL2⟩ : ∃ L, nd 2 x = L := ⟨_, rfl⟩
    obtain ⟨k, hk⟩ : ∃ k, k = (L + 1) / 2 := ⟨_, rfl⟩
    obtain ⟨s1, s2⟩ := root_start hL2 hk hx
    have hL3 : L ≤ 64 * nd W x := by
      rw [← hL2]
      refine nd_le (by omega) ?_
      have h1 := lt_nd (n := x) W2
      have e : 2 ^ (64 * nd W x) = W ^ nd W x := by rw [Nat.pow_mul, ← W_two]
      rw [e]; exact h1
    have hkI : ((L : Int) + 1).tdiv 2 = (k : Int) := by rw [Int.tdiv_eq_ediv_of_nonneg (by omega)]; omega
    rw [hL2] at hlen
    have hz0 : nd W (1 * 2 ^ k) ≤ nd W x + 1 := by rw [Nat.one_mul]; exact nd_twice s2
    have HX := Lib.hid hr
    have HX0 := Lib.hid hx
    have HLEN := Lib.hid (fun (w' : World) (h : Row w' w'.heap.size A x (nd W x)) => by
      have := Len_c A c x w'.heap.size w' (by omega) h
      rw [hL2] at this; exact this)
    have HS1 := Lib.hid s1
    have HZ0 := Lib.hid hz0
    have h1W : nd W 1 ≤ 1 := nd_le W2 (by rw [Nat.pow_one]; exact W2)
    obtain ⟨n, hn⟩ : ∃ n, n = nd W x := ⟨_, rfl⟩
    have HNN := Lib.hid hn
    have hneq : ((n : Int) == 0) = false := by simpa using (by omega : n ≠ 0)
    have hk1 : k ≤ 1000000000 := by omega
    have hL1 : L ≤ 640000000 := by omega
    have HK64 : Hid (nd W 1 + k / 64 ≤ 1000000000) := Lib.hid (by omega)
    have hn1 : n ≤ 10000000 := by omega
    have hn0' : ¬ n = 0 := by omega
    rw [← hn]
    clear hlen hr s1 s2 hz0 hn hk hL2 hx hL3 hL hn0
    go_enter Try.func85, Try.ntmps85
    go_wp2_with fail
    refine (Of_c 1 _ (by omega)).mono ?_
    intro e w1 hp
    obtain ⟨A1, c1, rfl, hc1, hr1, hb1⟩ := hp.get
    have HR1 := Lib.hid hr1
    have HC1 := Lib.hid hc1
    clear hr1 hp hc1
    go_wp2_with fail
    rw [HNN.out]
    refine (HLEN.out _ ((HX.out.below hb1).more hb1.size)).mono ?_
    rintro e w2 ⟨rfl, rfl⟩
    go_wp2_with fail
    have hshl := Shl_c A1 c1 1 k w1.heap.size w1 HK64.out HR1.out (Nat.le_refl _)
    rw [Nat.one_mul] at hshl
    have HSHL := Lib.hid hshl
    clear hshl
    refine HSHL.out.mono ?_
    intro e w2 hp
    obtain ⟨A2, c2, rfl, hc2, hr2, hb2⟩ := hp.get
    have HR2 := Lib.hid hr2
    have HC2 := Lib.hid hc2
    have hb12 := below_chain hb1 hb2
    have HP0 : Hid (2 ^ k ≠ 0) := Lib.hid (Nat.pos_iff_ne_zero.1 (Nat.pow_pos (by omega)))
    have hnx : nd W x ≤ 10000000 := by have := HNN.out; omega
    have HNX := Lib.hid hnx
    have HZ1 : Hid (nd W (2 ^ k) ≤ 20000000) := Lib.hid (by have h := HZ0.out; rw [Nat.one_mul] at h; omega)
    clear hr2 hp hc2 hb1 hb2 hnx HSHL HK64 HLEN
    go_wp2_with fail
    go_loopg [3] (2 ^ k) (fun G v wr => ∃ (z c3 : Nat) (A3 : Option Addr), v = .slice A3 (nd W z) c3 ∧ Hid (nd W z ≤ c3) ∧ Hid (Row wr wr.heap.size A3 z (nd W z)) ∧ Hid (z ≠ 0) ∧ Hid (x < (z + 1) * (z + 1)) ∧ Hid (nd W z ≤ 20000000) ∧ Hid (z ≤ G) ∧ Below w.heap.size w wr)
    case atStart => exact ⟨2 ^ k, c2, A2, rfl, HC2, HR2, HP0, HS1, HZ1, Lib.hid (Nat.le_refl _), hb12⟩
    case round =>
      obtain ⟨z, c3, A3, rfl, hc3, hr3, hz, hxz, hnz, hG, hbw⟩ := hrel
      have hrx := (HX.out.below hbw).more hbw.size
      have HDIV := Lib.hid (Div_all A A3 c c3 x z _ hz.out (by have := HNX.out; omega) (by have := hnz.out; omega) hrx hr3.out)
      clear hrx
      go_wp2_with fail
      refine HDIV.out.mono ?_
      rintro e w4 ⟨Aq, cq, Ar, cr, rfl, hcq, hcr, hrq, hrr, hb4⟩
      have HRQ := Lib.hid hrq
      have HR34 := Lib.hid ((hr3.out.below hb4).more hb4.size)
      have hbw4 := below_chain hbw hb4
      have HQ : Hid (nd W (x / z) ≤ 10000000) := Lib.hid (Nat.le_trans (nd_mono W2 (Nat.div_le_self _ _)) HNX.out)
      clear hcq hcr hrq hrr hb4 HDIV hbw hr3
      go_wp2_with fail
      refine (Add_c A3 Aq c3 cq z (x / z) w4.heap.size w4 (by have := hnz.out; omega) (by have := HQ.out; omega) HR34.out HRQ.out (Nat.le_refl _)).mono ?_
      intro e w5 hp
      obtain ⟨A5, c5, rfl, hc5, hr5, hb5⟩ := hp.get
      have HSUM : Hid (nd W (z + x / z) ≤ 40000000) := Lib.hid (Nat.le_trans (nd_add_le z (x / z)) (by have := hnz.out; have := HQ.out; omega))
      have HR5 := Lib.hid hr5
      have HR35 := Lib.hid ((HR34.out.below hb5).more hb5.size)
      have hbw5 := below_chain hbw4 hb5
      clear hp hr5 hb5 hc5 hbw4 HRQ HR34
      obtain ⟨m, hm⟩ : ∃ m, m = (z + x / z) / 2 := ⟨_, rfl⟩
      have hshr := Shr_c A5 c5 (z + x / z) 1 w5.heap.size w5 (by omega) (by have := HSUM.out; omega) HR5.out (Nat.le_refl _)
      rw [Nat.pow_one, ← hm] at hshr
      have HSHR := Lib.hid hshr
      have HAB := Lib.hid (newton_above (x := x) hz.out hm)
      have HTH : Hid (z ≤ m → z * z ≤ x) := Lib.hid (fun h => newton_there hz.out (hm ▸ h))
      have HM0 : Hid (m ≠ 0) := Lib.hid (fun e => by have h := HAB.out; rw [e] at h; have := HX0.out; omega)
      have HMS : Hid (nd W m ≤ 40000000) := Lib.hid (Nat.le_trans (nd_mono W2 (by rw [hm]; exact Nat.div_le_self _ _)) HSUM.out)
      clear hshr hm
      go_wp2_with fail
      refine HSHR.out.mono ?_
      intro e w6 hp
      obtain ⟨A6, c6, rfl, hc6, hr6, hb6⟩ := hp.get
      have HR6 := Lib.hid hr6
      have HC6 := Lib.hid hc6
      have HR36 := Lib.hid ((HR35.out.below hb6).more hb6.size)
      have hbw6 := below_chain hbw5 hb6
      have hcm := Cmp_c A6 A3 c6 c3 m z w6.heap.size w6 (by have := HMS.out; omega) (by have := hnz.out; omega) HR6.out HR36.out
      clear hp hr6 hb6 hc6 hbw5 HR35 HR5 HSHR
      by_cases hlt : m < z
      · rw [cmpN_lt hlt] at hcm
        have HCM := Lib.hid hcm
        have HLT := Lib.hid hlt
        clear hcm hlt
        go_wp2_with fail
        refine HCM.out.mono ?_
        rintro e w7 ⟨rfl, nn, rfl⟩
        have HR7 : Hid (Row (w6.drewN nn) (w6.drewN nn).heap.size A6 m (nd W m)) := Lib.hid (HR6.out.drewN nn)
        have hbw7 : Below w.heap.size w (w6.drewN nn) := below_drewN hbw6 nn
        clear hbw6 HR6 HR36 HCM
        generalize w6.drewN nn = w7 at *
        go_wp2_with fail
        go_roundg m
        case rel => exact ⟨m, c6, A6, rfl, HC6, HR7, HM0, HAB, Lib.hid (by have := hnz.out; have := nd_mono (b := W) W2 (Nat.le_of_lt HLT.out); omega), Lib.hid (Nat.le_refl _), hbw7⟩
        case measure => have := HLT.out; have := hG.out; omega
      · have HSQ := Lib.hid (HTH.out (by omega))
        have hge : cmpN m z = 0 ∨ cmpN m z = 1 := by
          rcases Nat.lt_or_ge z m with h | h
          · exact Or.inr (cmpN_gt h)
          · have : m = z := by omega
            exact Or.inl (by rw [this]; exact cmpN_eq z)
        clear hlt HTH
        rcases hge with hge | hge
        all_goals
          rw [hge] at hcm
          have HCM := Lib.hid hcm
          clear hcm hge
          go_wp2_with fail
          refine HCM.out.mono ?_
          rintro e w7 ⟨rfl, nn, rfl⟩
          have HR7 : Hid (Row (w6.drewN nn) (w6.drewN nn).heap.size A3 z (nd W z)) := Lib.hid (HR36.out.drewN nn)
          have hbw7 : Below w.heap.size w (w6.drewN nn) := below_drewN hbw6 nn
          clear hbw6 HR6 HR36 HCM
          generalize w6.drewN nn = w7 at *
          go_wp2
          go_ret
          exact ⟨z, ⟨HSQ.out, hxz.out⟩, NumPost.mk hc3.out HR7.out hbw7⟩
end Go.Proofs.Ytjcicbnjoffbhaa
