/- The law NatDivisors. -/
import Derived.Test.YtjcicbnjoffbhaaN60
import Derived.Test.YtjcicbnjoffbhaaN75
import Derived.Test.YtjcicbnjoffbhaaN47
set_option linter.unusedSimpArgs false
set_option linter.unusedVariables false
namespace Go.Proofs.Ytjcicbnjoffbhaa
open Go Go.RowKit Nt

def NoE (s : ByteArray) : Prop := ¬ s.toList = [] ∧ s.toList.isEmpty = false
theorem NoE_of {n : Nat} (h : n ≠ 0) : NoE (natS n) := ⟨natS_full h, natS_full2 h⟩
set_option maxRecDepth 100000 in
set_option maxHeartbeats 4000000 in
/-- Both are 0. -/
theorem divisors_zero (w : World)
    (HR : ∀ w : World, Calls Try.prog 22 #[.slice (some ⟨w.heap.size, 0, none⟩) 2 2] (w.alloc (.cells #[.string ⟨#[]⟩, .string ⟨#[]⟩] 22)) (fun e w' => e = .returned (.bool false) ∧ Below w.heap.size w w'))
    (H0 : ∀ w : World, Calls Try.prog 49 #[.string ⟨#[]⟩, .string ⟨#[]⟩] w (StrPost ⟨#[]⟩ 0 w)) :
    Calls Try.prog 16 #[.string ⟨#[]⟩, .string ⟨#[]⟩] w fun e w' => e = .returned (.bool true) ∧ Below w.heap.size w w' := by
  have KR := Lib.hid HR
  have K0 := Lib.hid H0
  clear HR H0
  go_enter Try.func16, Try.ntmps16
  go_wp2_with fail
  refine (KR.out _).mono ?_
  rintro e w0 ⟨rfl, hb0⟩
  go_wp2_with fail
  refine (K0.out _).mono ?_
  rintro e w1 ⟨rfl, hb1⟩
  go_wp2_with fail
  refine (K0.out _).mono ?_
  rintro e w2 ⟨rfl, hb2⟩
  go_wp2_with fail
  refine (awake_c _).mono ?_
  rintro e w3 ⟨rfl, hb3⟩
  go_wp2_with fail
  go_ret
  exact ⟨rfl, below_chain hb0 (below_chain hb1 (below_chain hb2 hb3))⟩
set_option maxRecDepth 100000 in
set_option maxHeartbeats 4000000 in
/-- One is refused, or they are too long. -/
theorem divisors_out (a b : ByteArray) (w : World) (B : Bool) (Z : Nat) (hZ : (a.size : Int) + (b.size : Int) = (Z : Int)) (hB : B = true ∨ (B = false ∧ 800 < Z ∧ a.size ≤ 16384 ∧ b.size ≤ 16384))
    (HR : ∀ w : World, Calls Try.prog 22 #[.slice (some ⟨w.heap.size, 0, none⟩) 2 2] (w.alloc (.cells #[.string a, .string b] 22)) (fun e w' => e = .returned (.bool B) ∧ Below w.heap.size w w')) :
    Calls Try.prog 16 #[.string a, .string b] w fun e w' => e = .returned (.bool true) ∧ Below w.heap.size w w' := by
  have KR := Lib.hid HR
  clear HR
  rcases hB with rfl | ⟨rfl, h8, ha, hb⟩
  · clear hZ
    go_enter Try.func16, Try.ntmps16
    go_wp2_with fail
    refine (KR.out _).mono ?_
    rintro e w0 ⟨rfl, hb0⟩
    go_wp2_with fail
    refine (awake_c _).mono ?_
    rintro e w3 ⟨rfl, hb3⟩
    go_wp2_with fail
    go_ret
    exact ⟨rfl, below_chain hb0 hb3⟩
  · have h8I : (800 : Int) < (Z : Int) := by omega
    go_enter Try.func16, Try.ntmps16
    go_wp2_with fail
    refine (KR.out _).mono ?_
    rintro e w0 ⟨rfl, hb0⟩
    go_wp2_with fail
    refine (awake_c _).mono ?_
    rintro e w3 ⟨rfl, hb3⟩
    go_wp2_with fail
    go_ret
    exact ⟨rfl, below_chain hb0 hb3⟩
set_option maxRecDepth 100000 in
set_option maxHeartbeats 8000000 in
/-- One at least is not 0. -/
theorem divisors_in (a b g x y q r : ByteArray) (w : World) (Z : Nat) (hZ : (a.size : Int) + (b.size : Int) = (Z : Int)) (h8 : ¬ 800 < Z) (ha : a.size ≤ 16384) (hb : b.size ≤ 16384)
    (hg : NoE g) (hc : (NoE a ∧ NoE b) ∨ (NoE a ∧ b = ⟨#[]⟩ ∧ g = a) ∨ (a = ⟨#[]⟩ ∧ NoE b))
    (HR : ∀ w : World, Calls Try.prog 22 #[.slice (some ⟨w.heap.size, 0, none⟩) 2 2] (w.alloc (.cells #[.string a, .string b] 22)) (fun e w' => e = .returned (.bool false) ∧ Below w.heap.size w w'))
    (H0 : ∀ w : World, Calls Try.prog 49 #[.string a, .string b] w (StrPost g 0 w))
    (H1 : ∀ w : World, Calls Try.prog 49 #[.string b, .string a] w (StrPost g 0 w))
    (H2 : ∀ w : World, Calls Try.prog 43 #[.string a, .string g] w (Str2Post x ⟨#[]⟩ 0 w))
    (H3 : ∀ w : World, Calls Try.prog 43 #[.string b, .string g] w (Str2Post y ⟨#[]⟩ 0 w))
    (H4 : ∀ w : World, Calls Try.prog 49 #[.string x, .string y] w (StrPost ⟨#[1]⟩ 0 w))
    (H5 : b = ⟨#[]⟩ ∨ ∀ w : World, Calls Try.prog 43 #[.string a, .string b] w (Str2Post q r 0 w))
    (H6 : b = ⟨#[]⟩ ∨ ∀ w : World, Calls Try.prog 49 #[.string b, .string r] w (StrPost g 0 w)) :
    Calls Try.prog 16 #[.string a, .string b] w fun e w' => e = .returned (.bool true) ∧ Below w.heap.size w w' := by
  have KR := Lib.hid HR
  have K0 := Lib.hid H0
  have K1 := Lib.hid H1
  have K2 := Lib.hid H2
  have K3 := Lib.hid H3
  have K4 := Lib.hid H4
  have K5 := Lib.hid H5
  have K6 := Lib.hid H6
  clear HR H0 H1 H2 H3 H4 H5 H6
  have h8I : ¬ (800 : Int) < (Z : Int) := by omega
  obtain ⟨hg1, hg2⟩ := hg
  have hne : ∀ {s : ByteArray}, NoE s → ¬ s = ⟨#[]⟩ := fun {s} h e => h.1 (by rw [e, ba_toList])
  rcases hc with ⟨hA, hB⟩ | ⟨hA, rfl, rfl⟩ | ⟨rfl, hB⟩
  · have L5 := Lib.hid (K5.out.resolve_left (hne hB))
    have L6 := Lib.hid (K6.out.resolve_left (hne hB))
    obtain ⟨hA1, hA2⟩ := hA
    obtain ⟨hB1, hB2⟩ := hB
    clear hne K5 K6
    go_enter Try.func16, Try.ntmps16
    go_wp2_with fail
    refine (KR.out _).mono ?_
    rintro e w0 ⟨rfl, hb0⟩
    go_wp2_with fail
    refine (K0.out _).mono ?_
    rintro e w1 ⟨rfl, hb1⟩
    go_wp2_with fail
    refine (K1.out _).mono ?_
    rintro e w2 ⟨rfl, hb2⟩
    go_wp2_with fail
    refine (K2.out _).mono ?_
    rintro e w3 ⟨rfl, hb3⟩
    have hbw := below_chain hb0 (below_chain hb1 (below_chain hb2 hb3))
    clear hb0 hb1 hb2 hb3
    go_wp2_with fail
    refine (K3.out _).mono ?_
    rintro e w4 ⟨rfl, hb4⟩
    go_wp2_with fail
    refine (K4.out _).mono ?_
    rintro e w5 ⟨rfl, hb5⟩
    go_wp2_with fail
    refine (L5.out _).mono ?_
    rintro e w6 ⟨rfl, hb6⟩
    go_wp2_with fail
    refine (L6.out _).mono ?_
    rintro e w7 ⟨rfl, hb7⟩
    go_wp2_with fail
    refine (awake_c _).mono ?_
    rintro e w8 ⟨rfl, hb8⟩
    go_wp2_with fail
    go_ret
    exact ⟨rfl, below_chain hbw (below_chain hb4 (below_chain hb5 (below_chain hb6 (below_chain hb7 hb8))))⟩
  · obtain ⟨hA1, hA2⟩ := hA
    clear hne K5 K6
    go_enter Try.func16, Try.ntmps16
    go_wp2_with fail
    refine (KR.out _).mono ?_
    rintro e w0 ⟨rfl, hb0⟩
    go_wp2_with fail
    refine (K0.out _).mono ?_
    rintro e w1 ⟨rfl, hb1⟩
    go_wp2_with fail
    refine (K1.out _).mono ?_
    rintro e w2 ⟨rfl, hb2⟩
    go_wp2_with fail
    refine (K2.out _).mono ?_
    rintro e w3 ⟨rfl, hb3⟩
    have hbw := below_chain hb0 (below_chain hb1 (below_chain hb2 hb3))
    clear hb0 hb1 hb2 hb3
    go_wp2_with fail
    refine (K3.out _).mono ?_
    rintro e w4 ⟨rfl, hb4⟩
    go_wp2_with fail
    refine (K4.out _).mono ?_
    rintro e w5 ⟨rfl, hb5⟩
    go_wp2_with fail
    refine (awake_c _).mono ?_
    rintro e w8 ⟨rfl, hb8⟩
    go_wp2_with fail
    go_ret
    exact ⟨rfl, below_chain hbw (below_chain hb4 (below_chain hb5 hb8))⟩
  · have L5 := Lib.hid (K5.out.resolve_left (hne hB))
    have L6 := Lib.hid (K6.out.resolve_left (hne hB))
    obtain ⟨hB1, hB2⟩ := hB
    clear hne K5 K6
    go_enter Try.func16, Try.ntmps16
    go_wp2_with fail
    refine (KR.out _).mono ?_
    rintro e w0 ⟨rfl, hb0⟩
    go_wp2_with fail
    refine (K0.out _).mono ?_
    rintro e w1 ⟨rfl, hb1⟩
    go_wp2_with fail
    refine (K1.out _).mono ?_
    rintro e w2 ⟨rfl, hb2⟩
    go_wp2_with fail
    refine (K2.out _).mono ?_
    rintro e w3 ⟨rfl, hb3⟩
    have hbw := below_chain hb0 (below_chain hb1 (below_chain hb2 hb3))
    clear hb0 hb1 hb2 hb3
    go_wp2_with fail
    refine (K3.out _).mono ?_
    rintro e w4 ⟨rfl, hb4⟩
    go_wp2_with fail
    refine (K4.out _).mono ?_
    rintro e w5 ⟨rfl, hb5⟩
    go_wp2_with fail
    refine (L5.out _).mono ?_
    rintro e w6 ⟨rfl, hb6⟩
    go_wp2_with fail
    refine (L6.out _).mono ?_
    rintro e w7 ⟨rfl, hb7⟩
    go_wp2_with fail
    refine (awake_c _).mono ?_
    rintro e w8 ⟨rfl, hb8⟩
    go_wp2_with fail
    go_ret
    exact ⟨rfl, below_chain hbw (below_chain hb4 (below_chain hb5 (below_chain hb6 (below_chain hb7 hb8))))⟩
theorem NDiv_whole (a g x : Nat) (ha : fits a) (hg : fits g) (h0 : g ≠ 0) (h : a = x * g) (w : World) : Calls Try.prog 43 #[.string (natS a), .string (natS g)] w (Str2Post (natS x) ⟨#[]⟩ 0 w) := by
  have := NDiv_c a g w ha hg h0
  have e1 : a / g = x := by rw [h]; exact Nat.mul_div_cancel _ (Nat.pos_of_ne_zero h0)
  have e2 : a % g = 0 := by rw [h]; exact Nat.mul_mod_left _ _
  rw [e1, e2, natS_zero] at this
  exact this
theorem NatDivisors_law (s t : ByteArray) (hs : s.size ≤ maxLen) (ht : t.size ≤ maxLen) (w : World) :
    Calls Try.prog 16 #[.string s, .string t] w fun e w' => e = .returned (.bool true) ∧ Below w.heap.size w w' := by
  unfold maxLen at hs ht
  have hr := fun w => refused2 s t (by omega) (by omega) w
  by_cases hm : May s ∧ May t
  · rw [refB2_no hm.1 hm.2] at hr
    by_cases h8 : 800 < s.size + t.size
    · exact divisors_out s t w _ (s.size + t.size) (by omega) (Or.inr ⟨rfl, h8, hm.1.1, hm.2.1⟩) hr
    · obtain ⟨a, ha, rfl⟩ := may_num hm.1
      obtain ⟨b, hb, rfl⟩ := may_num hm.2
      have hg := fits_gcd ha hb
      have K0 := fun w => NGcd_c a b w ha hb
      have K1 := fun w => NGcd_c b a w hb ha
      rw [Nat.gcd_comm b a] at K1
      by_cases h0 : Nat.gcd a b = 0
      · obtain ⟨rfl, rfl⟩ := Nat.gcd_eq_zero_iff.1 h0
        have hz : natS 0 = (⟨#[]⟩ : ByteArray) := natS_zero
        rw [Nat.gcd_self, hz] at K0
        rw [hz] at hr ⊢
        exact divisors_zero w hr K0
      · obtain ⟨x, hx⟩ := Nat.gcd_dvd_left a b
        obtain ⟨y, hy⟩ := Nat.gcd_dvd_right a b
        obtain ⟨g, hgg⟩ : ∃ g, g = Nat.gcd a b := ⟨_, rfl⟩
        rw [← hgg] at h0 hx hy hg K0 K1
        have hx' : a = x * g := by rw [Nat.mul_comm]; exact hx
        have hy' : b = y * g := by rw [Nat.mul_comm]; exact hy
        have hgp := Nat.pos_of_ne_zero h0
        have hxa : x ≤ a := by rw [hx']; exact Nat.le_mul_of_pos_right x hgp
        have hyb : y ≤ b := by rw [hy']; exact Nat.le_mul_of_pos_right y hgp
        have hxy : Nat.gcd x y = 1 := by
          have h5 : g = g * Nat.gcd x y := by
            rw [← Nat.gcd_mul_left, ← hx, ← hy]; exact hgg
          exact Nat.eq_of_mul_eq_mul_left hgp (by rw [Nat.mul_one]; exact h5.symm)
        have K4 := fun w => NGcd_c x y w (fits_le ha hxa) (fits_le hb hyb)
        rw [hxy, natS_one (n := 1) (by omega) (by omega)] at K4
        refine divisors_in (natS a) (natS b) (natS g) (natS x) (natS y) (natS (a / b)) (natS (a % b)) w ((natS a).size + (natS b).size) (by omega) h8 hm.1.1 hm.2.1 (NoE_of h0) ?_ hr K0 K1 (NDiv_whole a g x ha hg h0 hx') (NDiv_whole b g y hb hg h0 hy') K4 ?_ ?_
        · by_cases hb0 : b = 0
          · have ha0 : a ≠ 0 := fun c => h0 (by rw [hgg, c, hb0, Nat.gcd_self])
            exact Or.inr (Or.inl ⟨NoE_of ha0, by rw [hb0]; exact natS_zero, by rw [hgg, hb0, Nat.gcd_zero_right]⟩)
          · by_cases ha0 : a = 0
            · exact Or.inr (Or.inr ⟨by rw [ha0]; exact natS_zero, NoE_of hb0⟩)
            · exact Or.inl ⟨NoE_of ha0, NoE_of hb0⟩
        · by_cases hb0 : b = 0
          · exact Or.inl (by rw [hb0]; exact natS_zero)
          · exact Or.inr (fun w => NDiv_c a b w ha hb hb0)
        · by_cases hb0 : b = 0
          · exact Or.inl (by rw [hb0]; exact natS_zero)
          · refine Or.inr (fun w => ?_)
            have := NGcd_c b (a % b) w hb (fits_le ha (Nat.mod_le a b))
            have e : Nat.gcd b (a % b) = g := by rw [Nat.gcd_comm b, ← Nat.gcd_rec, Nat.gcd_comm, hgg]
            rw [e] at this
            exact this
  · rw [refB2_yes hm] at hr
    exact divisors_out s t w _ (s.size + t.size) (by omega) (Or.inl rfl) hr
end Go.Proofs.Ytjcicbnjoffbhaa
