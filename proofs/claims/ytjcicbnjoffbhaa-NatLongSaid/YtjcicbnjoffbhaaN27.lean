/- The law NatRing. -/
import Derived.Test.YtjcicbnjoffbhaaN26
set_option linter.unusedSimpArgs false
set_option linter.unusedVariables false
namespace Go.Proofs.Ytjcicbnjoffbhaa
open Go Go.RowKit Nt

theorem add_nd {b x y m : Nat} (hb : 2 ≤ b) (hx : nd b x ≤ m) (hy : nd b y ≤ m) : nd b (x + y) ≤ m + 1 := by
  refine nd_le hb ?_
  have h1 := (lt_pow_iff hb m x).2 hx
  have h2 := (lt_pow_iff hb m y).2 hy
  rw [Nat.pow_succ]
  have h3 : 2 * b ^ m ≤ b ^ m * b := by rw [Nat.mul_comm]; exact Nat.mul_le_mul_left _ hb
  omega
theorem mul_nd {b : Nat} (hb : 2 ≤ b) (x y : Nat) : nd b (x * y) ≤ nd b x + nd b y := by
  refine nd_le hb ?_
  rw [Nat.pow_add]
  have h1 := lt_nd (n := x) hb
  have h2 := lt_nd (n := y) hb
  rcases Nat.eq_zero_or_pos y with h | h
  · subst h; rw [Nat.mul_zero]; exact Nat.mul_pos (Nat.pow_pos (by omega)) (Nat.pow_pos (by omega))
  · exact Nat.lt_of_lt_of_le ((Nat.mul_lt_mul_right h).2 h1) (Nat.mul_le_mul_left _ (by omega))
theorem add_ok {x y : Nat} (w : World) (hx : fits x) (hy : fits y) (h : fits (x + y)) : Calls Try.prog 34 #[.string (natS x), .string (natS y)] w (StrPost (natS (x + y)) 0 w) := by
  have := NAdd_c x y w hx hy
  rwa [resS_ok h, resE_ok h] at this
theorem mul_ok {x y : Nat} (w : World) (hx : fits x) (hy : fits y) (h : fits (x * y)) : Calls Try.prog 41 #[.string (natS x), .string (natS y)] w (StrPost (natS (x * y)) 0 w) := by
  have := NMul_c x y w hx hy
  rwa [resS_ok h, resE_ok h] at this
theorem alloc_post {w : World} {s : ByteArray} {r : Int} {o : Obj} {e : Ending} {w' : World} (h : StrPost s r (w.alloc o) e w') : StrPost s r w e w' :=
  ⟨h.1, ((Below.refl _ _).alloc (Nat.le_refl _) _).trans (h.2.mono (by simp))⟩
theorem sum3_ok {a b c : Nat} (w : World) (ha : fits a) (hb : fits b) (hc : fits c) (h : fits (a + b + c)) :
    Calls Try.prog 36 #[.slice (some ⟨w.heap.size, 0, none⟩) 3 3] (w.alloc (.cells #[.string (natS a), .string (natS b), .string (natS c)] 22)) (StrPost (natS (a + b + c)) 0 w) := by
  have h1 := Sum_c (some ⟨w.heap.size, 0, none⟩) 3 [a, b, c] (w.alloc (.cells ([natS a, natS b, natS c].map Value.string).toArray 22)) (by simp) (fun n hn => by
    simp only [List.mem_cons, List.not_mem_nil, or_false] at hn
    rcases hn with rfl | rfl | rfl
    · exact ha
    · exact hb
    · exact hc) (strs_new w 22 [natS a, natS b, natS c]) (fun ad e => by cases e; simp)
  have e : [a, b, c].sum = a + b + c := by simp [Nat.add_assoc]
  rw [e, resS_ok h, resE_ok h] at h1
  exact h1.mono fun _ _ h => alloc_post h
set_option maxRecDepth 1000000 in
set_option maxHeartbeats 4000000 in
theorem ring_walk (a b c P1 P2 S3 BC M3 B2 AM AC : Nat) (w : World) (hl : nd 256 a + nd 256 b + nd 256 c ≤ 8000)
    (HR : ∀ w : World, Calls Try.prog 22 #[.slice (some ⟨w.heap.size, 0, none⟩) 3 3] (w.alloc (.cells #[.string (natS a), .string (natS b), .string (natS c)] 22)) (fun e w' => e = .returned (.bool false) ∧ Below w.heap.size w w'))
    (H0 : ∀ w : World, Calls Try.prog 34 #[.string (natS a), .string (natS b)] w (StrPost (natS P1) 0 w))
    (H1 : ∀ w : World, Calls Try.prog 34 #[.string (natS b), .string (natS a)] w (StrPost (natS P1) 0 w))
    (H2 : ∀ w : World, Calls Try.prog 41 #[.string (natS a), .string (natS b)] w (StrPost (natS P2) 0 w))
    (H3 : ∀ w : World, Calls Try.prog 41 #[.string (natS b), .string (natS a)] w (StrPost (natS P2) 0 w))
    (H4 : ∀ w : World, Calls Try.prog 35 #[.string (natS P1), .string (natS b)] w (StrPost (natS a) 0 w))
    (H5 : ∀ w : World, Calls Try.prog 34 #[.string (natS P1), .string (natS c)] w (StrPost (natS S3) 0 w))
    (H6 : ∀ w : World, Calls Try.prog 34 #[.string (natS b), .string (natS c)] w (StrPost (natS BC) 0 w))
    (H7 : ∀ w : World, Calls Try.prog 34 #[.string (natS a), .string (natS BC)] w (StrPost (natS S3) 0 w))
    (H8 : ∀ w : World, Calls Try.prog 36 #[.slice (some ⟨w.heap.size, 0, none⟩) 3 3] (w.alloc (.cells #[.string (natS a), .string (natS b), .string (natS c)] 22)) (StrPost (natS S3) 0 w))
    (H9 : ∀ w : World, Calls Try.prog 41 #[.string (natS P2), .string (natS c)] w (StrPost (natS M3) 0 w))
    (H10 : ∀ w : World, Calls Try.prog 41 #[.string (natS b), .string (natS c)] w (StrPost (natS B2) 0 w))
    (H11 : ∀ w : World, Calls Try.prog 41 #[.string (natS a), .string (natS B2)] w (StrPost (natS M3) 0 w))
    (H12 : ∀ w : World, Calls Try.prog 41 #[.string (natS a), .string (natS BC)] w (StrPost (natS AM) 0 w))
    (H13 : ∀ w : World, Calls Try.prog 41 #[.string (natS a), .string (natS c)] w (StrPost (natS AC) 0 w))
    (H14 : ∀ w : World, Calls Try.prog 34 #[.string (natS P2), .string (natS AC)] w (StrPost (natS AM) 0 w)) :
    Calls Try.prog 13 #[.string (natS a), .string (natS b), .string (natS c)] w fun e w' => e = .returned (.bool true) ∧ Below w.heap.size w w' := by
  have hsa := natS_size a
  have hsb := natS_size b
  have hsc := natS_size c
  have hA : (nd 256 a : Int) ≤ 8000 := by omega
  have hB : (nd 256 b : Int) ≤ 8000 := by omega
  have hC : (nd 256 c : Int) ≤ 8000 := by omega
  have hD : ¬ (8000 : Int) < (nd 256 a : Int) + (nd 256 b : Int) + (nd 256 c : Int) := by omega
  have hD2 : ¬ 8000 < nd 256 a + nd 256 b + nd 256 c := by omega
  have KR := Lib.hid HR
  have K0 := Lib.hid H0
  have K1 := Lib.hid H1
  have K2 := Lib.hid H2
  have K3 := Lib.hid H3
  have K4 := Lib.hid H4
  have K5 := Lib.hid H5
  have K6 := Lib.hid H6
  have K7 := Lib.hid H7
  have K8 := Lib.hid H8
  have K9 := Lib.hid H9
  have K10 := Lib.hid H10
  have K11 := Lib.hid H11
  have K12 := Lib.hid H12
  have K13 := Lib.hid H13
  have K14 := Lib.hid H14
  clear H0 H1 H2 H3 H4 H5 H6 H7 H8 H9 H10 H11 H12 H13 H14
  clear HR hl
  go_enter Try.func13, Try.ntmps13
  go_wp2_with fail
  refine (KR.out _).mono ?_
  rintro e w0 ⟨rfl, hb0⟩
  go_wp2_with fail
  refine (K0.out _).mono ?_
  rintro e w1 ⟨rfl, hb1⟩
  go_wp2_with fail
  refine (K1.out _).mono ?_
  rintro e w2 ⟨rfl, hb2⟩
  go_wp2_with fail
  refine (K2.out _).mono ?_
  rintro e w3 ⟨rfl, hb3⟩
  go_wp2_with fail
  refine (K3.out _).mono ?_
  rintro e w4 ⟨rfl, hb4⟩
  go_wp2_with fail
  refine (K4.out _).mono ?_
  rintro e w5 ⟨rfl, hb5⟩
  go_wp2_with fail
  refine (K5.out _).mono ?_
  rintro e w6 ⟨rfl, hb6⟩
  go_wp2_with fail
  refine (K6.out _).mono ?_
  rintro e w7 ⟨rfl, hb7⟩
  go_wp2_with fail
  refine (K7.out _).mono ?_
  rintro e w8 ⟨rfl, hb8⟩
  go_wp2_with fail
  refine (K8.out _).mono ?_
  rintro e w9 ⟨rfl, hb9⟩
  go_wp2_with fail
  refine (K9.out _).mono ?_
  rintro e w10 ⟨rfl, hb10⟩
  go_wp2_with fail
  refine (K10.out _).mono ?_
  rintro e w11 ⟨rfl, hb11⟩
  go_wp2_with fail
  refine (K11.out _).mono ?_
  rintro e w12 ⟨rfl, hb12⟩
  go_wp2_with fail
  refine (K12.out _).mono ?_
  rintro e w13 ⟨rfl, hb13⟩
  go_wp2_with fail
  refine (K13.out _).mono ?_
  rintro e w14 ⟨rfl, hb14⟩
  go_wp2_with fail
  refine (K14.out _).mono ?_
  rintro e w15 ⟨rfl, hb15⟩
  go_wp2_with fail
  refine (awake_c _).mono ?_
  rintro e w16 ⟨rfl, hb16⟩
  go_wp2_with fail
  go_ret
  exact ⟨rfl, below_chain hb0 (below_chain hb1 (below_chain hb2 (below_chain hb3 (below_chain hb4 (below_chain hb5 (below_chain hb6 (below_chain hb7 (below_chain hb8 (below_chain hb9 (below_chain hb10 (below_chain hb11 (below_chain hb12 (below_chain hb13 (below_chain hb14 (below_chain hb15 (hb16))))))))))))))))⟩
end Go.Proofs.Ytjcicbnjoffbhaa
