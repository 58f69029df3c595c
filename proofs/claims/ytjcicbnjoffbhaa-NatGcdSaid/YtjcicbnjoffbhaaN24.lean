/- What each statement of the layer asks besides (awake). -/
import Derived.Test.YtjcicbnjoffbhaaN23
set_option linter.unusedSimpArgs false
set_option linter.unusedVariables false
namespace Go.Proofs.Ytjcicbnjoffbhaa
open Go Go.RowKit Nt

@[irreducible] def KA : Nat := 9223372036854775808
@[irreducible] def KB : Nat := 10
@[irreducible] def KP : Nat := 92233720368547758080
@[irreducible] def KQ : Nat := 13176245766935394011
theorem KA_eq : KA = 9223372036854775808 := by unfold KA; rfl
theorem KB_eq : KB = 10 := by unfold KB; rfl
theorem KP_eq : KP = 92233720368547758080 := by unfold KP; rfl
theorem KQ_eq : KQ = 13176245766935394011 := by unfold KQ; rfl
theorem KA_int : ((KA : Nat) : Int) = 9223372036854775808 := by rw [KA_eq]; rfl
theorem KB_int : ((KB : Nat) : Int) = 10 := by rw [KB_eq]; rfl
theorem K_mul : KA * KB = KP := by rw [KA_eq, KB_eq, KP_eq]
theorem K_div : KP / 7 = KQ := by rw [KP_eq, KQ_eq]
theorem K_mod : KP % 7 = 3 := by rw [KP_eq]
theorem fits_of_lt {n : Nat} (k : Nat) (h : n < 256 ^ k) (hk : k ≤ 16384) : fits n := by
  have := nd_le (b := 256) (by omega) h; unfold fits; omega
theorem fits_KA : fits KA := fits_of_lt 8 (by rw [KA_eq]; decide) (by omega)
theorem fits_KB : fits KB := fits_of_lt 8 (by rw [KB_eq]; decide) (by omega)
theorem fits_KP : fits KP := fits_of_lt 9 (by rw [KP_eq]; decide) (by omega)
theorem fits_7 : fits 7 := fits_of_lt 1 (by decide) (by omega)
theorem nd_KQ : nd 256 KQ = 8 := nd_unique (b := 256) (k := 7) (by omega) (by rw [KQ_eq]; decide) (by rw [KQ_eq]; decide)
theorem ndW_KP : nd W KP ≤ 2 := nd_le W2 (by rw [W_eq, KP_eq]; decide)
theorem ndW_7 : nd W 7 = 1 := nd_unique (b := W) (k := 0) W2 (by decide) (by rw [W_eq]; decide)
theorem natS_one {n : Nat} (h0 : 1 ≤ n) (h : n < 256) : natS n = ⟨#[UInt8.ofNat n]⟩ := by
  have e : nd 256 n = 1 := nd_unique (b := 256) (k := 0) (by omega) (by simpa using h0) (by simpa using h)
  rw [natS_def, e]
  have : dl 256 n 1 = [n] := by
    unfold dl; simp [List.range_succ, dgt_def, Nat.mod_eq_of_lt h]
  rw [this]; rfl
theorem natS_3 : natS 3 = ⟨#[3]⟩ := natS_one (by omega) (by omega)
theorem natS_1 : natS 1 = ⟨#[1]⟩ := natS_one (by omega) (by omega)
def KL : List Nat := [0, 8, 0, 8, 5, 7, 7, 4, 5, 8, 6, 3, 0, 2, 7, 3, 3, 2, 2, 9]
theorem KL_of : of 10 KL = KP := by rw [KP_eq]; decide
theorem dec_KP : decS KP = ⟨#[57, 50, 50, 51, 51, 55, 50, 48, 51, 54, 56, 53, 52, 55, 55, 53, 56, 48, 56, 48]⟩ := by
  have h0 : KP ≠ 0 := by rw [KP_eq]; decide
  have e : nd 10 KP = 20 := nd_unique (b := 10) (k := 19) (by omega) (by rw [KP_eq]; decide) (by rw [KP_eq]; decide)
  have h := dl_of (b := 10) (by omega) KL (by decide)
  rw [KL_of] at h
  rw [decS_pos h0, e]
  unfold digs
  rw [show (20 : Nat) = KL.length from rfl, h]
  decide
theorem below_chain {a b c : World} (h1 : Below a.heap.size a b) (h2 : Below b.heap.size b c) : Below a.heap.size a c := h1.trans (h2.mono h1.size)
theorem may_zero : ¬ May ⟨#[0]⟩ := fun h => h.2 (by decide) (by decide)
theorem Of_KA (w : World) : Calls Try.prog 23 #[.int .u64 9223372036854775808] w fun e w' => e = .returned (.string (natS KA)) ∧ Below w.heap.size w w' := by
  have h := Of_n KA w (by rw [KA_eq]; decide)
  rw [KA_int] at h; exact h
theorem Of_KB (w : World) : Calls Try.prog 23 #[.int .u64 10] w fun e w' => e = .returned (.string (natS KB)) ∧ Below w.heap.size w w' := by
  have h := Of_n KB w (by rw [KB_eq]; decide)
  rw [KB_int] at h; exact h
theorem Of_7 (w : World) : Calls Try.prog 23 #[.int .u64 7] w fun e w' => e = .returned (.string (natS 7)) ∧ Below w.heap.size w w' := Of_n 7 w (by decide)
theorem Mul_K (w : World) : Calls Try.prog 41 #[.string (natS KA), .string (natS KB)] w (StrPost (natS KP) 0 w) := by
  have h := NMul_c KA KB w fits_KA fits_KB
  rw [K_mul, resS_ok fits_KP, resE_ok fits_KP] at h; exact h
theorem Text_K (w : World) : Calls Try.prog 53 #[.string (natS KP)] w (StrPost ⟨#[57, 50, 50, 51, 51, 55, 50, 48, 51, 54, 56, 53, 52, 55, 55, 53, 56, 48, 56, 48]⟩ 0 w) := by
  have h := NText_c KP w fits_KP (by rw [KP_eq]; decide)
  rw [dec_KP] at h; exact h
theorem Div_K (w : World) : Calls Try.prog 43 #[.string (natS KP), .string (natS 7)] w (Str2Post (natS KQ) ⟨#[3]⟩ 0 w) := by
  have h := NDiv_of KP 7 w fits_KP fits_7 (by omega) (fun A A' c c' w h1 h2 => Div_one A A' c c' KP 7 w ndW_7 (by rw [KP_eq]; decide) (Nat.le_trans ndW_KP (by omega)) h1 h2)
  rw [K_div, K_mod, natS_3] at h; exact h
theorem Sub_K (w : World) : Calls Try.prog 35 #[.string ⟨#[]⟩, .string ⟨#[1]⟩] w (StrPost ⟨#[]⟩ 20 w) := by
  have h := NSub_below 0 1 w (fits_of_lt 0 (by decide) (by omega)) (fits_of_lt 1 (by decide) (by omega)) (by omega)
  rw [natS_zero, natS_1] at h; exact h
theorem Check_K (w : World) : Calls Try.prog 21 #[.string ⟨#[0]⟩] w fun e w' => e = .returned (.int .i64 2) ∧ Below w.heap.size w w' := by
  have h := Check_c ⟨#[0]⟩ w
  rw [may1_no may_zero] at h; exact h
set_option maxRecDepth 100000 in
set_option maxHeartbeats 1000000 in
theorem awake_c (w : World) : Calls Try.prog 28 #[] w fun e w' => e = .returned (.bool true) ∧ Below w.heap.size w w' := by
  have hq := natS_size KQ
  rw [nd_KQ] at hq
  go_enter Try.func28, Try.ntmps28
  go_wp2_with fail
  refine (Of_KA _).mono ?_
  rintro e w1 ⟨rfl, hb1⟩
  go_wp2_with fail
  refine (Of_KB _).mono ?_
  rintro e w2 ⟨rfl, hb2⟩
  go_wp2_with fail
  refine (Mul_K _).mono ?_
  rintro e w3 ⟨rfl, hb3⟩
  go_wp2_with fail
  refine (Text_K _).mono ?_
  rintro e w4 ⟨rfl, hb4⟩
  go_wp2_with fail
  refine (Of_7 _).mono ?_
  rintro e w5 ⟨rfl, hb5⟩
  go_wp2_with fail
  refine (Div_K _).mono ?_
  rintro e w6 ⟨rfl, hb6⟩
  go_wp2_with fail
  refine (Sub_K _).mono ?_
  rintro e w7 ⟨rfl, hb7⟩
  go_wp2_with fail
  refine (Check_K _).mono ?_
  rintro e w8 ⟨rfl, hb8⟩
  go_wp2_with fail
  go_ret
  exact ⟨rfl, below_chain hb1 (below_chain hb2 (below_chain hb3 (below_chain hb4 (below_chain hb5 (below_chain hb6 (below_chain hb7 hb8))))))⟩
end Go.Proofs.Ytjcicbnjoffbhaa
