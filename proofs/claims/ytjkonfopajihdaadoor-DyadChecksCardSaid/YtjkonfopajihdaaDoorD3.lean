/- Layer 3 (dyad): what the document answers: May, Sign, Neg, Top. -/
import Derived.Test.YtjkonfopajihdaaDoorD2
set_option linter.unusedSimpArgs false
set_option linter.unusedVariables false
namespace Go.Proofs.YtjkonfopajihdaaDoor
open Go Go.RowKit Nt

set_option maxRecDepth 100000 in
theorem rMay3_zero (w : World) : Calls Tryd.prog 14 #[.agg #[.bool false, .string ⟨#[]⟩, .int .i64 0]] w fun e w' => e = .returned (.bool true) ∧ Below w.heap.size w w' := by
  go_enter Tryd.func14, Tryd.ntmps14
  go_wp2
  go_ret
  exact ⟨rfl, (Below.refl _ _).alloc (Nat.le_refl _) _⟩
theorem nat_first {n : Nat} (hf : fits n) (h : 0 < (natS n).size) : (natS n)[0].toNat ≠ 0 := ((may_natS n).2 hf).2 h
set_option maxRecDepth 100000 in
theorem rMay3_num (g : Bool) (n : Nat) (x : Int) (w : World) (hf : fits n) (ho : n % 2 = 1) (h1 : -1048576 ≤ x) (h2 : x ≤ 1048576) :
    Calls Tryd.prog 14 #[.agg #[.bool g, .string (natS n), .int .i64 x]] w fun e w' => e = .returned (.bool true) ∧ Below w.heap.size w w' := by
  have hE := natS_full (odd_ne ho)
  have hE2 := natS_full2 (odd_ne ho)
  have hsz := natS_size n
  have hL : nd 256 n ≤ 16384 := hf
  have hp := odd_size ho
  have hl : ((natS n)[nd 256 n - 1]'(by omega)).toNat % 2 = 1 := by
    have := last_odd n hp
    simp only [natS_size] at this
    rw [this, ho]
  have hl2 : (((natS n)[nd 256 n - 1]'(by omega)).toNat : Int) % 2 = 1 := by omega
  have hf0 := nat_first hf hp
  have hf1 : ¬ (((natS n)[0]'hp).toNat : Int) = 0 := by omega
  have hf2 : ((((natS n)[0]'hp).toNat : Int) != 0) = true := by rw [bne_iff_ne]; omega
  have HO := Lib.hid ho
  clear ho
  go_enter Tryd.func14, Tryd.ntmps14
  go_wp2
  go_ret
  exact ⟨rfl, (Below.refl _ _).alloc (Nat.le_refl _) _⟩
set_option maxRecDepth 100000 in
theorem rSign3_zero (w : World) : Calls Tryd.prog 21 #[.agg #[.bool false, .string ⟨#[]⟩, .int .i64 0]] w fun e w' => e = .returned (.int .i64 0) ∧ Below w.heap.size w w' := by
  go_enter Tryd.func21, Tryd.ntmps21
  go_wp2
  go_ret
  exact ⟨rfl, (Below.refl _ _).alloc (Nat.le_refl _) _⟩
set_option maxRecDepth 100000 in
theorem rSign3_num (g : Bool) (n : Nat) (x : Int) (w : World) (ho : n ≠ 0) :
    Calls Tryd.prog 21 #[.agg #[.bool g, .string (natS n), .int .i64 x]] w fun e w' => e = .returned (.int .i64 (sgnI g)) ∧ Below w.heap.size w w' := by
  have hE := natS_full ho
  have hE2 := natS_full2 ho
  have HO := Lib.hid ho
  clear ho
  cases g
  all_goals
    go_enter Tryd.func21, Tryd.ntmps21
    go_wp2
    go_ret
  · exact ⟨by rw [sgn_f]; rfl, (Below.refl _ _).alloc (Nat.le_refl _) _⟩
  · exact ⟨by rw [sgn_t]; rfl, (Below.refl _ _).alloc (Nat.le_refl _) _⟩
set_option maxRecDepth 100000 in
theorem rNeg3_zero (w : World) : Calls Tryd.prog 22 #[.agg #[.bool false, .string ⟨#[]⟩, .int .i64 0]] w fun e w' => e = .returned (.agg #[.bool false, .string ⟨#[]⟩, .int .i64 0]) ∧ Below w.heap.size w w' := by
  go_enter Tryd.func22, Tryd.ntmps22
  go_wp2
  refine bodyPost_ret (v := .agg #[.bool false, .string ⟨#[]⟩, .int .i64 0]) (by simp [results, Tryd.results22, go_sem]) rfl ⟨rfl, ?_⟩
  repeat (refine Below.setCell ?_ (by simp) _)
  exact ((Below.refl _ _).alloc (Nat.le_refl _) _).alloc (by simp) _
set_option maxRecDepth 100000 in
theorem rNeg3_num (g : Bool) (n : Nat) (x : Int) (w : World) (ho : n ≠ 0) :
    Calls Tryd.prog 22 #[.agg #[.bool g, .string (natS n), .int .i64 x]] w fun e w' => e = .returned (.agg #[.bool (!g), .string (natS n), .int .i64 x]) ∧ Below w.heap.size w w' := by
  have hE := natS_full ho
  have hE2 := natS_full2 ho
  have HO := Lib.hid ho
  clear ho
  go_enter Tryd.func22, Tryd.ntmps22
  go_wp2
  refine bodyPost_ret (v := .agg #[.bool (!g), .string (natS n), .int .i64 x]) (by simp [results, Tryd.results22, go_sem]) rfl ⟨rfl, ?_⟩
  repeat (refine Below.setCell ?_ (by simp) _)
  exact ((Below.refl _ _).alloc (Nat.le_refl _) _).alloc (by simp) _
set_option maxRecDepth 100000 in
theorem rMay3_bad (g : Bool) (s : ByteArray) (x : Int) (w : World) (hs : s.size ≤ 9223372036854775807) (h : ¬ DOk g s x) :
    Calls Tryd.prog 14 #[.agg #[.bool g, .string s, .int .i64 x]] w fun e w' => e = .returned (.bool false) ∧ Below w.heap.size w w' := by
  rcases dbad h with ⟨rfl, hz⟩ | ⟨hp, hz⟩
  · clear h hs
    have hz2 : g = true ∨ (g = false ∧ (x == 0) = false ∧ ¬ x = 0) := by
      rcases hz with rfl | hz
      · exact Or.inl rfl
      · cases g
        · exact Or.inr ⟨rfl, by simpa using hz, hz⟩
        · exact Or.inl rfl
    clear hz
    rcases hz2 with rfl | ⟨rfl, hx, hx2⟩
    all_goals
      go_enter Tryd.func14, Tryd.ntmps14
      go_wp2
      go_ret
      exact ⟨rfl, (Below.refl _ _).alloc (Nat.le_refl _) _⟩
  · have hE := dFull hp
    have hE2 := dFull2 hp
    clear h
    by_cases hbig : 16384 < s.size
    · have hb' : ¬ (s.size : Int) ≤ 16384 := by omega
      clear hz
      go_enter Tryd.func14, Tryd.ntmps14
      go_wp2
      go_ret
      exact ⟨rfl, (Below.refl _ _).alloc (Nat.le_refl _) _⟩
    · have hb' : (s.size : Int) ≤ 16384 := by omega
      have hb'' : s.size ≤ 16384 := by omega
      by_cases h0 : (s[0]'hp).toNat = 0
      · have h0' : (((s[0]'hp).toNat : Int) != 0) = false := by rw [h0]; rfl
        have H0 := Lib.hid h0
        clear hz h0 hbig
        go_enter Tryd.func14, Tryd.ntmps14
        go_wp2
        go_ret
        exact ⟨rfl, (Below.refl _ _).alloc (Nat.le_refl _) _⟩
      · have h0' : (((s[0]'hp).toNat : Int) != 0) = true := by rw [bne_iff_ne]; omega
        have hm : May s := ⟨hb'', fun _ => h0⟩
        rcases hz with hz | ⟨hz, hm' | ⟨_, hx⟩⟩
        · have hl2 : ((s[s.size - 1]'(by omega)).toNat : Int) % 2 = 0 := by omega
          have H0 := Lib.hid h0
          clear hm h0 hz
          go_enter Tryd.func14, Tryd.ntmps14
          go_wp2
          go_ret
          exact ⟨rfl, (Below.refl _ _).alloc (Nat.le_refl _) _⟩
        · exact absurd hm hm'
        · have hl2 : ((s[s.size - 1]'(by omega)).toNat : Int) % 2 = 1 := by omega
          have H0 := Lib.hid h0
          clear hm h0 hz
          rcases hx with hx | hx
          · have hx' : ¬ -1048576 ≤ x := by omega
            go_enter Tryd.func14, Tryd.ntmps14
            go_wp2
            go_ret
            exact ⟨rfl, (Below.refl _ _).alloc (Nat.le_refl _) _⟩
          · have hx' : ¬ x ≤ 1048576 := by omega
            have hx'' : -1048576 ≤ x := by omega
            go_enter Tryd.func14, Tryd.ntmps14
            go_wp2
            go_ret
            exact ⟨congrArg (fun b => Ending.returned (.bool b)) (decide_eq_false (by omega)), (Below.refl _ _).alloc (Nat.le_refl _) _⟩
end Go.Proofs.YtjkonfopajihdaaDoor
