/- Towards the document's Div: digits of a quotient from the highest; a number of one digit. -/
import Derived.Test.YtjcicbnjoffbhaaN48
set_option linter.unusedSimpArgs false
set_option linter.unusedVariables false
namespace Go.Proofs.Ytjcicbnjoffbhaa
open Go Go.RowKit Nt

/-- The number of the i highest of N digits. -/
def pre (a N i : Nat) : Nat := a / 256 ^ (N - i)
theorem pre_all (a N : Nat) : pre a N N = a := by unfold pre; rw [Nat.sub_self, Nat.pow_zero, Nat.div_one]
theorem pre_succ {a N i j : Nat} (h : N = i + 1 + j) : pre a N (i + 1) = 256 * pre a N i + dgt 256 a j := by
  unfold pre
  rw [show N - (i + 1) = j by omega, show N - i = j + 1 by omega, div_eq_dgt (b := 256) (by omega) a j]
  omega
theorem pre_nd {a N i : Nat} (hN : nd 256 a = N) (hi : i ≤ N) : nd 256 (pre a N i) ≤ i := by
  unfold pre
  refine nd_le (by omega) ?_
  rw [Nat.div_lt_iff_lt_mul (Nat.pow_pos (by omega)), ← Nat.pow_add, show i + (N - i) = N by omega, ← hN]
  exact lt_nd (by omega)
theorem pre_dgt {a N i j : Nat} (h : N = i + 1 + j) (b : Nat) : dgt 256 (a / b) j = pre a N (i + 1) / b % 256 := by
  unfold pre
  rw [show N - (i + 1) = j by omega, dgt_def, Nat.div_div_eq_div_mul, Nat.div_div_eq_div_mul, Nat.mul_comm]
/-- One step of the division, digit by digit. -/
theorem pre_step {a N i j b : Nat} (h : N = i + 1 + j) (hb : 0 < b) : (256 * (pre a N i % b) + dgt 256 a j) / b = dgt 256 (a / b) j ∧ (256 * (pre a N i % b) + dgt 256 a j) % b = pre a N (i + 1) % b ∧ dgt 256 (a / b) j < 256 := by
  have hd := dgt_lt (b := 256) (by omega) a j
  have h1 := Nat.mod_add_div (pre a N i) b
  have h2 := Nat.mod_lt (pre a N i) hb
  have e : pre a N (i + 1) = (256 * (pre a N i % b) + dgt 256 a j) + b * (256 * (pre a N i / b)) := by
    rw [pre_succ h]
    have : 256 * pre a N i = 256 * (pre a N i % b) + b * (256 * (pre a N i / b)) := by
      rw [Nat.mul_left_comm b, ← Nat.mul_add, h1]
    omega
  have h3 : (256 * (pre a N i % b) + dgt 256 a j) / b < 256 := by
    rw [Nat.div_lt_iff_lt_mul hb]
    have : 256 * (pre a N i % b + 1) ≤ 256 * b := Nat.mul_le_mul_left _ h2
    omega
  have h4 : pre a N (i + 1) / b = (256 * (pre a N i % b) + dgt 256 a j) / b + 256 * (pre a N i / b) := by
    rw [e, Nat.add_mul_div_left _ _ hb]
  have h5 : dgt 256 (a / b) j = (256 * (pre a N i % b) + dgt 256 a j) / b := by
    rw [pre_dgt h, h4, Nat.add_mul_mod_self_left, Nat.mod_eq_of_lt h3]
  refine ⟨h5.symm, ?_, by rw [h5]; exact h3⟩
  rw [e, Nat.add_mul_mod_self_left]
/-- Above the digits that are done the quotient's are 0. -/
theorem pre_zero {a N i b j : Nat} (h : pre a N i < b) (hi : i ≤ N) (hj : N - i ≤ j) : dgt 256 (a / b) j = 0 := by
  have h1 : a / b / 256 ^ (N - i) = 0 := by
    rw [Nat.div_div_eq_div_mul, Nat.mul_comm, ← Nat.div_div_eq_div_mul]
    exact Nat.div_eq_of_lt h
  obtain ⟨x, rfl⟩ : ∃ x, j = N - i + x := ⟨j - (N - i), by omega⟩
  rw [dgt_def, Nat.pow_add, ← Nat.div_div_eq_div_mul, h1, Nat.zero_div]
theorem pre_nd_eq {a N i : Nat} (hN : nd 256 a = N) (hi : i ≤ N) : nd 256 (pre a N i) = i := by
  refine Nat.le_antisymm (pre_nd hN hi) ?_
  rcases Nat.eq_zero_or_pos i with h | h
  · omega
  · have h1 : 256 ^ (N - 1) ≤ a := (pow_le_iff (b := 256) (by omega) _ _).2 (by omega)
    have h2 : 256 ^ (i - 1) ≤ pre a N i := by
      unfold pre
      rw [Nat.le_div_iff_mul_le (Nat.pow_pos (by omega)), ← Nat.pow_add, show i - 1 + (N - i) = N - 1 by omega]
      exact h1
    have := (pow_le_iff (b := 256) (by omega) _ _).1 h2
    omega
/-- The i highest bytes as a text. -/
theorem natS_take {a N i : Nat} (hN : nd 256 a = N) (hi : i ≤ N) : (natS a).extract 0 i = natS (pre a N i) := by
  have hs := natS_size a
  have hp := natS_size (pre a N i)
  rw [pre_nd_eq hN hi] at hp
  rw [hN] at hs
  have hs2 : ((natS a).extract 0 i).size = i := by
    rw [ByteArray.size_extract, hs]; omega
  apply ByteArray.ext_getElem (by rw [hs2, hp])
  intro j h1 h2
  have hj : j < i := by rw [hs2] at h1; exact h1
  rw [ByteArray.getElem_extract]
  have e1 := natS_get a j (by rw [hs]; omega)
  have e2 := natS_get (pre a N i) j h2
  rw [hN] at e1
  rw [pre_nd_eq hN hi] at e2
  have e3 : dgt 256 (pre a N i) (i - 1 - j) = dgt 256 a (N - 1 - j) := by
    unfold pre
    rw [dgt_def, dgt_def, Nat.div_div_eq_div_mul, ← Nat.pow_add, show N - i + (i - 1 - j) = N - 1 - j by omega]
  apply UInt8.toNat_inj.1
  rw [e2, e3, ← e1]
  congr 2
  omega
set_option maxRecDepth 100000 in
theorem rMade1_c (x : Nat) (w : World) (hx : x < 256) :
    Calls Try.prog 61 #[.slice (some ⟨w.heap.size, 0, none⟩) 1 1] (w.alloc (.cells #[.int .i64 (x : Nat)] 3)) fun e w' => e = .returned (.string (natS x)) ∧ Below w.heap.size w w' := by
  have hb : Below w.heap.size w (w.alloc (.cells #[.int .i64 (x : Nat)] 3)) := (Below.refl _ _).alloc (Nat.le_refl _) _
  have hblk : Blk (w.alloc (.cells #[.int .i64 (x : Nat)] 3)) w.heap.size 3 (fcells .i64 (fun _ => x) 1) := Blk.new w 3 _
  have hown := Own.of_fcells hblk (Nat.le_refl _) (by omega)
  have h := rMade_c w.heap.size (.slice (some ⟨w.heap.size, 0, none⟩) 1 1) [x] _ (by simpa using hx) (by simp) hown
  have e : of 256 [x] = x := by rw [of_cons, of_nil]; omega
  rw [e] at h
  refine h.mono ?_
  rintro e w' ⟨rfl, hb'⟩
  exact ⟨rfl, below_chain hb hb'⟩
theorem rMade1_b (x : Nat) (w : World) (hx : x < 256) :
    Calls Try.prog 61 #[.slice (some ⟨w.heap.size, 0, none⟩) 1 1] (w.alloc (.cells #[.int .i64 (x : Nat)] 3)) fun e w' => e = .returned (.string (natS x)) ∧ Below (w.alloc (.cells #[.int .i64 (x : Nat)] 3)).heap.size (w.alloc (.cells #[.int .i64 (x : Nat)] 3)) w' := by
  have hblk : Blk (w.alloc (.cells #[.int .i64 (x : Nat)] 3)) w.heap.size 3 (fcells .i64 (fun _ => x) 1) := Blk.new w 3 _
  have hown := Own.of_fcells hblk (Nat.le_refl _) (by omega)
  have h := rMade_c w.heap.size (.slice (some ⟨w.heap.size, 0, none⟩) 1 1) [x] _ (by simpa using hx) (by simp) hown
  have e : of 256 [x] = x := by rw [of_cons, of_nil]; omega
  rw [e] at h
  exact h
theorem rMade1_t (x : Nat) (w wT : World) (hx : x < 256) (hb : Below (w.alloc (.cells #[.int .i64 (x : Nat)] 3)).heap.size (w.alloc (.cells #[.int .i64 (x : Nat)] 3)) wT) :
    Calls Try.prog 61 #[.slice (some ⟨w.heap.size, 0, none⟩) 1 1] wT fun e w' => e = .returned (.string (natS x)) ∧ Below wT.heap.size wT w' := by
  have hblk : Blk (w.alloc (.cells #[.int .i64 (x : Nat)] 3)) w.heap.size 3 (fcells .i64 (fun _ => x) 1) := Blk.new w 3 _
  have hown := Own.of_fcells (hblk.below hb hblk.lt) (Nat.le_refl _) (by omega)
  have h := rMade_c w.heap.size (.slice (some ⟨w.heap.size, 0, none⟩) 1 1) [x] _ (by simpa using hx) (by simp) hown
  have e : of 256 [x] = x := by rw [of_cons, of_nil]; omega
  rw [e] at h
  exact h
end Go.Proofs.Ytjcicbnjoffbhaa
