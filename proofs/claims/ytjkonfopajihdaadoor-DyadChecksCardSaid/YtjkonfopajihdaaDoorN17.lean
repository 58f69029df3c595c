/- Contracts of package nat: Small, Cmp, Len, Add, Sub. -/
import Derived.Test.YtjkonfopajihdaaDoorN16
set_option linter.unusedSimpArgs false
set_option linter.unusedVariables false
namespace Go.Proofs.YtjkonfopajihdaaDoor
open Go Go.RowKit Nt

/-! The order of texts. -/
def bvL (l : List UInt8) : Nat := of 256 (l.reverse.map UInt8.toNat)
theorem bvL_cons (x : UInt8) (l : List UInt8) : bvL (x :: l) = bvL l + 256 ^ l.length * x.toNat := by
  unfold bvL
  rw [List.reverse_cons, List.map_append, of_append]
  simp [of_cons, of_nil]
theorem bvL_lt (l : List UInt8) : bvL l < 256 ^ l.length := by
  have := of_lt (b := 256) (by omega) (l.reverse.map UInt8.toNat) (fun x hx => by obtain ⟨y, _, rfl⟩ := List.mem_map.1 hx; exact y.toNat_lt)
  rwa [List.length_map, List.length_reverse] at this
theorem bytesLess_iff : ∀ (l m : List UInt8), l.length = m.length → Op.bytesLess l m = decide (bvL l < bvL m)
  | [], [], _ => by simp [Op.bytesLess, bvL]
  | [], _ :: _, h => by simp at h
  | _ :: _, [], h => by simp at h
  | x :: l, y :: m, h => by
    have hl : l.length = m.length := by simpa using h
    have ih := bytesLess_iff l m hl
    have h1 := bvL_lt l
    have h2 := bvL_lt m
    rw [Op.bytesLess, ih, bvL_cons, bvL_cons, hl]
    rw [hl] at h1
    rw [Bool.eq_iff_iff, Bool.or_eq_true, Bool.and_eq_true, decide_eq_true_iff, decide_eq_true_iff, beq_iff_eq, decide_eq_true_iff, UInt8.lt_iff_toNat_lt]
    rcases Nat.lt_trichotomy x.toNat y.toNat with h3 | h3 | h3
    · have : 256 ^ m.length * (x.toNat + 1) ≤ 256 ^ m.length * y.toNat := Nat.mul_le_mul_left _ h3
      rw [Nat.mul_add] at this
      exact ⟨fun _ => by omega, fun _ => Or.inl h3⟩
    · have e : x = y := UInt8.toNat_inj.1 h3
      subst e
      constructor
      · rintro (h | ⟨_, h⟩)
        · omega
        · omega
      · intro h; exact Or.inr ⟨rfl, by omega⟩
    · have : 256 ^ m.length * (y.toNat + 1) ≤ 256 ^ m.length * x.toNat := Nat.mul_le_mul_left _ h3
      rw [Nat.mul_add] at this
      constructor
      · rintro (h | ⟨h, _⟩)
        · omega
        · subst h; omega
      · intro h; omega
theorem ba_toList (s : ByteArray) : s.toList = s.data.toList := Go.ByteArray.toList_eq s
theorem natS_less (a b : Nat) (h : nd 256 a = nd 256 b) : Op.bytesLess (natS a).toList (natS b).toList = decide (a < b) := by
  have e : ∀ n, bvL (natS n).toList = n := fun n => by rw [ba_toList]; exact bytesN_natS n
  have hl : (natS a).toList.length = (natS b).toList.length := by
    rw [ba_toList, ba_toList, Array.length_toList, Array.length_toList]
    exact (natS_size a).trans (h.trans (natS_size b).symm)
  rw [bytesLess_iff _ _ hl, e, e]
theorem natS_list_eq (a b : Nat) : (natS a).toList = (natS b).toList ↔ a = b := by
  constructor
  · intro h
    rw [ba_toList, ba_toList] at h
    exact natS_inj (ByteArray.ext (Array.toList_inj.1 h))
  · rintro rfl; rfl
theorem isNaN_nat (s : ByteArray) (w : World) :
    Calls Tryd.prog 136 #[.string s] w fun e w' => e = .returned (.bool false) ∧ w = w' := by
  go_enter Tryd.func136, Tryd.ntmps136
  go_wp2
  go_ret
  exact ⟨rfl, rfl⟩
set_option maxRecDepth 100000 in
theorem Compare_nat (a b : Nat) (w : World) (h : nd 256 a = nd 256 b) :
    Calls Tryd.prog 132 #[.string (natS a), .string (natS b)] w fun e w' => e = .returned (.int .i64 (cmpN a b)) ∧ w = w' := by
  have h1 := natS_less a b h
  have h2 : ((natS a).toList == (natS b).toList) = decide (a = b) := by
    rw [Bool.eq_iff_iff, beq_iff_eq, decide_eq_true_iff, natS_list_eq]
  rcases Nat.lt_trichotomy a b with hlt | heq | hgt
  · have e1 : decide (a < b) = true := decide_eq_true hlt
    rw [e1] at h1
    have HC := Lib.hid (cmpN_lt hlt)
    clear h2 hlt
    go_enter Tryd.func132, Tryd.ntmps132
    go_wp2_with (go_at_call 136; refine (isNaN_nat _ _).mono ?_; rintro e w' ⟨rfl, rfl⟩)
    go_ret
    exact ⟨ret_int HC.out.symm, rfl⟩
  · subst heq
    have e1 : decide (a < a) = false := decide_eq_false (by omega)
    rw [e1] at h1
    have HC := Lib.hid (cmpN_eq a)
    clear h2
    go_enter Tryd.func132, Tryd.ntmps132
    go_wp2_with (go_at_call 136; refine (isNaN_nat _ _).mono ?_; rintro e w' ⟨rfl, rfl⟩)
    go_ret
    exact ⟨ret_int HC.out.symm, rfl⟩
  · have e1 : decide (a < b) = false := decide_eq_false (by omega)
    have e2 : decide (a = b) = false := decide_eq_false (by omega)
    rw [e1] at h1
    rw [e2] at h2
    have h3 : ¬ (natS a).toList = (natS b).toList := fun c => by rw [natS_list_eq] at c; omega
    have HC := Lib.hid (cmpN_gt hgt)
    clear e1 e2
    go_enter Tryd.func132, Tryd.ntmps132
    go_wp2_with (go_at_call 136; refine (isNaN_nat _ _).mono ?_; rintro e w' ⟨rfl, rfl⟩)
    go_ret
    exact ⟨ret_int HC.out.symm, rfl⟩
theorem may2 {a b : Nat} (ha : fits a) (hb : fits b) : mayE [natS a, natS b] = 0 := mayE_ok (fun s hs => by
  rcases List.mem_cons.1 hs with rfl | hs
  · exact (may_natS a).2 ha
  · rw [List.mem_singleton.1 hs]; exact (may_natS b).2 hb)
theorem may1 {a : Nat} (ha : fits a) : mayE [natS a] = 0 := mayE_ok (fun s hs => by rw [List.mem_singleton.1 hs]; exact (may_natS a).2 ha)
theorem may1_no {s : ByteArray} (h : ¬ May s) : mayE [s] = 2 := mayE_no (List.mem_singleton.2 rfl) h
theorem may2_no {s t : ByteArray} (h : ¬ (May s ∧ May t)) : mayE [s, t] = 2 := by
  by_cases h1 : May s
  · exact mayE_no (s := t) (by simp) (fun c => h ⟨h1, c⟩)
  · exact mayE_no (s := s) (by simp) h1
set_option maxRecDepth 100000 in
theorem Small_c (n : Nat) (w : World) (hf : fits n) :
    Calls Tryd.prog 108 #[.string (natS n)] w fun e w' => e = .returned (.tuple #[.int .u64 (brN n : Nat), .bool (brB n)]) ∧ Below w.heap.size w w' := by
  have hm := may1 hf
  go_enter Tryd.func108, Tryd.ntmps108
  go_wp2_with (first | (go_at_call 59; refine (Check_c _ _).mono ?_; rintro e w1 ⟨rfl, hb⟩) | (go_at_call 122; refine (brief_c n _ hf).mono ?_; rintro e w' ⟨rfl, rfl⟩))
  go_ret2
  exact ⟨rfl, hb⟩
set_option maxRecDepth 100000 in
theorem Small_no (s : ByteArray) (w : World) (h : ¬ May s) :
    Calls Tryd.prog 108 #[.string s] w fun e w' => e = .returned (.tuple #[.int .u64 0, .bool false]) ∧ Below w.heap.size w w' := by
  have hm := may1_no h
  go_enter Tryd.func108, Tryd.ntmps108
  go_wp2_with (first | (go_at_call 59; refine (Check_c _ _).mono ?_; rintro e w1 ⟨rfl, hb⟩))
  go_ret2
  exact ⟨rfl, hb⟩
/-- Two integers and memory below as it was. -/
def IntPost (a b : Int) (w : World) (e : Ending) (w' : World) : Prop := e = .returned (.tuple #[.int .i64 a, .int .i64 b]) ∧ Below w.heap.size w w'
set_option maxRecDepth 100000 in
theorem Cmp_no (s t : ByteArray) (w : World) (h : ¬ (May s ∧ May t)) :
    Calls Tryd.prog 112 #[.string s, .string t] w (IntPost 0 2 w) := by
  have hm := may2_no h
  go_enter Tryd.func112, Tryd.ntmps112
  go_wp2_with (first | (go_at_call 97; refine (all_c _ 2 [s, t] _ (by simp) (strs_new w 22 [s, t])).mono ?_; rintro e w' ⟨rfl, rfl⟩))
  go_ret2
  exact ⟨rfl, (Below.refl _ _).alloc (Nat.le_refl _) _⟩
theorem compareInt_nd (a b : Nat) (h : nd 256 a ≠ nd 256 b) : Go.Lib.compareInt (nd 256 a : Nat) (nd 256 b : Nat) = cmpN a b := by
  unfold Go.Lib.compareInt
  rcases Nat.lt_or_gt_of_ne h with h1 | h1
  · rw [if_pos (by omega), cmpN_lt (lt_of_nd (by omega) h1)]
  · rw [if_neg (by omega), if_pos (by omega), cmpN_gt (lt_of_nd (by omega) h1)]
set_option maxRecDepth 100000 in
theorem NCmp_c (a b : Nat) (w : World) (ha : fits a) (hb : fits b) :
    Calls Tryd.prog 112 #[.string (natS a), .string (natS b)] w (IntPost (cmpN a b) 0 w) := by
  have hm := may2 ha hb
  have hsa := natS_size a
  have hsb := natS_size b
  by_cases h : nd 256 a = nd 256 b
  · have hz : ((nd 256 a : Int) != (nd 256 b : Int)) = false := by rw [h]; simp
    have H := Lib.hid h
    clear h
    go_enter Tryd.func112, Tryd.ntmps112
    go_wp2_with (first | (go_at_call 97; refine (all_c _ 2 [natS a, natS b] _ (by simp) (strs_new w 22 [natS a, natS b])).mono ?_; rintro e w' ⟨rfl, rfl⟩) | (go_at_call 132; refine (Compare_nat a b _ H.out).mono ?_; rintro e w' ⟨rfl, rfl⟩))
    go_ret2
    exact ⟨rfl, (Below.refl _ _).alloc (Nat.le_refl _) _⟩
  · have hz : ((nd 256 a : Int) != (nd 256 b : Int)) = true := by rw [bne_iff_ne]; omega
    have H := Lib.hid (compareInt_nd a b h)
    clear h
    go_enter Tryd.func112, Tryd.ntmps112
    go_wp2_with (first | (go_at_call 97; refine (all_c _ 2 [natS a, natS b] _ (by simp) (strs_new w 22 [natS a, natS b])).mono ?_; rintro e w' ⟨rfl, rfl⟩) | (go_at_call 131; refine (Tryd.cmp_Compare_int _ _ _).mono ?_; rintro e w' ⟨rfl, rfl⟩))
    go_ret2
    exact ⟨by rw [← H.out]; rfl, (Below.refl _ _).alloc (Nat.le_refl _) _⟩
end Go.Proofs.YtjkonfopajihdaaDoor
