/- Contracts: strconv.FormatUint at base 10; Text of both. -/
import Derived.Test.YtbmfbmepgcbhfaaDoorB10
import Derived.Lib.ItoaMem
import Derived.Lib.Walk
import Derived.BigCall
set_option linter.unusedSimpArgs false
set_option linter.unusedVariables false
namespace Go.Proofs.YtbmfbmepgcbhfaaDoor
open Go Go.RowKit Go.Sort Ff
attribute [local go_sem] f_lt f_gt f_eq f_ne

theorem holds_zero0 (w : World) (T : TypeId) (nd : Nat) (hs : nd ≤ 24) : Holds (fun (b : UInt8) => Value.int .u8 (b.toNat : Int)) (w.alloc (.cells Lib.zeros24 T)) w.heap.size 0 (Array.replicate nd (0 : UInt8)) := fun j hj => by
  have hj' : j < nd := by simpa using hj
  refine ⟨?_, World.frozen?_alloc_new _ _ _ _⟩
  rw [World.cell?_alloc_new, Lib.zeros24_at _ (by omega), getElem!_pos _ j hj]
  simp
theorem fin_at0 (w : World) (o : Obj) (dk : Array UInt8) (k : Nat) : ∃ os, (putRow (fun (b : UInt8) => Value.int .u8 (b.toNat : Int)) (w.alloc o) w.heap.size 0 dk).drewN k = grow (w.drewN k) os := by
  rw [alloc_eq_grow]
  obtain ⟨os', _, e⟩ := putRow_grow_new (fun (b : UInt8) => Value.int .u8 (b.toNat : Int)) w #[o] w.heap.size 0 dk (Nat.le_refl _)
  exact ⟨os', by rw [e]; rfl⟩
theorem below_grow (w : World) (k : Nat) (os : Array Obj) : Below w.heap.size w (grow (w.drewN k) os) :=
  ⟨rfl, rfl, rfl, by simp [grow], fun j hj => by simp [grow]; rw [Array.getElem?_append_left hj]⟩

set_option maxRecDepth 100000 in
theorem iFormatUint_big (u : Nat) (hu0 : 100 ≤ u) (hu64 : u < 18446744073709551616) (w : World) (htab : Lib.TabIs Tryd.prog w "internal/strconv.uint64pow10" .u64 Lib.pow10Tab) :
    Calls Tryd.prog 39 #[.int .u64 u, .int .i64 10] w fun e w' => e = .returned (.string ⟨(Lib.decDigits u).toArray⟩) ∧ Below w.heap.size w w' := by
  have hu1 : 1 ≤ u := by omega
  have hnd20 : Lib.nDigits u ≤ 20 := by have := Lib.numDigits_eq u hu1 hu64; split at this <;> omega
  have hal : Tryd.prog.arrayLen 70 = 24 := by kernel_rfl
  have hsl1 : ∀ W, (Instr.sliceAt 70 (.pointer (some ⟨w.heap.size, 0, none⟩)) none (some (.int .i64 (Lib.nDigits u : Int))) none).run Tryd.prog W = .ok (.slice (some ⟨w.heap.size, 0, none⟩) (Lib.nDigits u) 24) W := fun W => by
    rw [run_sliceAt_array_h W 70 ⟨w.heap.size, 0, none⟩ (by kernel_rfl) .i64 (Lib.nDigits u : Int) (by omega) (by rw [hal]; omega)]
    go_simp
  have hH0 := holds_zero0 w 70 (Lib.nDigits u) (by omega)
  have hfmt := Tryd.internal_strconv_formatBase10 w.heap.size 0 24 u (Array.replicate (Lib.nDigits u) 0) (w.alloc (.cells Lib.zeros24 70)) hH0 (by rw [Array.size_replicate]; exact Lib.lt_pow_nDigits u) hu64 (by rw [Array.size_replicate]; omega)
  rw [Array.size_replicate] at hfmt
  have HH0 := Lib.hid hH0
  clear hH0 hal
  have hbig : ¬ (u : Int) < 100 := by omega
  go_enter Tryd.func39, Tryd.ntmps39
  go_wp2_with (go_at_call 50; refine (Tryd.internal_strconv_numDigits u hu1 hu64 _ (Lib.tabIs_alloc htab _)).mono ?_; rintro e w' ⟨rfl, rfl⟩)
  go_at_call 51
  refine hfmt.mono ?_
  rintro e w' ⟨rfl, k, v', dk, rfl, hF⟩
  have hcv : (convert 72 9 (.slice (some ⟨w.heap.size, 0, none⟩) (Lib.nDigits u) 24)).run Tryd.prog ((putRow (fun (b : UInt8) => Value.int .u8 (b.toNat : Int)) (w.alloc (.cells Lib.zeros24 70)) w.heap.size 0 dk).drewN k) = .ok (.string ⟨(Lib.decDigits u).toArray⟩) ((putRow (fun (b : UInt8) => Value.int .u8 (b.toNat : Int)) (w.alloc (.cells Lib.zeros24 70)) w.heap.size 0 dk).drewN k) := by
    have h := run_convert_bytes_back (P := Tryd.prog) ((putRow (fun (b : UInt8) => Value.int .u8 (b.toNat : Int)) (w.alloc (.cells Lib.zeros24 70)) w.heap.size 0 dk).drewN k) 72 9 5 ⟨w.heap.size, 0, none⟩ 24 (Lib.decDigits u) Tryd.underlying72 Tryd.underlying5 Tryd.underlying9 (fun j hj => by
      rw [Lib.row_is_numeral hF j hj, Lib.add_plain, World.cell?_drewN]
      exact cell?_putRow (fun (b : UInt8) => Value.int .u8 (b.toNat : Int)) _ w.heap.size 0 _ dk HH0.out (by rw [hF.size, Array.size_replicate]) j (by rw [hF.size]; rw [Lib.decDigits_length] at hj; exact hj))
    rw [Lib.decDigits_length] at h
    exact h
  go_wp2
  go_ret
  obtain ⟨os, eo⟩ := fin_at0 w (.cells Lib.zeros24 70) dk k
  exact ⟨rfl, by rw [eo]; exact below_grow _ _ _⟩

theorem decDigits_small_eq (i : Nat) : True := trivial
theorem FormatUint_c (u : Nat) (hu64 : u < 18446744073709551616) (w : World) (htab : Lib.TabIs Tryd.prog w "internal/strconv.uint64pow10" .u64 Lib.pow10Tab) :
    Calls Tryd.prog 17 #[.int .u64 u, .int .i64 10] w fun e w' => e = .returned (.string ⟨(Lib.decDigits u).toArray⟩) ∧ Below w.heap.size w w' := by
  by_cases h : u < 100
  · have h' : (u : Int) < 100 := by omega
    go_enter Tryd.func17, Tryd.ntmps17
    go_wp2_with (first | (go_at_call 39; go_in) | (go_at_call 49; refine (Tryd.internal_strconv_small u h _).mono ?_; rintro e w' ⟨rfl, rfl⟩))
    all_goals go_ret
    all_goals exact ⟨rfl, Below.refl _ _⟩
  · go_enter Tryd.func17, Tryd.ntmps17
    go_wp2_with (go_at_call 39; refine (iFormatUint_big u (by omega) hu64 _ htab).mono ?_; rintro e w' ⟨rfl, hb⟩)
    go_ret
    exact ⟨rfl, hb⟩

/-- What stands in the worlds of texts. -/
def TabS (w : World) : Prop := Tabs w ∧ Lib.TabIs Tryd.prog w "internal/strconv.uint64pow10" .u64 Lib.pow10Tab ∧ 2 < w.heap.size
theorem gPow : Tryd.prog.globalNamed "internal/strconv.uint64pow10" = some 2 := by kernel_rfl
theorem tabIs_below {B : Nat} {w w' : World} {zs : List Int} (hb : Below B w w') (hB : 2 < B) (h : Lib.TabIs Tryd.prog w "internal/strconv.uint64pow10" .u64 zs) : Lib.TabIs Tryd.prog w' "internal/strconv.uint64pow10" .u64 zs :=
  var?_below hb gPow hB h
theorem TabS.below {w w' : World} (h : TabS w) (hb : Below w.heap.size w w') : TabS w' :=
  ⟨h.1.below hb, tabIs_below hb h.2.2 h.2.1, Nat.lt_of_lt_of_le h.2.2 hb.size⟩

/-- The text of a float. -/
@[irreducible] def textF (x : Nat) : List UInt8 :=
  if isn x then [110, 97, 110] else (if sgn x then [45] else []) ++
    (if finB x = false then [105, 110, 102] else if rung x = 0 then [48] else Lib.decDigits (partM x) ++ [112] ++ Lib.itoa (partE x))
theorem text_nan {x : Nat} (h : isn x) : textF x = [110, 97, 110] := by unfold textF; rw [if_pos h]
theorem text_inf {x : Nat} (h : ¬ isn x) (hf : finB x = false) : textF x = (if sgn x then [45] else []) ++ [105, 110, 102] := by unfold textF; rw [if_neg h, if_pos hf]
theorem text_zero {x : Nat} (h : ¬ isn x) (hf : finB x = true) (h0 : rung x = 0) : textF x = (if sgn x then [45] else []) ++ [48] := by unfold textF; simp [h, hf, h0]
theorem text_num {x : Nat} (h : ¬ isn x) (hf : finB x = true) (h0 : rung x ≠ 0) : textF x = (if sgn x then [45] else []) ++ (Lib.decDigits (partM x) ++ [112] ++ Lib.itoa (partE x)) := by unfold textF; simp [h, hf, h0]

theorem flt_zero {x : Nat} (h : ¬ isn x) (h0 : rung x ≠ 0) : fltB x 0 = sgn x := by
  unfold fltB; rw [Bool.eq_iff_iff, decide_eq_true_iff, srung_zero]
  unfold srung
  cases s : sgn x
  · simp
  · constructor
    · intro _; rfl
    · intro _; exact ⟨h, isn_zero, by rw [if_pos rfl]; omega⟩
theorem flt_zero0 {x : Nat} (h0 : rung x = 0) : fltB x 0 = false := by
  unfold fltB; rw [decide_eq_false_iff_not, srung_zero]; intro c
  have := (srung_eq_zero x).2 h0; omega
theorem ret_str {a b : List UInt8} (h : a = b) : Ending.returned (.string ⟨a.toArray⟩) = .returned (.string ⟨b.toArray⟩) := by rw [h]

theorem Text_nan (x : Nat) (hx : x < 18446744073709551616) (hi : isn x) (w : World) (ht : TabS w) :
    Calls Tryd.prog 7 #[.float .f64 x] w fun e w' => e = .returned (.string ⟨(textF x).toArray⟩) ∧ Below w.heap.size w w' := by
  have hf : finB x = false := by rw [finB_false]; unfold isn at hi; omega
  have hn := feq_nn hi
  have H := Lib.hid (text_nan hi)
  have hl : fltB x 0 = false := by unfold fltB; rw [decide_eq_false_iff_not]; intro c; exact c.1 hi
  go_enter Tryd.func7, Tryd.ntmps7
  go_wp2_with (go_at_call 16; refine (Parts_no x hx hf _).mono ?_; rintro e w' ⟨rfl, rfl⟩)
  go_ret
  exact ⟨ret_str (a := [110, 97, 110]) H.out.symm, Below.refl _ _⟩
theorem Text_inf (x : Nat) (hx : x < 18446744073709551616) (hi : ¬ isn x) (hf : finB x = false) (w : World) (ht : TabS w) :
    Calls Tryd.prog 7 #[.float .f64 x] w fun e w' => e = .returned (.string ⟨(textF x).toArray⟩) ∧ Below w.heap.size w w' := by
  have hn := feq_ok hi
  have H := Lib.hid (text_inf hi hf)
  have h0 : rung x ≠ 0 := by have := (finB_false x).1 hf; omega
  have hl := flt_zero hi h0
  cases hs : sgn x
  all_goals
    rw [hs] at H
    go_enter Tryd.func7, Tryd.ntmps7
    go_wp2_with (go_at_call 16; refine (Parts_no x hx hf _).mono ?_; rintro e w' ⟨rfl, rfl⟩)
    go_ret
  · exact ⟨ret_str (a := [105, 110, 102]) (by rw [H.out]; rfl), Below.refl _ _⟩
  · exact ⟨ret_str (a := [45, 105, 110, 102]) (by rw [H.out]; rfl), Below.refl _ _⟩
theorem Text_zero (x : Nat) (hx : x < 18446744073709551616) (hi : ¬ isn x) (hf : finB x = true) (h0 : rung x = 0) (w : World) (ht : TabS w) :
    Calls Tryd.prog 7 #[.float .f64 x] w fun e w' => e = .returned (.string ⟨(textF x).toArray⟩) ∧ Below w.heap.size w w' := by
  have hn := feq_ok hi
  have H := Lib.hid (text_zero hi hf h0)
  have hl := flt_zero0 h0
  have em : partM x = 0 := by unfold partM; rw [if_pos h0]
  cases hs : sgn x
  all_goals
    rw [hs] at H
    go_enter Tryd.func7, Tryd.ntmps7
    go_wp2_with (go_at_call 16; refine (Parts_yes x hx hf _ ht.1).mono ?_; rw [hs]; rintro e w' ⟨rfl, rfl⟩)
    go_ret
  · exact ⟨ret_str (a := [48]) (by rw [H.out]; rfl), Below.refl _ _⟩
  · exact ⟨ret_str (a := [45, 48]) (by rw [H.out]; rfl), Below.refl _ _⟩
theorem dec_len {u : Nat} (hu : u < 18446744073709551616) : (Lib.decDigits u).length ≤ 20 := by
  rw [Lib.decDigits_length]
  by_cases h : 1 ≤ u
  · have := Lib.numDigits_eq u h hu; split at this <;> omega
  · have : u = 0 := by omega
    subst this; rw [Lib.nDigits_small (by decide)]; decide
theorem itoa_len {e : Int} (he : -1000000 ≤ e ∧ e ≤ 1000000) : (Lib.itoa e).length ≤ 21 := by
  unfold Lib.itoa; split
  · have := dec_len (u := e.natAbs) (by omega); simp only [List.length_cons]; omega
  · have := dec_len (u := e.toNat) (by omega); omega
theorem ba_app (a b : List UInt8) : (⟨a.toArray⟩ ++ ⟨b.toArray⟩ : ByteArray) = ⟨(a ++ b).toArray⟩ := by
  apply ByteArray.ext; simp [ByteArray.data_append]
theorem ret_ba {a : ByteArray} {b : List UInt8} (h : a = ⟨b.toArray⟩) : Ending.returned (.string a) = .returned (.string ⟨b.toArray⟩) := by rw [h]
theorem below_step {w w1 : World} (h : Below w.heap.size w w1) (k : Nat) (os : Array Obj) : Below w.heap.size w (grow (w1.drewN k) os) :=
  h.trans ((below_grow w1 k os).mono h.size)
theorem Text_num (x : Nat) (hx : x < 18446744073709551616) (hi : ¬ isn x) (hf : finB x = true) (h0 : rung x ≠ 0) (w : World) (ht : TabS w) :
    Calls Tryd.prog 7 #[.float .f64 x] w fun e w' => e = .returned (.string ⟨(textF x).toArray⟩) ∧ Below w.heap.size w w' := by
  have hn := feq_ok hi
  have H := Lib.hid (text_num hi hf h0)
  have hl := flt_zero hi h0
  have hm := partM_lt x
  have he := partE_bd x hf
  have em : ((partM x : Int) == 0) = false := by have := partM_odd h0; rw [beq_eq_false_iff_ne]; omega
  have hd1 := dec_len (u := partM x) (by omega)
  have hd2 := itoa_len (e := partE x) (by omega)
  cases hs : sgn x
  all_goals
    rw [hs] at H
    go_enter Tryd.func7, Tryd.ntmps7
    go_wp2_with (go_at_call 16; refine (Parts_yes x hx hf _ ht.1).mono ?_; rw [hs]; rintro e w' ⟨rfl, rfl⟩)
    go_at_call 17
    refine (FormatUint_c _ (by omega) _ ht.2.1).mono ?_
    rintro e w1 ⟨rfl, hb1⟩
    go_wp2_with fail
    go_at_call 18
    refine (Tryd.strconv_Itoa _ (by omega) (by omega) _ (ht.below hb1).2.1).mono ?_
    rintro e w2 ⟨rfl, k, os, rfl⟩
    go_wp2
    go_ret
  · refine ⟨?_, below_step hb1 _ _⟩
    refine ret_ba (a := (⟨([] : List UInt8).toArray⟩ ++ ⟨(Lib.decDigits (partM x)).toArray⟩ ++ ⟨([112] : List UInt8).toArray⟩ ++ ⟨(Lib.itoa (partE x)).toArray⟩ : ByteArray)) (b := textF x) ?_
    apply ByteArray.ext; rw [H.out]; simp [ByteArray.data_append]
  · refine ⟨?_, below_step hb1 _ _⟩
    refine ret_ba (a := (⟨([45] : List UInt8).toArray⟩ ++ ⟨(Lib.decDigits (partM x)).toArray⟩ ++ ⟨([112] : List UInt8).toArray⟩ ++ ⟨(Lib.itoa (partE x)).toArray⟩ : ByteArray)) (b := textF x) ?_
    apply ByteArray.ext; rw [H.out]; simp [ByteArray.data_append]
theorem Text_c (x : Nat) (hx : x < 18446744073709551616) (w : World) (ht : TabS w) :
    Calls Tryd.prog 7 #[.float .f64 x] w fun e w' => e = .returned (.string ⟨(textF x).toArray⟩) ∧ Below w.heap.size w w' := by
  by_cases hi : isn x
  · exact Text_nan x hx hi w ht
  · cases hf : finB x
    · exact Text_inf x hx hi hf w ht
    · by_cases h0 : rung x = 0
      · exact Text_zero x hx hi hf h0 w ht
      · exact Text_num x hx hi hf h0 w ht
end Go.Proofs.YtbmfbmepgcbhfaaDoor
