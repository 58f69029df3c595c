/- The examples that each statement asks for (lives). -/
import Derived.Test.YtbmfbmepgcbhfaaDoorB11
import Derived.Lib.AtoiErrMem
set_option linter.unusedSimpArgs false
set_option linter.unusedVariables false
namespace Go.Proofs.YtbmfbmepgcbhfaaDoor
open Go Go.RowKit Go.Sort Ff
attribute [local go_sem] f_lt f_gt f_eq f_ne

theorem six_fin : finB 4618441417868443648 = true := by unfold finB; decide +kernel
theorem six_m : partM 4618441417868443648 = 3 := by unfold partM od pm tz; decide +kernel
theorem six_e : partE 4618441417868443648 = 1 := by unfold partE pex pm tz; decide +kernel
theorem six_mk : mkF false 12 (-1) = 4618441417868443648 ∧ mkB 12 (-1) = true := by unfold mkF mkB mkOk mkR wf od tz; decide +kernel
theorem q_mk : mkF false 3 (-2) = 4604930618986332160 ∧ mkB 3 (-2) = true := by unfold mkF mkB mkOk mkR wf od tz; decide +kernel
theorem d3 : Lib.decDigits 3 = [51] := by rw [Lib.decDigits]; rfl
theorem i1 : Lib.itoa 1 = [49] := by unfold Lib.itoa; rw [if_neg (by decide)]; rw [Lib.decDigits]; rfl
theorem im2 : Lib.itoa (-2) = [45, 50] := by unfold Lib.itoa; rw [if_pos (by decide)]; rw [Lib.decDigits]; rfl
theorem msix_text : textF 13841813454723219456 = [45, 51, 112, 49] := by
  have hi : ¬ isn 13841813454723219456 := by decide
  have hf : finB 13841813454723219456 = true := by unfold finB; decide +kernel
  have hm : partM 13841813454723219456 = 3 := by unfold partM od pm tz; decide +kernel
  have he : partE 13841813454723219456 = 1 := by unfold partE pex pm tz; decide +kernel
  rw [text_num hi hf (by decide), hm, he, d3, i1]; rfl
theorem q_text : textF 4604930618986332160 = [51, 112, 45, 50] := by
  have hi : ¬ isn 4604930618986332160 := by decide
  have hf : finB 4604930618986332160 = true := by unfold finB; decide +kernel
  have hm : partM 4604930618986332160 = 3 := by unfold partM od pm tz; decide +kernel
  have he : partE 4604930618986332160 = -2 := by unfold partE pex pm tz; decide +kernel
  rw [text_num hi hf (by decide), hm, he, d3, im2]; rfl
theorem one_up : upF 4607182418800017408 = 4607182418800017409 := by unfold upF; decide +kernel
theorem one_down : downF 4607182418800017408 = 4607182418800017407 := by unfold downF upF negW; decide +kernel
theorem one_kind : kind 4607182418800017408 = 3 := by unfold kind; decide +kernel
theorem one_two : ordN (place 4607182418800017408) (place 4611686018427387904) = -1 := by unfold place ordN; decide +kernel

/-- What stands in the worlds of readings. -/
def TabR (w : World) : Prop := TabS w ∧ (∃ m : Int, w.cell? ⟨3, 0, none⟩ = some (.int .i64 m)) ∧ 3 < w.heap.size
theorem TabR.below {w w' : World} (h : TabR w) (hb : Below w.heap.size w w') : TabR w' :=
  ⟨h.1.below hb, by obtain ⟨m, hm⟩ := h.2.1; exact ⟨m, by rw [hb.cell (p := ⟨3, 0, none⟩) h.2.2]; exact hm⟩, Nat.lt_of_lt_of_le h.2.2 hb.size⟩
theorem below_bytes {w w' : World} {s : ByteArray} (h : w' = w ∨ w' = Lib.bytesWorld w 5 s) : Below w.heap.size w w' := by
  rcases h with rfl | rfl
  · exact Below.refl _ _
  · exact Lib.bytesWorld_below _ _ _
theorem guess_q (w : World) (ht : TabR w) :
    Calls Tryd.prog 11 #[.string ⟨[51, 112, 45, 50].toArray⟩] w fun e w' => e = .returned (.tuple #[.float .f64 4604930618986332160, .bool true]) ∧ Below w.heap.size w w' := by
  have hk := q_mk
  obtain ⟨m, hm⟩ := ht.2.1
  have t1 : Lib.trimPrefix [51, 112, 45, 50] [45] = [51, 112, 45, 50] := by decide +kernel
  have t2 : Lib.hasPrefix [51, 112, 45, 50] [45] = false := by decide +kernel
  have t3 : Lib.cut [51, 112, 45, 50] [112] = ([51], [45, 50], true) := by decide +kernel
  have t4 : Lib.parseUintB 64 [51] = .ok 3 := by decide +kernel
  have t5 : Lib.atoiAll [45, 50] = .ok (-2) := by decide +kernel
  go_enter Tryd.func11, Tryd.ntmps11
  go_wp2_with fail
  go_at_call 29
  refine (Tryd.strings_CutPrefix _ _ _).mono ?_
  rintro e w1 ⟨rfl, rfl⟩
  go_wp2_with fail
  go_at_call 33
  refine (Tryd.strings_Cut _ _ m _ (by decide) hm).mono ?_
  rintro e w1 ⟨rfl, n, rfl⟩
  go_wp2_with fail
  go_at_call 34
  refine (Tryd.strconv_ParseUint_10_at64_ok _ (by decide) 3 t4 _).mono ?_
  rintro e w2 ⟨rfl, hw2⟩
  have hb2 := below_bytes hw2
  clear hw2
  go_wp2_with fail
  go_at_call 35
  refine (Tryd.strconv_Atoi_ok _ (by decide) (-2) t5 _).mono ?_
  rintro e w3 ⟨rfl, hw3⟩
  have hb3 : Below w2.heap.size w2 w3 := by
    rcases hw3 with h | ⟨t, h⟩
    · exact below_bytes (s := ⟨#[]⟩) (Or.inl h)
    · exact below_bytes (Or.inr h)
  clear hw3
  have hb2' : Below w1.heap.size w1 w2 := below_drewN (Below.refl _ _) n |>.trans hb2
  have hb : Below w1.heap.size w1 w3 := hb2'.trans (hb3.mono hb2'.size)
  have htt : Tabs w3 := ((ht.below hb).1).1
  have hmk : Calls Tryd.prog 24 #[.bool false, .int .u64 3, .int .i64 (-2)] w3 fun r w' => r = .returned (.tuple #[.float .f64 4604930618986332160, .bool true]) ∧ w3 = w' := by
    have := Make_c false 3 (by decide) (-2) w3 htt
    rw [hk.1, hk.2] at this; exact this
  go_wp2_with fail
  refine hmk.mono ?_
  rintro e w4 ⟨rfl, rfl⟩
  go_wp2
  go_ret2
  exact ⟨rfl, hb⟩
theorem Read_q (w : World) (ht : TabR w) :
    Calls Tryd.prog 5 #[.string ⟨[51, 112, 45, 50].toArray⟩] w fun e w' => e = .returned (.tuple #[.float .f64 4604930618986332160, .int .i64 0]) ∧ Below w.heap.size w w' := by
  have hq := q_text
  go_enter Tryd.func5, Tryd.ntmps5
  go_wp2_with fail
  refine (guess_q _ ht).mono ?_
  rintro e w1 ⟨rfl, hb1⟩
  go_wp2_with fail
  go_at_call 7
  refine (Text_c _ (by decide) _ (ht.below hb1).1).mono ?_
  rintro e w2 ⟨rfl, hb2⟩
  go_wp2
  go_ret2
  exact ⟨rfl, hb1.trans (hb2.mono hb1.size)⟩

theorem l_parts (w : World) (ht : Tabs w) : Calls Tryd.prog 16 #[.float .f64 4618441417868443648] w fun e w' => e = .returned (.tuple #[.bool false, .int .u64 3, .int .i64 1, .bool true]) ∧ w = w' := by
  have := Parts_yes 4618441417868443648 (by decide) six_fin w ht
  rw [six_m, six_e, show sgn 4618441417868443648 = false by decide] at this; exact this
theorem l_make (w : World) (ht : Tabs w) : Calls Tryd.prog 24 #[.bool false, .int .u64 12, .int .i64 (-1)] w fun e w' => e = .returned (.tuple #[.float .f64 4618441417868443648, .bool true]) ∧ w = w' := by
  have := Make_c false 12 (by decide) (-1) w ht
  rw [six_mk.1, six_mk.2] at this; exact this
theorem l_text (w : World) (ht : TabS w) : Calls Tryd.prog 7 #[.float .f64 13841813454723219456] w fun e w' => e = .returned (.string ⟨#[45, 51, 112, 49]⟩) ∧ Below w.heap.size w w' := by
  have := Text_c 13841813454723219456 (by decide) w ht
  rw [msix_text] at this; exact this
theorem l_up (w : World) : Calls Tryd.prog 25 #[.float .f64 4607182418800017408] w fun e w' => e = .returned (.float .f64 4607182418800017409) ∧ w = w' := by
  have := Up_c 4607182418800017408 (by decide) w
  rw [one_up] at this; exact this
theorem l_down (w : World) : Calls Tryd.prog 26 #[.float .f64 4607182418800017408] w fun e w' => e = .returned (.float .f64 4607182418800017407) ∧ w = w' := by
  have := Down_c 4607182418800017408 (by decide) w
  rw [one_down] at this; exact this
theorem l_kind (w : World) : Calls Tryd.prog 27 #[.float .f64 4607182418800017408] w fun e w' => e = .returned (.int .u8 3) ∧ w = w' := by
  have := KindOf_c 4607182418800017408 (by decide) w
  rw [one_kind] at this; exact this
theorem l_order (w : World) : Calls Tryd.prog 28 #[.float .f64 4607182418800017408, .float .f64 4611686018427387904] w fun e w' => e = .returned (.int .i64 (-1)) ∧ w = w' := by
  have := Order_c 4607182418800017408 4611686018427387904 (by decide) (by decide) w
  rw [one_two] at this; exact this
theorem q1 : feqB 4618441417868443648 4618441417868443648 = true := feq_ok (by decide)
theorem q2 : feqB 4604930618986332160 4604930618986332160 = true := feq_ok (by decide)
theorem q3 : fltB 4607182418800017408 4607182418800017409 = true := by unfold fltB; decide +kernel
theorem q4 : fltB 4607182418800017407 4607182418800017408 = true := by unfold fltB; decide +kernel
theorem lives_c (w : World) (ht : TabR w) : Calls Tryd.prog 10 #[] w fun e w' => e = .returned (.bool true) ∧ Below w.heap.size w w' := by
  have h1 := q1
  have h2 := q2
  have h3 := q3
  have h4 := q4
  go_enter Tryd.func10, Tryd.ntmps10
  go_wp2_with fail
  refine (l_parts _ ht.1.1).mono ?_
  rintro e w1 ⟨rfl, rfl⟩
  go_wp2_with fail
  refine (l_make _ ht.1.1).mono ?_
  rintro e w1 ⟨rfl, rfl⟩
  go_wp2_with fail
  refine (Read_q _ ht).mono ?_
  rintro e w2 ⟨rfl, hb2⟩
  go_wp2_with fail
  refine (l_text _ (ht.below hb2).1).mono ?_
  rintro e w3 ⟨rfl, hb3⟩
  go_wp2_with fail
  refine (l_up _).mono ?_
  rintro e w4 ⟨rfl, rfl⟩
  go_wp2_with fail
  refine (l_down _).mono ?_
  rintro e w4 ⟨rfl, rfl⟩
  go_wp2_with fail
  refine (l_kind _).mono ?_
  rintro e w4 ⟨rfl, rfl⟩
  go_wp2_with fail
  refine (l_order _).mono ?_
  rintro e w4 ⟨rfl, rfl⟩
  go_wp2
  go_ret
  exact ⟨rfl, hb2.trans (hb3.mono hb2.size)⟩
end Go.Proofs.YtbmfbmepgcbhfaaDoor
