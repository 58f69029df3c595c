/- Layer 1 (bits): guess and Read of the program at any text. -/
import Derived.Test.YtbmfbmepgcbhfaaDoorTx1
import Derived.Lib.AtoiErrMem
set_option linter.unusedSimpArgs false
set_option linter.unusedVariables false
namespace Go.Proofs.YtbmfbmepgcbhfaaDoor
open Go Go.RowKit Go.Sort Ff
attribute [local go_sem] f_lt f_gt f_eq f_ne

theorem gErrS : Tryd.prog.globalNamed "strconv.ErrSyntax" = some 4 := by kernel_rfl
theorem gErrR : Tryd.prog.globalNamed "strconv.ErrRange" = some 5 := by kernel_rfl
/-- What stands in the worlds of readings that go wrong. -/
def TabE (w : World) : Prop := TabR w ∧ ((∃ te pe, w.var? Tryd.prog "strconv.ErrSyntax" = some #[.iface te pe]) ∧ 4 < w.heap.size) ∧ ((∃ te pe, w.var? Tryd.prog "strconv.ErrRange" = some #[.iface te pe]) ∧ 5 < w.heap.size)
theorem TabE.below {w w' : World} (h : TabE w) (hb : Below w.heap.size w w') : TabE w' := by
  obtain ⟨h1, ⟨⟨te, pe, h4⟩, h5⟩, ⟨tr, pr, h6⟩, h7⟩ := h
  exact ⟨h1.below hb, ⟨⟨te, pe, var?_below hb gErrS h5 h4⟩, Nat.lt_of_lt_of_le h5 hb.size⟩, ⟨⟨tr, pr, var?_below hb gErrR h7 h6⟩, Nat.lt_of_lt_of_le h7 hb.size⟩⟩
theorem BAtoi_any (t : ByteArray) (hz : t.size ≤ 281474976710656) (w : World) (hT : TabE w) : Calls Tryd.prog 35 #[.string t] w fun e w' => (∃ (x : Int) (er : Value), e = .returned (.tuple #[.int .i64 x, er]) ∧ (er = .nilIface ∨ ∃ te pe, er = .iface te pe)) ∧ Below w.heap.size w w' := by
  obtain ⟨h1, ⟨⟨te, pe, h4⟩, h5⟩, ⟨tr, pr, h6⟩, h7⟩ := hT
  rcases hq : Lib.atoiAll t.data.toList with v | _ | _
  · refine (Tryd.strconv_Atoi_ok t (by omega) v hq w).mono ?_
    rintro e w' ⟨rfl, h | ⟨s, h⟩⟩
    · exact ⟨⟨v, _, rfl, Or.inl rfl⟩, below_bytes (s := ⟨#[]⟩) (Or.inl h)⟩
    · exact ⟨⟨v, _, rfl, Or.inl rfl⟩, below_bytes (Or.inr h)⟩
  · refine (Tryd.strconv_Atoi_syntax_var t hz hq te pe w h4).mono ?_
    rintro e w' ⟨N, rfl, _, _, hb⟩
    exact ⟨⟨0, _, rfl, Or.inr ⟨_, _, rfl⟩⟩, hb⟩
  · refine (Tryd.strconv_Atoi_range_var t hz hq tr pr w h6).mono ?_
    rintro e w' ⟨N, rfl, _, _, hb⟩
    exact ⟨⟨_, _, rfl, Or.inr ⟨_, _, rfl⟩⟩, hb⟩
theorem BParse_any (t : ByteArray) (hz : t.size ≤ 281474976710656) (w : World) (hT : TabE w) : Calls Tryd.prog 34 #[.string t, .int .i64 10, .int .i64 64] w fun e w' => (∃ (m : Nat) (er : Value), m < 18446744073709551616 ∧ e = .returned (.tuple #[.int .u64 m, er]) ∧ (er = .nilIface ∨ ∃ te pe, er = .iface te pe)) ∧ Below w.heap.size w w' := by
  obtain ⟨h1, ⟨⟨te, pe, h4⟩, h5⟩, ⟨tr, pr, h6⟩, h7⟩ := hT
  rcases hq : Lib.parseUintB 64 t.data.toList with v | _ | _
  · have hv := Lib.parseUintB_le hq
    refine (Tryd.strconv_ParseUint_10_at64_ok t (by omega) v hq w).mono ?_
    rintro e w' ⟨rfl, h⟩
    exact ⟨⟨v, _, by omega, rfl, Or.inl rfl⟩, below_bytes h⟩
  · refine (Tryd.strconv_ParseUint_10_at64_syntax_var t hz hq te pe w h4).mono ?_
    rintro e w' ⟨N, rfl, _, _, hb⟩
    exact ⟨⟨0, _, by decide, rfl, Or.inr ⟨_, _, rfl⟩⟩, hb⟩
  · refine (Tryd.strconv_ParseUint_10_at64_range_var t hz hq tr pr w h6).mono ?_
    rintro e w' ⟨N, rfl, _, _, hb⟩
    exact ⟨⟨18446744073709551615, _, by decide, rfl, Or.inr ⟨_, _, rfl⟩⟩, hb⟩
theorem cutA_size (c : UInt8) (s : ByteArray) : (cutA c s).size ≤ s.size := by
  unfold cutA
  split
  · rw [ByteArray.size_extract]; have := cutX_le c s; omega
  · exact Nat.le_refl _
theorem cutT_size (c : UInt8) (s : ByteArray) : (cutT c s).size ≤ s.size := by
  unfold cutT
  split
  · rw [ByteArray.size_extract]; omega
  · exact Nat.zero_le _
/-- What guess says of any text: some float, or none. -/
def GsPost (w : World) (e : Ending) (w' : World) : Prop := (∃ (x : Nat) (b : Bool), x < 18446744073709551616 ∧ e = .returned (.tuple #[.float .f64 x, .bool b])) ∧ Below w.heap.size w w'
theorem nanW_big : nanW < 18446744073709551616 := nanW_lt
set_option maxRecDepth 100000 in
set_option maxHeartbeats 1000000 in
theorem guess_any (s : ByteArray) (hz : s.size ≤ 281474976710656) (w : World) (ht : TabE w) :
    Calls Tryd.prog 11 #[.string s] w (GsPost w) := by
  have KP := Tryd.strings_CutPrefix s ⟨#[45]⟩ w
  have hl : (Lib.trimPrefix s.data.toList [45]).length ≤ s.size := by
    unfold Lib.trimPrefix
    have e0 : s.data.toList.length = s.size := rfl
    split
    · rw [List.length_drop]; omega
    · omega
  rw [show (ByteArray.mk #[45]).data.toList = [45] from rfl] at KP
  generalize Lib.trimPrefix s.data.toList [45] = l at *
  generalize Lib.hasPrefix s.data.toList [45] = neg at *
  have KP := Lib.hid KP
  by_cases c1 : l = [110, 97, 110]
  · subst c1
    clear hl hz ht
    have L := Lib.hid nanW_big
    go_enter Tryd.func11, Tryd.ntmps11
    go_wp2_with fail
    refine KP.out.mono ?_
    rintro e w1 ⟨rfl, rfl⟩
    go_wp2_with (go_at_call 12; refine (NaN_c _).mono ?_; rintro e w' ⟨rfl, rfl⟩)
    go_ret2
    exact ⟨⟨_, _, L.out, rfl⟩, Below.refl _ _⟩
  by_cases c2 : l = [105, 110, 102]
  · subst c2
    clear hl hz ht c1
    cases neg
    all_goals
      go_enter Tryd.func11, Tryd.ntmps11
      go_wp2_with fail
      refine KP.out.mono ?_
      rintro e w1 ⟨rfl, rfl⟩
      go_wp2_with (first | (go_at_call 31; refine (btoi_c _ _).mono ?_; rintro e w' ⟨rfl, rfl⟩) | (go_at_call 30; refine (Inf_1 _).mono ?_; rintro e w' ⟨rfl, rfl⟩) | (go_at_call 30; refine (Inf_m1 _).mono ?_; rintro e w' ⟨rfl, rfl⟩))
      go_ret2
      exact ⟨⟨_, _, by decide, rfl⟩, Below.refl _ _⟩
  by_cases c3 : l = [48]
  · subst c3
    clear hl hz ht c1 c2
    have L := Lib.hid (wf_lt (neg := neg) (r := 0) (by decide))
    go_enter Tryd.func11, Tryd.ntmps11
    go_wp2_with fail
    refine KP.out.mono ?_
    rintro e w1 ⟨rfl, rfl⟩
    go_wp2_with (go_at_call 32; refine (signed_b neg 0 (by decide) _).mono ?_; rintro e w' ⟨rfl, rfl⟩)
    go_ret2
    exact ⟨⟨_, _, L.out, rfl⟩, Below.refl _ _⟩
  have t1 : (l == [110, 97, 110]) = false := beq_eq_false_iff_ne.2 c1
  have t2 : (l == [105, 110, 102]) = false := beq_eq_false_iff_ne.2 c2
  have t3 : (l == [48]) = false := beq_eq_false_iff_ne.2 c3
  have hs : (⟨l.toArray⟩ : ByteArray).size ≤ 281474976710656 := by
    show l.toArray.size ≤ _
    rw [List.size_toArray]; omega
  have KC := Lib.hid (fun w => BCut_c 112 ⟨l.toArray⟩ w (by omega))
  have hA := Nat.le_trans (cutA_size 112 ⟨l.toArray⟩) hs
  have hB := Nat.le_trans (cutT_size 112 ⟨l.toArray⟩) hs
  clear c1 c2 c3 hl hz hs
  generalize cutA 112 (⟨l.toArray⟩ : ByteArray) = A at *
  generalize cutT 112 (⟨l.toArray⟩ : ByteArray) = B at *
  generalize cutH 112 (⟨l.toArray⟩ : ByteArray) = has at *
  have HA := Lib.hid hA
  have HB := Lib.hid hB
  have HT := Lib.hid ht
  clear hA hB ht
  go_enter Tryd.func11, Tryd.ntmps11
  go_wp2_with fail
  refine KP.out.mono ?_
  rintro e w1 ⟨rfl, rfl⟩
  go_wp2_with fail
  go_at_call 33
  refine (KC.out _).mono ?_
  rintro e w2 ⟨rfl, hb⟩
  have H1 := Lib.hid hb
  clear hb
  go_wp2_with fail
  go_at_call 34
  refine (BParse_any A HA.out _ (HT.out.below H1.out)).mono ?_
  rintro e w3 ⟨⟨m, er, hm, rfl, hr⟩, hb⟩
  have H2 := Lib.hid (H1.out.trans (hb.mono H1.out.size))
  have HM := Lib.hid hm
  clear hb hm
  go_wp2_with fail
  go_at_call 35
  refine (BAtoi_any B HB.out _ (HT.out.below H2.out)).mono ?_
  rintro e w4 ⟨⟨x, er2, rfl, hr2⟩, hb⟩
  have H3 := Lib.hid (H2.out.trans (hb.mono H2.out.size))
  have KM := Lib.hid (Make_c neg m HM.out x w4 (HT.out.below H3.out).1.1.1)
  have L := Lib.hid (mkF_lt neg m HM.out x)
  clear hb
  rcases hr with rfl | ⟨te, pe, rfl⟩
  · rcases hr2 with rfl | ⟨te, pe, rfl⟩
    · go_wp2_with fail
      refine KM.out.mono ?_
      rintro e w5 ⟨rfl, rfl⟩
      go_wp2
      go_ret2
      exact ⟨⟨_, _, L.out, rfl⟩, H3.out⟩
    · go_wp2_with fail
      go_ret2
      exact ⟨⟨_, _, by decide, rfl⟩, H3.out⟩
  · go_wp2_with fail
    go_ret2
    exact ⟨⟨_, _, by decide, rfl⟩, H3.out⟩
/-- Read at what is no float's text. -/
theorem Read_no (s : ByteArray) (hz : s.size ≤ 281474976710656) (hno : ∀ y, y < 18446744073709551616 → s.data.toList ≠ textF y) (w : World) (ht : TabE w) :
    Calls Tryd.prog 5 #[.string s] w fun e w' => e = .returned (.tuple #[.float .f64 0, .int .i64 10]) ∧ Below w.heap.size w w' := by
  have KG := Lib.hid (guess_any s hz w ht)
  have HT := Lib.hid ht
  have HN := Lib.hid hno
  clear hz hno ht
  go_enter Tryd.func5, Tryd.ntmps5
  go_wp2_with fail
  refine KG.out.mono ?_
  rintro e w1 ⟨⟨x, b, hx, rfl⟩, hb1⟩
  have H1 := Lib.hid hb1
  have HX := Lib.hid hx
  have KT := Lib.hid (Text_c x hx w1 (HT.out.below hb1).1.1)
  have e1 : (textF x == s.toList) = false := by
    rw [Go.ByteArray.toList_eq]; exact beq_eq_false_iff_ne.2 fun c => HN.out x hx c.symm
  have e2 : ¬ textF x = s.toList := beq_eq_false_iff_ne.1 e1
  clear hb1 hx
  cases b
  · go_wp2_with fail
    go_ret2
    exact ⟨rfl, H1.out⟩
  · go_wp2_with fail
    refine KT.out.mono ?_
    rintro e w2 ⟨rfl, hb2⟩
    have H2 := Lib.hid (H1.out.trans (hb2.mono H1.out.size))
    clear hb2
    go_wp2_with fail
    go_ret2
    exact ⟨rfl, H2.out⟩
end Go.Proofs.YtbmfbmepgcbhfaaDoor
