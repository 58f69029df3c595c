/- Layer 1 (bits): Read of the document at any text. -/
import Derived.Test.YtbmfbmepgcbhfaaDoorTx6
set_option linter.unusedSimpArgs false
set_option linter.unusedVariables false
namespace Go.Proofs.YtbmfbmepgcbhfaaDoor
open Go Go.RowKit Go.Sort Ff
attribute [local go_sem] f_lt f_gt f_eq f_ne

set_option maxRecDepth 100000 in
set_option maxHeartbeats 4000000 in
theorem rRead_t (s : ByteArray) (hz : s.size ≤ 9223372036854775807) (hl : ¬ Lit5 s) (hm : mnB s = true) (w : World) (ht : TabS w) : Calls Tryd.prog 6 #[.string s] w (RdPost s w) := by
  have y0 : ¬ s.toList = [110, 97, 110] := by rw [Go.ByteArray.toList_eq]; exact fun c => hl (Or.inl c)
  have z0 : (s.toList == [110, 97, 110]) = false := beq_eq_false_iff_ne.2 y0
  have y1 : ¬ s.toList = [105, 110, 102] := by rw [Go.ByteArray.toList_eq]; exact fun c => hl (Or.inr (Or.inl c))
  have z1 : (s.toList == [105, 110, 102]) = false := beq_eq_false_iff_ne.2 y1
  have y2 : ¬ s.toList = [45, 105, 110, 102] := by rw [Go.ByteArray.toList_eq]; exact fun c => hl (Or.inr (Or.inr (Or.inl c)))
  have z2 : (s.toList == [45, 105, 110, 102]) = false := beq_eq_false_iff_ne.2 y2
  have y3 : ¬ s.toList = [48] := by rw [Go.ByteArray.toList_eq]; exact fun c => hl (Or.inr (Or.inr (Or.inr (Or.inl c))))
  have z3 : (s.toList == [48]) = false := beq_eq_false_iff_ne.2 y3
  have y4 : ¬ s.toList = [45, 48] := by rw [Go.ByteArray.toList_eq]; exact fun c => hl (Or.inr (Or.inr (Or.inr (Or.inr (c)))))
  have z4 : (s.toList == [45, 48]) = false := beq_eq_false_iff_ne.2 y4
  have hno := noT_of hl
  unfold rdM rdE at hno
  obtain ⟨hp, h45⟩ := mnB_iff.1 hm
  rw [off_t hm, hm] at hno
  have hpI : (0 : Int) < (s.size : Int) := by omega
  have q5 : (s[0].toNat : Int) = 45 := by rw [h45]; rfl
  have q0 : ((s[0].toNat : Int) == 45) = true := beq_iff_eq.2 q5
  have r1 : ∀ w, (Instr.slice 9 (.string s) (some (.int .i64 1)) none none).run Tryd.prog w = .ok (.string (s.extract 1 s.size)) w := fun w => by
    have h := run_slice_string_l (P := Tryd.prog) w 9 s Tryd.underlying9 .i64 1 (by omega) (by omega)
    rwa [show (1 : Int).toNat = 1 by rfl] at h
  have hzt : (s.extract 1 s.size).size ≤ 9223372036854775807 := by rw [ByteArray.size_extract]; omega
  generalize s.extract 1 s.size = t at *
  have hX := cutX_le 112 t
  have hG := cutX_get 112 t
  have hA : cutX 112 t < t.size → cutA 112 t = t.extract 0 (cutX 112 t) := fun h => by unfold cutA; rw [if_pos (cutH_iff.2 h)]
  have hB : cutX 112 t < t.size → cutT 112 t = t.extract (cutX 112 t + 1) t.size := fun h => by unfold cutT; rw [if_pos (cutH_iff.2 h)]
  generalize cutX 112 t = X at *
  generalize cutA 112 t = A at *
  generalize cutT 112 t = B at *
  clear hl hm h45 q5
  go_enter Tryd.func6, Tryd.ntmps6
  go_wp2
  go_loop [6] (fun i => ∃ k : Nat, k ≤ X ∧ i = .int .i64 k) (fun i => t.size - (intOf i).toNat)
  case atStart => exact ⟨0, Nat.zero_le _, rfl⟩
  case round =>
    obtain ⟨k, hk, rfl⟩ := hrel
    by_cases c1 : k < X
    · have hkt : k < t.size := by omega
      have q1 : ¬ (t[k].toNat : Int) = 112 := fun c => (hG k hkt).1 c1 (UInt8.toNat.inj (by have e : (112 : UInt8).toNat = 112 := rfl; rw [e]; omega))
      have q2 : ((t[k].toNat : Int) == 112) = false := beq_eq_false_iff_ne.2 q1
      have q3 : ((t[k].toNat : Int) != 112) = true := by rw [bne, q2]; rfl
      clear hG hno hA hB
      go_wp2
      go_round
      case rel => exact ⟨k + 1, by omega, by go_num⟩
      case measure => simp [intOf]; omega
    · obtain rfl : k = X := by omega
      by_cases c2 : k < t.size
      · have q1 : (t[k].toNat : Int) = 112 := by rw [(hG k c2).2 rfl]; rfl
        have q2 : ((t[k].toNat : Int) == 112) = true := beq_iff_eq.2 q1
        have q3 : ((t[k].toNat : Int) != 112) = false := by rw [bne, q2]; rfl
        have r2 : ∀ w, (Instr.slice 9 (.string t) (some (.int .i64 ((k : Int) + 1))) none none).run Tryd.prog w = .ok (.string B) w := fun w => by
          have h := run_slice_string_l (P := Tryd.prog) w 9 t Tryd.underlying9 .i64 ((k : Int) + 1) (by omega) (by omega)
          rw [hB c2]
          rwa [show ((k : Int) + 1).toNat = k + 1 by omega] at h
        have r3 : ∀ w, (Instr.slice 9 (.string t) none (some (.int .i64 (k : Int))) none).run Tryd.prog w = .ok (.string A) w := fun w => by
          have h := run_slice_string_h (P := Tryd.prog) w 9 t Tryd.underlying9 .i64 (k : Int) (by omega) (by omega)
          rw [hA c2]
          rwa [Int.toNat_natCast] at h
        have hzA : A.size ≤ 9223372036854775807 := by rw [hA c2, ByteArray.size_extract]; omega
        have hzB : B.size ≤ 9223372036854775807 := by rw [hB c2, ByteArray.size_extract]; omega
        have q4 : ((k : Int) == (t.size : Int)) = false := beq_eq_false_iff_ne.2 (by omega)
        have KA := Lib.hid (rWhole_c A hzA)
        have HM := Lib.hid (wh_lt A.data.toList)
        have HC := Lib.hid c2
        clear hG hA hB q1
        generalize whN A.data.toList = m at *
        generalize whB A.data.toList = o1 at *
        cases hb : mnB B with
        | true =>
          rw [hb, off_t hb] at hno
          obtain ⟨hpB, hB0⟩ := mnB_iff.1 hb
          have p1 : (0 : Int) < (B.size : Int) := by omega
          have p2 : (B[0].toNat : Int) = 45 := by rw [hB0]; rfl
          have p3 : ((B[0].toNat : Int) == 45) = true := beq_iff_eq.2 p2
          have r4 : ∀ w, (Instr.slice 9 (.string B) (some (.int .i64 1)) none none).run Tryd.prog w = .ok (.string (B.extract 1 B.size)) w := fun w => by
            have h := run_slice_string_l (P := Tryd.prog) w 9 B Tryd.underlying9 .i64 1 (by omega) (by omega)
            rwa [show (1 : Int).toNat = 1 by rfl] at h
          have hzC : (B.extract 1 B.size).size ≤ 9223372036854775807 := by rw [ByteArray.size_extract]; omega
          generalize B.extract 1 B.size = C at *
          have KC := Lib.hid (rWhole_c C hzC)
          have HE := Lib.hid (wh_lt C.data.toList)
          generalize whN C.data.toList = e at *
          generalize whB C.data.toList = o2 at *
          rw [if_pos rfl] at hno
          have HQ : Hid (¬ (o1 = true ∧ o2 = true ∧ mkB m (-(min (e : Int) 1099511627776)) = true ∧ textF (mkF true m (-(min (e : Int) 1099511627776))) = s.data.toList) → NoT s) := Lib.hid (fun h => hno (fun c => h c.2))
          clear hno hb hB0 p2 hzC
          cases o1 with
          | false =>
            go_wp2_with (first | (go_at_call 14; (with_reducible refine (KA.out _).mono ?_); rintro ee w' ⟨rfl, rfl⟩) | (go_at_call 14; (with_reducible refine (KC.out _).mono ?_); rintro ee w' ⟨rfl, rfl⟩))
            go_ret2
            exact ⟨Or.inr ⟨HQ.out (fun c => absurd c.1 (by decide)), rfl⟩, Below.refl _ _⟩
          | true =>
            cases o2 with
            | false =>
              go_wp2_with (first | (go_at_call 14; (with_reducible refine (KA.out _).mono ?_); rintro ee w' ⟨rfl, rfl⟩) | (go_at_call 14; (with_reducible refine (KC.out _).mono ?_); rintro ee w' ⟨rfl, rfl⟩))
              go_ret2
              exact ⟨Or.inr ⟨HQ.out (fun c => absurd c.2.1 (by decide)), rfl⟩, Below.refl _ _⟩
            | true =>
              have KK := Lib.hid (rMake_c true m HM.out (-(min (e : Int) 1099511627776)))
              cases hmk : mkB m (-(min (e : Int) 1099511627776)) with
              | false =>
                have HN := Lib.hid (HQ.out (fun c => absurd (hmk.symm.trans c.2.2.1) (by decide)))
                rw [hmk] at KK
                clear HQ hmk
                go_wp2_with (first | (go_at_call 14; (with_reducible refine (KA.out _).mono ?_); rintro ee w' ⟨rfl, rfl⟩) | (go_at_call 14; (with_reducible refine (KC.out _).mono ?_); rintro ee w' ⟨rfl, rfl⟩) | (go_at_call 15; (with_reducible refine (KK.out _).mono ?_); rintro ee w' ⟨rfl, rfl⟩))
                go_ret2
                exact ⟨Or.inr ⟨HN.out, rfl⟩, Below.refl _ _⟩
              | true =>
                have hx := mkF_lt true m HM.out (-(min (e : Int) 1099511627776))
                have KT := Lib.hid (rText_c (mkF true m (-(min (e : Int) 1099511627776))) hx w ht)
                rw [hmk] at KK HQ
                clear hmk
                generalize mkF true m (-(min (e : Int) 1099511627776)) = x at *
                have HX := Lib.hid hx
                clear hx
                by_cases hte : textF x = s.data.toList
                · have HT := Lib.hid hte
                  have e2 : textF x = s.toList := by rw [Go.ByteArray.toList_eq]; exact hte
                  have e1 : (textF x == s.toList) = true := beq_iff_eq.2 e2
                  have e3 : (textF x != s.toList) = false := by rw [bne, e1]; rfl
                  clear hte HQ
                  go_wp2_with (first | (go_at_call 14; (with_reducible refine (KA.out _).mono ?_); rintro ee w' ⟨rfl, rfl⟩) | (go_at_call 14; (with_reducible refine (KC.out _).mono ?_); rintro ee w' ⟨rfl, rfl⟩) | (go_at_call 15; (with_reducible refine (KK.out _).mono ?_); rintro ee w' ⟨rfl, rfl⟩) | (go_at_call 8; (with_reducible refine KT.out.mono ?_); rintro ee w1 ⟨rfl, hb1⟩))
                  go_ret2
                  exact ⟨Or.inl ⟨x, HX.out, HT.out, rfl⟩, hb1⟩
                · have HN := Lib.hid (HQ.out (fun c => hte c.2.2.2))
                  have e2 : ¬ textF x = s.toList := by rw [Go.ByteArray.toList_eq]; exact hte
                  have e1 : (textF x == s.toList) = false := beq_eq_false_iff_ne.2 e2
                  have e3 : (textF x != s.toList) = true := by rw [bne, e1]; rfl
                  clear hte HQ
                  go_wp2_with (first | (go_at_call 14; (with_reducible refine (KA.out _).mono ?_); rintro ee w' ⟨rfl, rfl⟩) | (go_at_call 14; (with_reducible refine (KC.out _).mono ?_); rintro ee w' ⟨rfl, rfl⟩) | (go_at_call 15; (with_reducible refine (KK.out _).mono ?_); rintro ee w' ⟨rfl, rfl⟩) | (go_at_call 8; (with_reducible refine KT.out.mono ?_); rintro ee w1 ⟨rfl, hb1⟩))
                  go_ret2
                  exact ⟨Or.inr ⟨HN.out, rfl⟩, hb1⟩
        | false =>
          rw [hb, off_f hb] at hno
          have KC := Lib.hid (rWhole_c B hzB)
          have HE := Lib.hid (wh_lt B.data.toList)
          generalize whN B.data.toList = e at *
          generalize whB B.data.toList = o2 at *
          rw [if_neg Bool.false_ne_true] at hno
          have HQ : Hid (¬ (o1 = true ∧ o2 = true ∧ mkB m (min (e : Int) 1099511627776) = true ∧ textF (mkF true m (min (e : Int) 1099511627776)) = s.data.toList) → NoT s) := Lib.hid (fun h => hno (fun c => h c.2))
          have hd : B.size = 0 ∨ ∃ h : 0 < B.size, (B[0].toNat : Int) ≠ 45 := by
            rcases Nat.eq_zero_or_pos B.size with h | h
            · exact Or.inl h
            · refine Or.inr ⟨h, fun c => ?_⟩
              have : mnB B = true := mnB_iff.2 ⟨h, UInt8.toNat.inj (by have e : (45 : UInt8).toNat = 45 := rfl; rw [e]; omega)⟩
              rw [hb] at this; exact absurd this (by decide)
          clear hno hb
          rcases hd with hp0 | ⟨hp0, p2⟩
          · have p1 : ¬ (0 : Int) < (B.size : Int) := by omega
            cases o1 with
            | false =>
              go_wp2_with (first | (go_at_call 14; (with_reducible refine (KA.out _).mono ?_); rintro ee w' ⟨rfl, rfl⟩) | (go_at_call 14; (with_reducible refine (KC.out _).mono ?_); rintro ee w' ⟨rfl, rfl⟩))
              go_ret2
              exact ⟨Or.inr ⟨HQ.out (fun c => absurd c.1 (by decide)), rfl⟩, Below.refl _ _⟩
            | true =>
              cases o2 with
              | false =>
                go_wp2_with (first | (go_at_call 14; (with_reducible refine (KA.out _).mono ?_); rintro ee w' ⟨rfl, rfl⟩) | (go_at_call 14; (with_reducible refine (KC.out _).mono ?_); rintro ee w' ⟨rfl, rfl⟩))
                go_ret2
                exact ⟨Or.inr ⟨HQ.out (fun c => absurd c.2.1 (by decide)), rfl⟩, Below.refl _ _⟩
              | true =>
                have KK := Lib.hid (rMake_c true m HM.out (min (e : Int) 1099511627776))
                cases hmk : mkB m (min (e : Int) 1099511627776) with
                | false =>
                  have HN := Lib.hid (HQ.out (fun c => absurd (hmk.symm.trans c.2.2.1) (by decide)))
                  rw [hmk] at KK
                  clear HQ hmk
                  go_wp2_with (first | (go_at_call 14; (with_reducible refine (KA.out _).mono ?_); rintro ee w' ⟨rfl, rfl⟩) | (go_at_call 14; (with_reducible refine (KC.out _).mono ?_); rintro ee w' ⟨rfl, rfl⟩) | (go_at_call 15; (with_reducible refine (KK.out _).mono ?_); rintro ee w' ⟨rfl, rfl⟩))
                  go_ret2
                  exact ⟨Or.inr ⟨HN.out, rfl⟩, Below.refl _ _⟩
                | true =>
                  have hx := mkF_lt true m HM.out (min (e : Int) 1099511627776)
                  have KT := Lib.hid (rText_c (mkF true m (min (e : Int) 1099511627776)) hx w ht)
                  rw [hmk] at KK HQ
                  clear hmk
                  generalize mkF true m (min (e : Int) 1099511627776) = x at *
                  have HX := Lib.hid hx
                  clear hx
                  by_cases hte : textF x = s.data.toList
                  · have HT := Lib.hid hte
                    have e2 : textF x = s.toList := by rw [Go.ByteArray.toList_eq]; exact hte
                    have e1 : (textF x == s.toList) = true := beq_iff_eq.2 e2
                    have e3 : (textF x != s.toList) = false := by rw [bne, e1]; rfl
                    clear hte HQ
                    go_wp2_with (first | (go_at_call 14; (with_reducible refine (KA.out _).mono ?_); rintro ee w' ⟨rfl, rfl⟩) | (go_at_call 14; (with_reducible refine (KC.out _).mono ?_); rintro ee w' ⟨rfl, rfl⟩) | (go_at_call 15; (with_reducible refine (KK.out _).mono ?_); rintro ee w' ⟨rfl, rfl⟩) | (go_at_call 8; (with_reducible refine KT.out.mono ?_); rintro ee w1 ⟨rfl, hb1⟩))
                    go_ret2
                    exact ⟨Or.inl ⟨x, HX.out, HT.out, rfl⟩, hb1⟩
                  · have HN := Lib.hid (HQ.out (fun c => hte c.2.2.2))
                    have e2 : ¬ textF x = s.toList := by rw [Go.ByteArray.toList_eq]; exact hte
                    have e1 : (textF x == s.toList) = false := beq_eq_false_iff_ne.2 e2
                    have e3 : (textF x != s.toList) = true := by rw [bne, e1]; rfl
                    clear hte HQ
                    go_wp2_with (first | (go_at_call 14; (with_reducible refine (KA.out _).mono ?_); rintro ee w' ⟨rfl, rfl⟩) | (go_at_call 14; (with_reducible refine (KC.out _).mono ?_); rintro ee w' ⟨rfl, rfl⟩) | (go_at_call 15; (with_reducible refine (KK.out _).mono ?_); rintro ee w' ⟨rfl, rfl⟩) | (go_at_call 8; (with_reducible refine KT.out.mono ?_); rintro ee w1 ⟨rfl, hb1⟩))
                    go_ret2
                    exact ⟨Or.inr ⟨HN.out, rfl⟩, hb1⟩
          · have p1 : (0 : Int) < (B.size : Int) := by omega
            have p3 : ((B[0].toNat : Int) == 45) = false := beq_eq_false_iff_ne.2 p2
            cases o1 with
            | false =>
              go_wp2_with (first | (go_at_call 14; (with_reducible refine (KA.out _).mono ?_); rintro ee w' ⟨rfl, rfl⟩) | (go_at_call 14; (with_reducible refine (KC.out _).mono ?_); rintro ee w' ⟨rfl, rfl⟩))
              go_ret2
              exact ⟨Or.inr ⟨HQ.out (fun c => absurd c.1 (by decide)), rfl⟩, Below.refl _ _⟩
            | true =>
              cases o2 with
              | false =>
                go_wp2_with (first | (go_at_call 14; (with_reducible refine (KA.out _).mono ?_); rintro ee w' ⟨rfl, rfl⟩) | (go_at_call 14; (with_reducible refine (KC.out _).mono ?_); rintro ee w' ⟨rfl, rfl⟩))
                go_ret2
                exact ⟨Or.inr ⟨HQ.out (fun c => absurd c.2.1 (by decide)), rfl⟩, Below.refl _ _⟩
              | true =>
                have KK := Lib.hid (rMake_c true m HM.out (min (e : Int) 1099511627776))
                cases hmk : mkB m (min (e : Int) 1099511627776) with
                | false =>
                  have HN := Lib.hid (HQ.out (fun c => absurd (hmk.symm.trans c.2.2.1) (by decide)))
                  rw [hmk] at KK
                  clear HQ hmk
                  go_wp2_with (first | (go_at_call 14; (with_reducible refine (KA.out _).mono ?_); rintro ee w' ⟨rfl, rfl⟩) | (go_at_call 14; (with_reducible refine (KC.out _).mono ?_); rintro ee w' ⟨rfl, rfl⟩) | (go_at_call 15; (with_reducible refine (KK.out _).mono ?_); rintro ee w' ⟨rfl, rfl⟩))
                  go_ret2
                  exact ⟨Or.inr ⟨HN.out, rfl⟩, Below.refl _ _⟩
                | true =>
                  have hx := mkF_lt true m HM.out (min (e : Int) 1099511627776)
                  have KT := Lib.hid (rText_c (mkF true m (min (e : Int) 1099511627776)) hx w ht)
                  rw [hmk] at KK HQ
                  clear hmk
                  generalize mkF true m (min (e : Int) 1099511627776) = x at *
                  have HX := Lib.hid hx
                  clear hx
                  by_cases hte : textF x = s.data.toList
                  · have HT := Lib.hid hte
                    have e2 : textF x = s.toList := by rw [Go.ByteArray.toList_eq]; exact hte
                    have e1 : (textF x == s.toList) = true := beq_iff_eq.2 e2
                    have e3 : (textF x != s.toList) = false := by rw [bne, e1]; rfl
                    clear hte HQ
                    go_wp2_with (first | (go_at_call 14; (with_reducible refine (KA.out _).mono ?_); rintro ee w' ⟨rfl, rfl⟩) | (go_at_call 14; (with_reducible refine (KC.out _).mono ?_); rintro ee w' ⟨rfl, rfl⟩) | (go_at_call 15; (with_reducible refine (KK.out _).mono ?_); rintro ee w' ⟨rfl, rfl⟩) | (go_at_call 8; (with_reducible refine KT.out.mono ?_); rintro ee w1 ⟨rfl, hb1⟩))
                    go_ret2
                    exact ⟨Or.inl ⟨x, HX.out, HT.out, rfl⟩, hb1⟩
                  · have HN := Lib.hid (HQ.out (fun c => hte c.2.2.2))
                    have e2 : ¬ textF x = s.toList := by rw [Go.ByteArray.toList_eq]; exact hte
                    have e1 : (textF x == s.toList) = false := beq_eq_false_iff_ne.2 e2
                    have e3 : (textF x != s.toList) = true := by rw [bne, e1]; rfl
                    clear hte HQ
                    go_wp2_with (first | (go_at_call 14; (with_reducible refine (KA.out _).mono ?_); rintro ee w' ⟨rfl, rfl⟩) | (go_at_call 14; (with_reducible refine (KC.out _).mono ?_); rintro ee w' ⟨rfl, rfl⟩) | (go_at_call 15; (with_reducible refine (KK.out _).mono ?_); rintro ee w' ⟨rfl, rfl⟩) | (go_at_call 8; (with_reducible refine KT.out.mono ?_); rintro ee w1 ⟨rfl, hb1⟩))
                    go_ret2
                    exact ⟨Or.inr ⟨HN.out, rfl⟩, hb1⟩
      · obtain rfl : k = t.size := by omega
        have H := Lib.hid (hno (fun c => c2 c.1))
        have q4 : ((t.size : Int) == (t.size : Int)) = true := beq_iff_eq.2 rfl
        clear hG hno hA hB
        go_wp2
        go_ret2
        exact ⟨Or.inr ⟨H.out, rfl⟩, Below.refl _ _⟩
theorem rRead_c (s : ByteArray) (hz : s.size ≤ 9223372036854775807) (w : World) (ht : TabS w) : Calls Tryd.prog 6 #[.string s] w (RdPost s w) := by
  by_cases hl : Lit5 s
  · rcases hl with h | h | h | h | h
    · rw [mk_ba s, h]; exact rRead_nan w
    · rw [mk_ba s, h]; exact rRead_inf w
    · rw [mk_ba s, h]; exact rRead_minf w
    · rw [mk_ba s, h]; exact rRead_zero w
    · rw [mk_ba s, h]; exact rRead_mzero w
  · cases hm : mnB s with
    | true => exact rRead_t s hz hl hm w ht
    | false => exact rRead_f s hz hl hm w ht
end Go.Proofs.YtbmfbmepgcbhfaaDoor
