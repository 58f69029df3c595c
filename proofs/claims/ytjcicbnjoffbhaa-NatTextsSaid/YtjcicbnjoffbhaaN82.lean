/- The law NatTexts. -/
import Derived.Test.YtjcicbnjoffbhaaN80
import Derived.Test.YtjcicbnjoffbhaaN81
import Derived.Test.YtjcicbnjoffbhaaN47
set_option linter.unusedSimpArgs false
set_option linter.unusedVariables false
namespace Go.Proofs.Ytjcicbnjoffbhaa
open Go Go.RowKit Nt

theorem refused1t (s : ByteArray) (hz : s.size ≤ 9223372036854775807) (w : World) :
    Calls Try.prog 22 #[.slice (some ⟨w.heap.size, 0, none⟩) 1 1] (w.alloc (.cells #[.string s] 22)) (fun e w' => e = .returned (.bool (refB [s])) ∧ Below w.heap.size w w') := by
  refine (refused_c (some ⟨w.heap.size, 0, none⟩) 1 [s] (w.alloc (.cells ([s].map Value.string).toArray 22)) (by simp) (by simpa using hz) (strs_new w 22 [s])).mono ?_
  rintro e w' ⟨rfl, rfl⟩
  exact ⟨rfl, (Below.refl _ _).alloc (Nat.le_refl _) _⟩
theorem rRead_no (s : ByteArray) (w : World) (hs : s.size ≤ 9223372036854775807) (hv : ¬ Valid s) : Calls Try.prog 56 #[.string s] w (StrPost ⟨#[]⟩ 22 w) := by
  by_cases h0 : s.size = 0
  · exact rRead_empty s w h0
  · have hp : 0 < s.size := by omega
    by_cases hn : 1 < s.size ∧ ∀ h : 0 < s.size, s[0].toNat = 48
    · exact rRead_nought s w hn.1 (hn.2 hp) hs
    · exact rRead_bad s w hs hp hn (fun hd => hv ⟨hp, hd, hn⟩)
theorem rRead_c (s : ByteArray) (w : World) (hs : s.size ≤ 9223372036854775807) (hv : Valid s) : Calls Try.prog 56 #[.string s] w (StrPost (resS (preV s s.size)) (resE (preV s s.size)) w) :=
  rRead_ok s w hs hv (fun hl => long_dec hv.2.1 hv.1 (fun c => hv.2.2 ⟨by omega, fun _ => c⟩) hl)
theorem rText_any (n : Nat) (w : World) (hn : nd 256 n ≤ 16384) : Calls Try.prog 54 #[.string (natS n)] w (fun e w' => e = .returned (.string (decS n)) ∧ Below w.heap.size w w') := by
  by_cases h : n = 0
  · subst h; exact rText_zero w
  · exact rText_c n w hn h
/-- Both readings say the same. -/
theorem reads_alike (s : ByteArray) (hs : s.size ≤ 9223372036854775807) : ∃ (X : ByteArray) (Y : Int), (Y = 0 ∨ Y = 4 ∨ Y = 22) ∧ (∀ w : World, Calls Try.prog 55 #[.string s] w (StrPost X Y w)) ∧ (∀ w : World, Calls Try.prog 56 #[.string s] w (StrPost X Y w)) := by
  by_cases hv : Valid s
  · refine ⟨_, _, ?_, fun w => NRead_c s w hs hv, fun w => rRead_c s w hs hv⟩
    by_cases hf : fits (preV s s.size)
    · exact Or.inl (resE_ok hf)
    · exact Or.inr (Or.inl (resE_no hf))
  · exact ⟨_, _, Or.inr (Or.inr rfl), fun w => NRead_no s w hs hv, fun w => rRead_no s w hs hv⟩
set_option maxRecDepth 100000 in
set_option maxHeartbeats 4000000 in
theorem texts_end (a s t X : ByteArray) (Y e0 : Int) (B : Bool) (hY : Y = 0 ∨ Y = 4 ∨ Y = 22)
    (KT : ∀ w : World, Calls Try.prog 53 #[.string a] w (StrPost t e0 w))
    (hr : ∀ w : World, Calls Try.prog 22 #[.slice (some ⟨w.heap.size, 0, none⟩) 1 1] (w.alloc (.cells #[.string a] 22)) (fun e w' => e = .returned (.bool B) ∧ Below w.heap.size w w'))
    (hcase : (B = true ∧ t = ⟨#[]⟩ ∧ e0 = 2) ∨ (B = false ∧ 1200 < a.size) ∨ (B = false ∧ ¬ 1200 < a.size ∧ e0 = 0 ∧ ∀ w : World, Calls Try.prog 54 #[.string a] w (fun e w' => e = .returned (.string t) ∧ Below w.heap.size w w')))
    (KR : ∀ w : World, Calls Try.prog 55 #[.string s] w (StrPost X Y w))
    (KRr : ∀ w : World, Calls Try.prog 56 #[.string s] w (StrPost X Y w)) (w : World) :
    Calls Try.prog 12 #[.string a, .string s] w fun e w' => e = .returned (.bool true) ∧ Below w.heap.size w w' := by
  have HT := Lib.hid KT
  have HR := Lib.hid hr
  have HK := Lib.hid KR
  have HKr := Lib.hid KRr
  obtain ⟨A, hA⟩ : ∃ A, a.size = A := ⟨_, rfl⟩
  obtain ⟨Z, hZ⟩ : ∃ Z, s.size = Z := ⟨_, rfl⟩
  rw [hA] at hcase
  clear KT hr KR KRr
  have hlen : (3600 < Z ∧ Z ≤ 49152 ∧ (3600 : Int) < (Z : Int) ∧ (Z : Int) ≤ 49152) ∨ (3600 < Z ∧ ¬ Z ≤ 49152 ∧ (3600 : Int) < (Z : Int) ∧ ¬ (Z : Int) ≤ 49152) ∨ (¬ 3600 < Z ∧ ¬ (3600 : Int) < (Z : Int)) := by
    by_cases c1 : 3600 < Z
    · by_cases c2 : Z ≤ 49152
      · exact Or.inl ⟨c1, c2, by omega, by omega⟩
      · exact Or.inr (Or.inl ⟨c1, c2, by omega, by omega⟩)
    · exact Or.inr (Or.inr ⟨c1, by omega⟩)
  rcases hcase with ⟨rfl, rfl, rfl⟩ | ⟨rfl, hlong⟩ | ⟨rfl, hshort, rfl, KX⟩
  rotate_left 1
  have hl2 : ¬ (A : Int) ≤ 1200 := by omega
  have hl3 : ¬ A ≤ 1200 := by omega
  rotate_left 1
  have HX := Lib.hid KX
  have hl2 : (A : Int) ≤ 1200 := by omega
  have hl3 : A ≤ 1200 := by omega
  clear KX
  rotate_left 1
  all_goals
    rcases hlen with ⟨h1, h2, h3, h4⟩ | ⟨h1, h2, h3, h4⟩ | ⟨h1, h3⟩
  all_goals
    go_enter Try.func12, Try.ntmps12
    go_wp2_with fail
    refine (HT.out _).mono ?_
    rintro e w1 ⟨rfl, hb1⟩
    go_wp2_with fail
    refine (HR.out _).mono ?_
    rintro e w2 ⟨rfl, hb2⟩
    have hbw := below_chain hb1 hb2
    clear hb1 hb2
    go_wp2_with fail
    try (refine (HX.out _).mono ?_; rintro e w3 ⟨rfl, hb3⟩; have hbw' := below_chain hbw hb3; clear hbw hb3; have hbw := hbw'; clear hbw'; go_wp2_with fail)
    try (refine (HK.out _).mono ?_; rintro e w4 ⟨rfl, hb4⟩; go_wp2_with fail; refine (HKr.out _).mono ?_; rintro e w5 ⟨rfl, hb5⟩; have hbw' := below_chain hbw (below_chain hb4 hb5); clear hbw hb4 hb5; have hbw := hbw'; clear hbw'; rcases hY with rfl | rfl | rfl)
  all_goals
    try go_wp2_with fail
    refine (awake_c _).mono ?_
    rintro e w6 ⟨rfl, hb6⟩
    go_wp2_with fail
    go_ret
    exact ⟨rfl, below_chain hbw hb6⟩
theorem NatTexts_law (a s : ByteArray) (ha : a.size ≤ maxLen) (hs : s.size ≤ maxLen) (w : World) :
    Calls Try.prog 12 #[.string a, .string s] w fun e w' => e = .returned (.bool true) ∧ Below w.heap.size w w' := by
  unfold maxLen at ha hs
  obtain ⟨X, Y, hY, KR, KRr⟩ := reads_alike s (by omega)
  have hr := fun w => refused1t a (by omega) w
  by_cases hm : May a
  · have e : refB [a] = false := refB_no (fun x hx => by rw [List.mem_singleton.1 hx]; exact hm)
    rw [e] at hr
    obtain ⟨n, hn, rfl⟩ := may_num hm
    have hsz := natS_size n
    refine texts_end _ s _ X Y _ _ hY (fun w => NText_any n w hn) hr (Or.inr ?_) KR KRr w
    by_cases hl : 1200 < (natS n).size
    · exact Or.inl ⟨rfl, hl⟩
    · exact Or.inr ⟨rfl, hl, rfl, fun w => rText_any n w hn⟩
  · have e : refB [a] = true := refB_yes (by simp) hm
    rw [e] at hr
    exact texts_end _ s _ X Y _ _ hY (fun w => NText_no a w hm) hr (Or.inl ⟨rfl, rfl, rfl⟩) KR KRr w
end Go.Proofs.Ytjcicbnjoffbhaa
