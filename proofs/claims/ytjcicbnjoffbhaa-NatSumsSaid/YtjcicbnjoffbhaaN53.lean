/- The law NatSums: its walk. -/
import Derived.Test.YtjcicbnjoffbhaaN52
set_option linter.unusedSimpArgs false
set_option linter.unusedVariables false
namespace Go.Proofs.Ytjcicbnjoffbhaa
open Go Go.RowKit Nt

def mk4 : ByteArray := ⟨#[109, 97, 114, 107]⟩
/-- What the list's part of the law hangs on. -/
structure SumsL (ss : List ByteArray) (t : ByteArray) (g : Int) : Prop where
  sum : ∀ (A : Option Addr) (c : Nat) (w : World), Strs w A ss → (∀ ad, A = some ad → ad.block < w.heap.size) → Calls Try.prog 36 #[.slice A ss.length c] w (StrPost t g w)
  ref : (refB ss = true ∧ t = ⟨#[]⟩ ∧ g = 2) ∨ (refB ss = false ∧ ∀ (A : Option Addr) (c : Nat) (w : World), Strs w A ss → (∀ ad, A = some ad → ad.block < w.heap.size) → Calls Try.prog 40 #[.slice A ss.length c] w (StrPost t g w))
theorem sumsL (ss : List ByteArray) (hl : ss.length ≤ 140737488355328) : ∃ t g, SumsL ss t g := by
  by_cases h : ∀ s ∈ ss, May s
  · obtain ⟨l, hf, rfl⟩ := may_nums h
    have hl2 : l.length ≤ 140737488355328 := by rwa [List.length_map] at hl
    refine ⟨resS l.sum, resE l.sum, ⟨fun A c w hs hA => ?_, Or.inr ⟨refB_no h, fun A c w hs hA => ?_⟩⟩⟩
    · rw [List.length_map]; exact Sum_c A c l w hl2 hf hs hA
    · rw [List.length_map]; exact rSum_c A c l w hl2 hf hs hA
  · have hn : ∃ s ∈ ss, ¬ May s := by
      by_cases c : ∃ s ∈ ss, ¬ May s
      · exact c
      · exact absurd (fun s hs => by
          by_cases d : May s
          · exact d
          · exact absurd ⟨s, hs, d⟩ c) h
    refine ⟨⟨#[]⟩, 2, ⟨fun A c w hs _ => Sum_no A c ss w (by omega) hn hs, Or.inl ⟨?_, rfl, rfl⟩⟩⟩
    obtain ⟨s, h1, h2⟩ := hn
    exact refB_yes h1 h2
set_option maxRecDepth 1000000 in
set_option maxHeartbeats 4000000 in
theorem sums_walk (S T s d t : ByteArray) (r q g : Int) (ss : List ByteArray) (A : Option Addr) (c : Nat) (w : World) (n : Nat) (hn : n = ss.length)
    (hn2 : n ≤ 8796093022080) (hAn : A = none → ss = [] ∧ c = 0) (hstr : Strs w A ss) (hA : 0 < ss.length → ∀ ad, A = some ad → ad.block < w.heap.size) (hsz : ∀ s ∈ ss, s.size ≤ 9223372036854775807)
    (H1 : ∀ w, Calls Try.prog 34 #[.string S, .string T] w (StrPost s r w))
    (H2 : ∀ w, Calls Try.prog 35 #[.string S, .string T] w (StrPost d q w))
    (hSz : S.size ≤ 9223372036854775807) (hTz : T.size ≤ 9223372036854775807)
    (H3 : (refB [S, T] = true ∧ s = ⟨#[]⟩ ∧ d = ⟨#[]⟩ ∧ r = 2 ∧ q = 2) ∨ (refB [S, T] = false ∧ (∀ w, Calls Try.prog 37 #[.string S, .string T] w (StrPost s r w)) ∧
      (∀ w, Calls Try.prog 38 #[.string S, .string T] w (StrPost d q w))))
    (H4 : SumsL ss t g) :
    Calls Try.prog 5 #[.string S, .string T, .slice A n c] w fun e w' => e = .returned (.bool true) ∧ Below w.heap.size w w' := by
  obtain ⟨i0, hi0, hz0, hj1, hj2⟩ := info_parts (P := Try.prog) (e := 22) (z := .string ⟨#[]⟩) (size := 1) (bytes := 16) (by kernel_rfl)
  obtain ⟨i1, hi1, hz1, hk1, hk2⟩ := info_parts (P := Try.prog) (e := 9) (z := .string ⟨#[]⟩) (size := 1) (bytes := 16) (by kernel_rfl)
  have K1 := Lib.hid H1
  have K2 := Lib.hid H2
  have hsum := H4.sum
  have href := H4.ref
  rw [← hn] at hsum href
  have HSUM := Lib.hid hsum
  have HREF := Lib.hid href
  have HSTR := Lib.hid hstr
  have HAA := Lib.hid hA
  have HAN := Lib.hid hAn
  have HSZ := Lib.hid hsz
  have HN := Lib.hid hn
  have KI := Lib.hid (fun w => is_c s r w)
  have KJ := Lib.hid (fun w => is_c d q w)
  have KT := Lib.hid (fun w => is_c t g w)
  have hrf := fun w => refused2 S T hSz hTz w
  have KL : Hid (∀ w' : World, Strs w' A ss → Calls Try.prog 22 #[.slice A n c] w' fun e w'' => e = .returned (.bool (refB ss)) ∧ w' = w'') := Lib.hid (fun w' h => by
    rw [hn]; exact refused_c A c ss w' (by omega) hsz h)
  have hn3 : n ≤ 9223372036854775807 := by omega
  clear hsum href H1 H2 H4 hstr hA hAn hsz hSz hTz
  rcases H3 with ⟨hb, rfl, rfl, rfl, rfl⟩ | ⟨hb, H5, H6⟩
  case' inr =>
    have K5 := Lib.hid H5
    have K6 := Lib.hid H6
    clear H5 H6
  all_goals
    rw [hb] at hrf
    have HRF := Lib.hid hrf
    clear hrf hb hn
    go_enter Try.func5, Try.ntmps5
    go_wp2_with fail
    refine (K1.out _).mono ?_
    rintro e w1 ⟨rfl, hb1⟩
    go_wp2_with fail
    refine (K2.out _).mono ?_
    rintro e w2 ⟨rfl, hb2⟩
    have hb12 := below_chain hb1 hb2
    have HST2 : Hid (Strs w2 A ss) := Lib.hid (fun hl => by
      obtain ⟨ad, e1, hc⟩ := HSTR.out hl
      exact ⟨ad, e1, fun j hj => (hb12.cell (p := ad.add j) (by rw [block_of_add']; exact HAA.out hl ad e1)).trans (hc j hj)⟩)
    have hlen16 : ss.length * 16 ≤ 140737488355328 := by have := HN.out; omega
    have HL16 := Lib.hid hlen16
    have HL17 : Hid ((ss.length + 1) * 16 ≤ 140737488355328) := Lib.hid (by have := HN.out; omega)
    clear hlen16
    go_wp2_with (at_builtin; first
      | (refine wpList_appSl w2 rfl (.const (.slice none 0 0)) (.tmp 34) _ rfl w2.heap.size 22 i0 Try.underlying43 hi0 hz0 hj1 hj2 ss A n c HN.out rfl rfl HAN.out HST2.out HL16.out (Nat.le_refl _) ?_; intro v35 w3 ho3 hb3; obtain ⟨B3, hB3⟩ : ∃ B3, B3 = w2.heap.size := ⟨_, rfl⟩; rw [← hB3] at ho3 hb3; have HO3 := Lib.hid ho3; have HB3 := Lib.hid hB3; have hs3 : B3 ≤ w3.heap.size := Nat.le_trans (Nat.le_of_eq HB3.out) hb3.size; clear ho3 hB3)
      | (refine wpList_appS1 w3 rfl (.tmp 35) (.tmp 36) _ rfl B3 22 _ i0 Try.underlying43 hi0 hz0 hj1 hj2 _ ss ⟨#[109, 97, 114, 107]⟩ rfl rfl HO3.out HL17.out hs3 ?_; intro v37 w4 ho4 hb4; have HFU := ho4.full HN.out; obtain ⟨gf, cf, rfl, hcf, hcf2, hgf, hgf2, hcells⟩ := HFU; have HO4 := Lib.hid ho4; have HCE := Lib.hid hcells; clear ho4 hcells))
    all_goals
      have hst4 : Strs w4 (some ⟨gf, 0, none⟩) ss := fun _ => ⟨_, rfl, fun j hj => by
        rw [add_plain0, (HCE.out j (by rw [List.length_append]; omega)).1, List.getElem_append_left hj]⟩
      have HS4 := Lib.hid hst4
      have hb24 : Below w2.heap.size w2 w4 := by
        have h := hb3.trans hb4
        rwa [HB3.out] at h
      clear hst4
      refine (HSUM.out _ _ _ HS4.out (fun ad e => by cases e; exact hgf2)).mono ?_
      rintro e w5 ⟨rfl, hb5⟩
      go_wp2_with fail
      refine (HRF.out _).mono ?_
      rintro e w6 ⟨rfl, hb6⟩
      go_wp2_with fail
      have hbase : Below w.heap.size w w4 := below_chain hb12 hb24
      clear hb1 hb2 hb12 hb3 hb4 hb24
      try
        refine (K5.out _).mono ?_
        rintro e w7 ⟨rfl, hb7⟩
        go_wp2_with fail
        refine (K6.out _).mono ?_
        rintro e w8 ⟨rfl, hb8⟩
        go_wp2_with fail
        refine (KI.out _).mono ?_
        rintro e w9 ⟨rfl, rfl⟩
        go_wp2_with fail
        refine (KJ.out _).mono ?_
        rintro e w9 ⟨rfl, rfl⟩
        go_wp2_with fail
      first
        | (have hwl := below_chain hb5 (below_chain hb6 (below_chain hb7 hb8)); clear hb5 hb6 hb7 hb8; generalize w8 = wl at *)
        | (have hwl := below_chain hb5 hb6; clear hb5 hb6; generalize w6 = wl at *)
      have hwl2 := below_chain hbase hwl
      clear hbase
      go_loopw [18, 19] (fun v i wr => ∃ k : Nat, k ≤ n ∧ i = .int .i64 k ∧ Hid (OwnS wr wl.heap.size 9 v (ss.take k)) ∧ Below wl.heap.size wl wr) (fun _ i _ => n - (intOf i).toNat)
      case atStart => exact ⟨0, Nat.zero_le _, rfl, Lib.hid (OwnS.nil _ _ _), Below.refl _ _⟩
      case round =>
        obtain ⟨k, hk, rfl, hown, hb⟩ := hrel
        have hbW := below_chain hwl2 hb
        by_cases hlt : k < n
        · have hks : k < ss.length := by have := HN.out; omega
          obtain ⟨ad, rfl, hcl⟩ := HSTR.out.at_ hks
          have hcl2 := (hbW.cell (p := ad.add k) (by rw [block_of_add']; exact HAA.out (by omega) ad rfl)).trans hcl
          have hcf1 := (HCE.out k (by rw [List.length_append]; omega)).1
          rw [List.getElem_append_left hks] at hcf1
          have hcf3 := (hb.cell (p := ⟨gf, k, none⟩) (Nat.lt_of_lt_of_le hgf2 hwl.size)).trans ((hwl.cell (p := ⟨gf, k, none⟩) hgf2).trans hcf1)
          have htk : ss.take (k + 1) = ss.take k ++ [ss[k]] := List.take_succ_eq_append_getElem hks
          have HL18 : Hid (((ss.take k).length + 1) * 16 ≤ 140737488355328) := Lib.hid (by rw [List.length_take]; omega)
          have HTK := Lib.hid htk
          have HKS := Lib.hid hks
          clear hcl hcf1 htk
          generalize ss[k] = s0 at *
          have hss : (s0.toList == s0.toList) = true := by simp
          clear hks
          go_wp2_with fail
          go_quiet (fail)
          have hbq := below_drewN hb nq
          have hownq := Lib.hid (hown.out.drewN nq)
          have hcq : (wr.drewN nq).cell? (ad.add k) = some (.string s0) := hcl2
          generalize wr.drewN nq = wq at *
          go_wp2_with (at_builtin; go_loud ((refine wpList_appS1 wq rfl (.tmp 105) (.tmp 110) _ rfl wl.heap.size 9 _ i1 Try.underlying50 hi1 hz1 hk1 hk2 _ (ss.take k) s0 rfl rfl hownq.out HL18.out hbq.size ?_; intro v111 w5 ho5 hb5; rw [← HTK.out] at ho5; have HO5 := Lib.hid ho5; clear ho5)))
          go_roundw
          case rel => exact ⟨k + 1, by omega, by go_num, HO5, hbq.trans hb5⟩
          case measure => simp [intOf]; omega
        · obtain rfl : k = n := by omega
          have htk : ss.take k = ss := List.take_of_length_le (by have := HN.out; omega)
          rw [htk] at hown
          have hstr : Strs wr A ss := fun hl => by
            obtain ⟨ad, e1, hc⟩ := HSTR.out hl
            exact ⟨ad, e1, fun j hj => (hbW.cell (p := ad.add j) (by rw [block_of_add']; exact HAA.out hl ad e1)).trans (hc j hj)⟩
          have hcm := (HCE.out k (by rw [List.length_append, List.length_singleton]; have := HN.out; omega)).1
          have hmk : (ss ++ [(⟨#[109, 97, 114, 107]⟩ : ByteArray)])[k]'(by rw [List.length_append, List.length_singleton]; have := HN.out; omega) = ⟨#[109, 97, 114, 107]⟩ := by
            rw [List.getElem_append_right (by have := HN.out; omega)]; simp
          rw [hmk] at hcm
          have hcm2 := (hb.cell (p := ⟨gf, k, none⟩) (Nat.lt_of_lt_of_le hgf2 hwl.size)).trans ((hwl.cell (p := ⟨gf, k, none⟩) hgf2).trans hcm)
          have KLL := Lib.hid (KL.out wr hstr)
          have HOWN := hown
          clear htk hstr hcm hmk
          rcases HREF.out with ⟨hr, rfl, rfl⟩ | ⟨hr, hrs⟩
          · rw [hr] at KLL
            clear hr
            go_wp2_with fail
            refine KLL.out.mono ?_
            rintro e w' ⟨rfl, rfl⟩
            go_wp2_with fail
            refine (awake_c _).mono ?_
            rintro e w9 ⟨rfl, hb9⟩
            go_wp2_with fail
            go_ret
            exact ⟨rfl, below_chain hbW hb9⟩
          · rw [hr] at KLL
            obtain ⟨Av, cv, rfl, hcv⟩ := hown.out.len
            rw [← HN.out] at hcv ⊢
            have hsv := hown.out.strs
            have KRS := Lib.hid (hrs Av cv wr hsv (fun ad e => by
              subst e
              rcases hown.out.form with ⟨e2, _⟩ | ⟨g2, c2, e2, _, _, _, h4, _⟩
              · cases e2
              · injection e2 with e3 e4 e5
                cases e3; exact h4))
            clear hr hrs hsv hcv
            go_wp2_with fail
            refine KLL.out.mono ?_
            rintro e w' ⟨rfl, rfl⟩
            go_wp2_with fail
            refine KRS.out.mono ?_
            rintro e w7 ⟨rfl, hb7⟩
            have hcm7 := (hb7.cell (p := ⟨gf, k, none⟩) (Nat.lt_of_lt_of_le hgf2 (Nat.le_trans hwl.size hb.size))).trans hcm2
            go_wp2_with fail
            refine (KT.out _).mono ?_
            rintro e w8 ⟨rfl, rfl⟩
            go_wp2_with fail
            refine (awake_c _).mono ?_
            rintro e w9 ⟨rfl, hb9⟩
            go_wp2_with fail
            go_ret
            exact ⟨rfl, below_chain hbW (below_chain hb7 hb9)⟩
theorem NatSums_law (S T : ByteArray) (ss : List ByteArray) (A : Option Addr) (c : Nat) (n : Nat) (hS : S.size ≤ maxLen) (hT : T.size ≤ maxLen) (hn : n = ss.length) (hn2 : n ≤ 8796093022080)
    (hAn : A = none → ss = [] ∧ c = 0) (w : World) (hstr : Strs w A ss) (hA : 0 < ss.length → ∀ ad, A = some ad → ad.block < w.heap.size) (hsz : ∀ s ∈ ss, s.size ≤ maxLen) :
    Calls Try.prog 5 #[.string S, .string T, .slice A n c] w fun e w' => e = .returned (.bool true) ∧ Below w.heap.size w w' := by
  unfold maxLen at hS hT hsz
  obtain ⟨t, g, h4⟩ := sumsL ss (by omega)
  by_cases hm : May S ∧ May T
  · have hb := refB2_no hm.1 hm.2
    obtain ⟨a, ha, rfl⟩ := may_num hm.1
    obtain ⟨b, hb', rfl⟩ := may_num hm.2
    by_cases hlt : a < b
    · exact sums_walk _ _ _ _ _ _ _ _ ss A c w n hn hn2 hAn hstr hA hsz (fun w => NAdd_c a b w ha hb') (fun w => NSub_below a b w ha hb' hlt) hS hT
        (Or.inr ⟨hb, fun w => rAdd_c a b w ha hb', fun w => rSub_lt a b w ha hb' hlt⟩) h4
    · exact sums_walk _ _ _ _ _ _ _ _ ss A c w n hn hn2 hAn hstr hA hsz (fun w => NAdd_c a b w ha hb') (fun w => NSub_c a b w ha hb' (by omega)) hS hT
        (Or.inr ⟨hb, fun w => rAdd_c a b w ha hb', fun w => rSub_ge a b w ha hb' (by omega)⟩) h4
  · exact sums_walk _ _ _ _ _ _ _ _ ss A c w n hn hn2 hAn hstr hA hsz (fun w => NAdd_no S T w hm) (fun w => NSub_no S T w hm) hS hT
      (Or.inl ⟨refB2_yes hm, rfl, rfl, rfl, rfl⟩) h4
end Go.Proofs.Ytjcicbnjoffbhaa
