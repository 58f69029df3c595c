/- Layer 1 (bits): Text of the document; digits read by the document. -/
import Derived.Test.YtbmfbmepgcbhfaaDoorTx2
set_option linter.unusedSimpArgs false
set_option linter.unusedVariables false
namespace Go.Proofs.YtbmfbmepgcbhfaaDoor
open Go Go.RowKit Go.Sort Ff
attribute [local go_sem] f_lt f_gt f_eq f_ne

set_option maxRecDepth 100000 in
theorem rText_short (x : Nat) (sg : Bool) (k : Int) (t : List UInt8) (w : World)
    (h1 : ∀ w, Calls Tryd.prog 19 #[.float .f64 x] w fun e w' => e = .returned (.bool sg) ∧ w = w')
    (h2 : ∀ w, Calls Tryd.prog 20 #[.float .f64 x] w fun e w' => e = .returned (.int .i64 k) ∧ w = w')
    (h : (k = 5 ∧ sg = false ∧ t = [110, 97, 110]) ∨ (k = 4 ∧ t = (if sg then [45] else []) ++ [105, 110, 102]) ∨ (k = 1 ∧ t = (if sg then [45] else []) ++ [48])) :
    Calls Tryd.prog 8 #[.float .f64 x] w fun e w' => e = .returned (.string ⟨t.toArray⟩) ∧ Below w.heap.size w w' := by
  have K1 := Lib.hid h1
  have K2 := Lib.hid h2
  clear h1 h2
  rcases h with ⟨rfl, rfl, rfl⟩ | ⟨rfl, rfl⟩ | ⟨rfl, rfl⟩
  · go_enter Tryd.func8, Tryd.ntmps8
    go_wp2_with (first | (go_at_call 19; refine (K1.out _).mono ?_; rintro e w' ⟨rfl, rfl⟩) | (go_at_call 20; refine (K2.out _).mono ?_; rintro e w' ⟨rfl, rfl⟩))
    go_ret
    exact ⟨rfl, Below.refl _ _⟩
  all_goals
    cases sg
    all_goals
      go_enter Tryd.func8, Tryd.ntmps8
      go_wp2_with (first | (go_at_call 19; refine (K1.out _).mono ?_; rintro e w' ⟨rfl, rfl⟩) | (go_at_call 20; refine (K2.out _).mono ?_; rintro e w' ⟨rfl, rfl⟩))
      go_ret
      exact ⟨rfl, Below.refl _ _⟩
set_option maxRecDepth 100000 in
theorem rText_num (x : Nat) (hx : x < 18446744073709551616) (hi : ¬ isn x) (hf : finB x = true) (h0 : rung x ≠ 0) (w : World) (ht : TabS w) :
    Calls Tryd.prog 8 #[.float .f64 x] w fun e w' => e = .returned (.string ⟨(textF x).toArray⟩) ∧ Below w.heap.size w w' := by
  have H := Lib.hid (text_num hi hf h0)
  have hm := partM_lt x
  have he := partE_bd x hf
  have hd1 := dec_len (u := partM x) (by omega)
  have hd2 := itoa_len (e := partE x) (by omega)
  have K1 := Lib.hid (rNeg_c x hx)
  have K2 := Lib.hid (rKind_c x)
  have K3 := Lib.hid (rParts_c x hx hf)
  rw [decide_eq_false hi] at K1
  have hk : kind x = 2 ∨ kind x = 3 := by
    unfold kind
    rw [if_neg hi, if_neg (by have := (finB_true x).1 hf; omega), if_neg h0]
    split
    · exact Or.inl rfl
    · exact Or.inr rfl
  clear hi hf h0
  cases hs : sgn x
  all_goals
    rw [hs] at H K1 K3
    clear hs
    rcases hk with hk | hk
    all_goals
      rw [hk] at K2
      clear hk
      go_enter Tryd.func8, Tryd.ntmps8
      go_wp2_with (first | (go_at_call 19; refine (K1.out _).mono ?_; rintro e w' ⟨rfl, rfl⟩) | (go_at_call 20; refine (K2.out _).mono ?_; rintro e w' ⟨rfl, rfl⟩) | (go_at_call 21; refine (K3.out _).mono ?_; rintro e w' ⟨rfl, rfl⟩))
      go_at_call 17
      refine (FormatUint_c _ (by omega) _ ht.2.1).mono ?_
      rintro e w1 ⟨rfl, hb1⟩
      go_wp2_with fail
      go_at_call 18
      refine (Tryd.strconv_Itoa _ (by omega) (by omega) _ (ht.below hb1).2.1).mono ?_
      rintro e w2 ⟨rfl, k, os, rfl⟩
      go_wp2
      go_ret
      first
        | (refine ⟨?_, below_step hb1 _ _⟩
           refine ret_ba (a := (⟨([] : List UInt8).toArray⟩ ++ ⟨(Lib.decDigits (partM x)).toArray⟩ ++ ⟨([112] : List UInt8).toArray⟩ ++ ⟨(Lib.itoa (partE x)).toArray⟩ : ByteArray)) (b := textF x) ?_
           apply ByteArray.ext; rw [H.out]; simp [ByteArray.data_append]; done)
        | (refine ⟨?_, below_step hb1 _ _⟩
           refine ret_ba (a := (⟨([45] : List UInt8).toArray⟩ ++ ⟨(Lib.decDigits (partM x)).toArray⟩ ++ ⟨([112] : List UInt8).toArray⟩ ++ ⟨(Lib.itoa (partE x)).toArray⟩ : ByteArray)) (b := textF x) ?_
           apply ByteArray.ext; rw [H.out]; simp [ByteArray.data_append]; done)
theorem rText_c (x : Nat) (hx : x < 18446744073709551616) (w : World) (ht : TabS w) :
    Calls Tryd.prog 8 #[.float .f64 x] w fun e w' => e = .returned (.string ⟨(textF x).toArray⟩) ∧ Below w.heap.size w w' := by
  by_cases hi : isn x
  · refine rText_short x _ _ _ w (rNeg_c x hx) (rKind_c x) (Or.inl ⟨?_, ?_, text_nan hi⟩)
    · unfold kind; rw [if_pos hi]; rfl
    · rw [decide_eq_true hi]; rfl
  · cases hf : finB x
    · have hr : rung x = 9218868437227405312 := by have := (finB_false x).1 hf; unfold isn at hi; omega
      refine rText_short x _ _ _ w (rNeg_c x hx) (rKind_c x) (Or.inr (Or.inl ⟨?_, ?_⟩))
      · unfold kind; rw [if_neg hi, if_pos hr]; rfl
      · rw [text_inf hi hf, decide_eq_false hi]; rfl
    · by_cases h0 : rung x = 0
      · refine rText_short x _ _ _ w (rNeg_c x hx) (rKind_c x) (Or.inr (Or.inr ⟨?_, ?_⟩))
        · unfold kind; rw [if_neg hi, if_neg (by omega), if_pos h0]; rfl
        · rw [text_zero hi hf h0, decide_eq_false hi]; rfl
      · exact rText_num x hx hi hf h0 w ht
@[irreducible] def whN (l : List UInt8) : Nat := match Lib.parseMag l with | .ok v => v | _ => 0
@[irreducible] def whB (l : List UInt8) : Bool := match Lib.parseMag l with | .ok _ => true | _ => false
theorem wh_ok {l : List UInt8} {v : Nat} (h : Lib.parseMag l = .ok v) : whN l = v ∧ whB l = true := by unfold whN whB; rw [h]; exact ⟨rfl, rfl⟩
theorem wh_no {l : List UInt8} (h : ∀ v, Lib.parseMag l ≠ .ok v) : whN l = 0 ∧ whB l = false := by
  unfold whN whB
  cases hp : Lib.parseMag l with
  | ok v => exact absurd hp (h v)
  | «syntax» => exact ⟨rfl, rfl⟩
  | range => exact ⟨rfl, rfl⟩
theorem wh_lt (l : List UInt8) : whN l < 18446744073709551616 := by
  unfold whN
  cases hp : Lib.parseMag l with
  | ok v => exact Lib.parseMag_lt hp
  | «syntax» => exact by decide
  | range => exact by decide
theorem mag_full {l : List UInt8} (h : l ≠ []) : Lib.parseMag l = Lib.parseUint10 0 l := by unfold Lib.parseMag; rw [if_neg h]
theorem p10_bad {v : Nat} {c : UInt8} {r : List UInt8} (h : ¬ (48 ≤ c.toNat ∧ c.toNat ≤ 57)) : Lib.parseUint10 v (c :: r) = .syntax := by rw [Lib.parseUint10, if_neg h]
theorem p10_far {v : Nat} {c : UInt8} {r : List UInt8} (h : 48 ≤ c.toNat ∧ c.toNat ≤ 57) (hf : 18446744073709551616 ≤ v * 10 + (c.toNat - 48)) : Lib.parseUint10 v (c :: r) = .range := by
  rw [Lib.parseUint10, if_pos h]
  by_cases h2 : 1844674407370955162 ≤ v
  · rw [if_pos h2]
  · rw [if_neg h2, if_pos hf]
theorem p10_on {v : Nat} {c : UInt8} {r : List UInt8} (h : 48 ≤ c.toNat ∧ c.toNat ≤ 57) (hf : v * 10 + (c.toNat - 48) < 18446744073709551616) : Lib.parseUint10 v (c :: r) = Lib.parseUint10 (v * 10 + (c.toNat - 48)) r := by
  rw [Lib.parseUint10, if_pos h, if_neg (by omega), if_neg (by omega)]
theorem at_drop (s : ByteArray) (k : Nat) (h : k < s.size) : s.data.toList.drop k = s[k] :: s.data.toList.drop (k + 1) := by
  rw [List.drop_eq_getElem_cons (by exact h)]; rfl
set_option maxRecDepth 100000 in
set_option maxHeartbeats 1000000 in
theorem rWhole_c (s : ByteArray) (hs : s.size ≤ 9223372036854775807) (w : World) :
    Calls Tryd.prog 14 #[.string s] w fun e w' => e = .returned (.tuple #[.int .u64 (whN s.data.toList), .bool (whB s.data.toList)]) ∧ w = w' := by
  by_cases h0 : s.size = 0
  · have hl : s.data.toList = [] := List.eq_nil_of_length_eq_zero h0
    have hm : Lib.parseMag s.data.toList = .syntax := by rw [hl]; rfl
    have H := Lib.hid (wh_no (l := s.data.toList) (fun v => by rw [hm]; exact fun c => by cases c))
    clear hm hl
    go_enter Tryd.func14, Tryd.ntmps14
    go_wp2
    go_loop [4, 5] (fun v i => v = .int .u64 0 ∧ i = .int .i64 0) (fun _ _ => 0)
    case atStart => exact ⟨rfl, rfl⟩
    case round =>
      obtain ⟨rfl, rfl⟩ := hrel
      go_wp2
      refine bodyPost_ret (v := .tuple #[.int .u64 0, .bool false]) (by simp [results, Tryd.results14, go_sem]) rfl ⟨by rw [H.out.1, H.out.2]; rfl, rfl⟩
  have hp : 0 < s.size := by omega
  have hne : s.data.toList ≠ [] := fun c => h0 (by show s.data.toList.length = 0; rw [c]; rfl)
  have hpI : (0 : Int) < (s.size : Int) := by omega
  have HM := Lib.hid (mag_full hne)
  clear h0 hne
  go_enter Tryd.func14, Tryd.ntmps14
  go_wp2
  go_loop [4, 5] (fun vv i => ∃ v k : Nat, k ≤ s.size ∧ v < 18446744073709551616 ∧ vv = .int .u64 v ∧ i = .int .i64 k ∧ Hid (Lib.parseMag s.data.toList = Lib.parseUint10 v (s.data.toList.drop k))) (fun _ i => s.size - (intOf i).toNat)
  case atStart => exact ⟨0, 0, Nat.zero_le _, by decide, rfl, rfl, Lib.hid (by rw [HM.out, List.drop_zero])⟩
  case round =>
    obtain ⟨v, k, hk, hv, rfl, rfl, HP⟩ := hrel
    by_cases hlt : k < s.size
    · have hd := at_drop s k hlt
      by_cases hdk : 48 ≤ s[k].toNat ∧ s[k].toNat ≤ 57
      · obtain ⟨d, hdd⟩ : ∃ d, d = s[k].toNat - 48 := ⟨_, rfl⟩
        have q1 : ¬ (s[k].toNat : Int) < 48 := by omega
        have q2 : ¬ (57 : Int) < (s[k].toNat : Int) := by omega
        have w2 : IntKind.u8.wrap ((s[k].toNat : Int) - 48) = (d : Int) := by rw [show (s[k].toNat : Int) - 48 = ((d : Nat) : Int) by omega, IntKind.wrap_u8]; omega
        have w7 : IntKind.u64.wrap ((18446744073709551615 - (d : Int)).tdiv 10) = (18446744073709551615 - (d : Int)) / 10 := by rw [Int.tdiv_eq_ediv_of_nonneg (by omega), IntKind.wrap_u64]; omega
        have w3 : IntKind.u64.wrap (d : Int) = (d : Int) := by rw [IntKind.wrap_u64]; omega
        have w4 : IntKind.u64.wrap (18446744073709551615 - (d : Int)) = 18446744073709551615 - (d : Int) := by rw [IntKind.wrap_u64]; omega
        by_cases hf : v * 10 + d < 18446744073709551616
        · have q3 : ¬ (18446744073709551615 - (d : Int)) / 10 < (v : Int) := by omega
          have w5 : IntKind.u64.wrap (10 * (v : Int)) = 10 * (v : Int) := by rw [IntKind.wrap_u64]; omega
          have w6 : IntKind.u64.wrap (10 * (v : Int) + (d : Int)) = ((v * 10 + d : Nat) : Int) := by rw [IntKind.wrap_u64]; omega
          have HN : Hid (Lib.parseMag s.data.toList = Lib.parseUint10 (v * 10 + d) (s.data.toList.drop (k + 1))) := Lib.hid (by rw [HP.out, hd, p10_on hdk (by omega), hdd])
          clear hd hdk hdd HP
          go_wp2
          go_round
          case rel => exact ⟨v * 10 + d, k + 1, by omega, hf, by first | (rw [w5, w6]; done) | (congr 1; done) | (congr 1; omega), by go_num, HN⟩
          case measure => simp [intOf]; omega
        · have q3 : (18446744073709551615 - (d : Int)) / 10 < (v : Int) := by omega
          have HN := Lib.hid (wh_no (l := s.data.toList) (fun x => by rw [HP.out, hd, p10_far hdk (by omega)]; exact fun c => by cases c))
          clear hd hdk hdd HP
          go_wp2
          refine bodyPost_ret (v := .tuple #[.int .u64 0, .bool false]) (by simp [results, Tryd.results14, go_sem]) rfl ⟨by rw [HN.out.1, HN.out.2]; rfl, rfl⟩
      · have HN := Lib.hid (wh_no (l := s.data.toList) (fun x => by rw [HP.out, hd, p10_bad hdk]; exact fun c => by cases c))
        by_cases q : s[k].toNat < 48
        · have q1 : (s[k].toNat : Int) < 48 := by omega
          clear hd hdk HP
          go_wp2
          refine bodyPost_ret (v := .tuple #[.int .u64 0, .bool false]) (by simp [results, Tryd.results14, go_sem]) rfl ⟨by rw [HN.out.1, HN.out.2]; rfl, rfl⟩
        · have q1 : ¬ (s[k].toNat : Int) < 48 := by omega
          have q2 : (57 : Int) < (s[k].toNat : Int) := by omega
          clear hd hdk HP
          go_wp2
          refine bodyPost_ret (v := .tuple #[.int .u64 0, .bool false]) (by simp [results, Tryd.results14, go_sem]) rfl ⟨by rw [HN.out.1, HN.out.2]; rfl, rfl⟩
    · obtain rfl : k = s.size := by omega
      have hd : s.data.toList.drop s.size = [] := List.drop_of_length_le (Nat.le_refl _)
      have HN := Lib.hid (wh_ok (l := s.data.toList) (v := v) (by rw [HP.out, hd, Lib.parseUint10]))
      clear hd HP
      go_wp2
      refine bodyPost_ret (v := .tuple #[.int .u64 v, .bool true]) (by simp [results, Tryd.results14, go_sem, hpI]) rfl ⟨by rw [HN.out.1, HN.out.2], rfl⟩
end Go.Proofs.YtbmfbmepgcbhfaaDoor
