/- Layer 1 (bits): what the document's Read finds in a float's text. -/
import Derived.Test.YtbmfbmepgcbhfaaDoorTx3
set_option linter.unusedSimpArgs false
set_option linter.unusedVariables false
namespace Go.Proofs.YtbmfbmepgcbhfaaDoor
open Go Go.RowKit Go.Sort Ff

/-- A sign ahead; what is left behind it. -/
@[irreducible] def mnB (s : ByteArray) : Bool := decide (∃ h : 0 < s.size, s[0] = 45)
@[irreducible] def offM (s : ByteArray) : ByteArray := if mnB s = true then s.extract 1 s.size else s
theorem mnB_iff {s : ByteArray} : mnB s = true ↔ ∃ h : 0 < s.size, s[0] = 45 := by unfold mnB; exact decide_eq_true_iff
theorem mk_ba (s : ByteArray) : s = ⟨s.data.toList.toArray⟩ := by apply ByteArray.ext; rfl
theorem ext_list (s : ByteArray) (a b : Nat) : (s.extract a b).data.toList = (s.data.toList.drop a).take (b - a) := by
  rw [ByteArray.data_extract, Array.toList_extract, List.extract_eq_take_drop]
theorem mn_cons {s : ByteArray} {l : List UInt8} (h : s.data.toList = 45 :: l) : mnB s = true := by
  rw [mk_ba s, h]
  exact mnB_iff.2 ⟨by show 0 < (45 :: l).toArray.size; simp, rfl⟩
theorem mn_other {s : ByteArray} {c : UInt8} {l : List UInt8} (h : s.data.toList = c :: l) (hc : c ≠ 45) : mnB s = false := by
  rw [mk_ba s, h]
  exact Bool.eq_false_iff.2 fun k => by obtain ⟨_, e⟩ := mnB_iff.1 k; exact hc e
theorem off_t {s : ByteArray} (h : mnB s = true) : offM s = s.extract 1 s.size := by unfold offM; rw [if_pos h]
theorem off_f {s : ByteArray} (h : mnB s = false) : offM s = s := by unfold offM; rw [if_neg (by rw [h]; decide)]
theorem off_cons {s : ByteArray} {l : List UInt8} (h : s.data.toList = 45 :: l) : (offM s).data.toList = l := by
  rw [off_t (mn_cons h), ext_list, h, List.drop_one, List.tail_cons]
  have e : s.size = l.length + 1 := by show s.data.toList.length = _; rw [h]; rfl
  rw [e]
  exact List.take_of_length_le (by omega)
theorem cutI_app {c : UInt8} : ∀ (a b : List UInt8), (∀ x ∈ a, x ≠ c) → cutI c (a ++ c :: b) = a.length
  | [], b, h => by rw [List.nil_append, cutI_cons, if_pos rfl]; rfl
  | x :: a, b, h => by
    rw [List.cons_append, cutI_cons, if_neg (h x List.mem_cons_self), cutI_app a b fun y hy => h y (List.mem_cons_of_mem _ hy)]
    rfl
/-- A float's text: its sign and the rest. -/
theorem text_facts {s : ByteArray} {y : Nat} (i : ¬ isn y) (hf : finB y = true) (h0 : rung y ≠ 0) (h : s.data.toList = textF y) : mnB s = sgn y ∧ (offM s).data.toList = numT (partM y) (partE y) := by
  rw [text_num i hf h0] at h
  have e : Lib.decDigits (partM y) ++ [112] ++ Lib.itoa (partE y) = numT (partM y) (partE y) := by rw [numT_eq]; simp
  rw [e] at h
  cases hs : sgn y
  · rw [hs] at h
    have h : s.data.toList = numT (partM y) (partE y) := h
    obtain ⟨c, r, hc, h1, h2, _⟩ := numT_head (partM y) (partE y)
    have hm := mn_other (h.trans hc) (by intro k; subst k; revert h1; decide)
    exact ⟨hm, by rw [off_f hm]; exact h⟩
  · rw [hs] at h
    have h : s.data.toList = 45 :: numT (partM y) (partE y) := h
    exact ⟨mn_cons h, off_cons h⟩
theorem num_facts {t : ByteArray} {m : Nat} {e : Int} (hm : m < 18446744073709551616) (he : -1000000 ≤ e ∧ e ≤ 1000000) (h : t.data.toList = numT m e) :
    cutX 112 t < t.size ∧ (whN (cutA 112 t).data.toList = m ∧ whB (cutA 112 t).data.toList = true) ∧ mnB (cutT 112 t) = decide (e < 0) ∧ whN (offM (cutT 112 t)).data.toList = e.natAbs ∧ whB (offM (cutT 112 t)).data.toList = true := by
  rw [numT_eq] at h
  have hx : cutX 112 t = (Lib.decDigits m).length := by
    unfold cutX
    rw [h]
    exact cutI_app _ _ fun c hc => by have := dec_mem m c hc; intro k; subst k; revert this; decide
  have hz : t.size = (Lib.decDigits m).length + ((Lib.itoa e).length + 1) := by
    show t.data.toList.length = _
    rw [h, List.length_append]; rfl
  have hlt : cutX 112 t < t.size := by omega
  have hh : cutH 112 t = true := cutH_iff.2 hlt
  have ha : (cutA 112 t).data.toList = Lib.decDigits m := by
    unfold cutA
    rw [if_pos hh, ext_list, h, hx, List.drop_zero, Nat.sub_zero, List.take_left]
  have hb : (cutT 112 t).data.toList = Lib.itoa e := by
    unfold cutT
    rw [if_pos hh, ext_list, h, hx, List.drop_append, List.drop_of_length_le (by omega), List.nil_append]
    rw [show (Lib.decDigits m).length + 1 - (Lib.decDigits m).length = 1 by omega, List.drop_one, List.tail_cons]
    exact List.take_of_length_le (by omega)
  refine ⟨hlt, by rw [ha]; exact wh_ok (parseMag_dec m hm), ?_⟩
  unfold Lib.itoa at hb
  by_cases hn : e < 0
  · rw [if_pos hn] at hb
    refine ⟨by rw [mn_cons hb, decide_eq_true hn], ?_⟩
    rw [off_cons hb]
    exact wh_ok (parseMag_dec e.natAbs (by omega))
  · rw [if_neg hn] at hb
    have hd : ∃ c r, Lib.decDigits e.toNat = c :: r := by
      cases hd : Lib.decDigits e.toNat with
      | nil => exact absurd hd (dec_ne _)
      | cons c r => exact ⟨c, r, rfl⟩
    obtain ⟨c, r, hd⟩ := hd
    have hc := dec_mem e.toNat c (by rw [hd]; exact List.mem_cons_self)
    have hm : mnB (cutT 112 t) = false := mn_other (hb.trans hd) (by intro k; subst k; revert hc; decide)
    refine ⟨by rw [hm, decide_eq_false hn], ?_⟩
    rw [off_f hm, hb, show e.natAbs = e.toNat by omega]
    exact wh_ok (parseMag_dec e.toNat (by omega))
/-- What the text's parts come to: digits, power. -/
def rdM (s : ByteArray) : Nat := whN (cutA 112 (offM s)).data.toList
def rdE (s : ByteArray) : Int := if mnB (cutT 112 (offM s)) = true then -(min (whN (offM (cutT 112 (offM s))).data.toList : Int) 1099511627776) else min (whN (offM (cutT 112 (offM s))).data.toList : Int) 1099511627776
theorem all_facts {s : ByteArray} {y : Nat} (hy : y < 18446744073709551616) (i : ¬ isn y) (hf : finB y = true) (h0 : rung y ≠ 0) (h : s.data.toList = textF y) :
    cutX 112 (offM s) < (offM s).size ∧ whB (cutA 112 (offM s)).data.toList = true ∧ whB (offM (cutT 112 (offM s))).data.toList = true ∧ mkB (rdM s) (rdE s) = true ∧ mkF (mnB s) (rdM s) (rdE s) = y := by
  obtain ⟨a1, a2⟩ := text_facts i hf h0 h
  have hb := partE_bd y hf
  have hl := partM_lt y
  obtain ⟨b1, ⟨b2, b3⟩, b4, b5, b6⟩ := num_facts (by omega) (by omega) a2
  have e1 : rdM s = partM y := b2
  have e2 : rdE s = partE y := by
    unfold rdE
    rw [b4, b5]
    by_cases c : partE y < 0
    · rw [decide_eq_true c, if_pos rfl]; omega
    · rw [decide_eq_false c, if_neg Bool.false_ne_true]; omega
  obtain ⟨c1, c2⟩ := mk_parts hy hf
  exact ⟨b1, b3, b6, by rw [e1, e2]; exact c1, by rw [a1, e1, e2]; exact c2⟩
/-- Is a text no float's? -/
def NoT (s : ByteArray) : Prop := ∀ y, y < 18446744073709551616 → s.data.toList ≠ textF y
def Lit5 (s : ByteArray) : Prop := s.data.toList = [110, 97, 110] ∨ s.data.toList = [105, 110, 102] ∨ s.data.toList = [45, 105, 110, 102] ∨ s.data.toList = [48] ∨ s.data.toList = [45, 48]
theorem lit5_of {s : ByteArray} {y : Nat} (h : s.data.toList = textF y) (hl : ¬ Lit5 s) : ¬ isn y ∧ finB y = true ∧ rung y ≠ 0 := by
  by_cases i : isn y
  · exact absurd (Or.inl (h.trans (text_nan i))) hl
  · cases hf : finB y
    · rw [text_inf i hf] at h
      cases hs : sgn y
      · rw [hs] at h; exact absurd (Or.inr (Or.inl h)) hl
      · rw [hs] at h; exact absurd (Or.inr (Or.inr (Or.inl h))) hl
    · by_cases h0 : rung y = 0
      · rw [text_zero i hf h0] at h
        cases hs : sgn y
        · rw [hs] at h; exact absurd (Or.inr (Or.inr (Or.inr (Or.inl h)))) hl
        · rw [hs] at h; exact absurd (Or.inr (Or.inr (Or.inr (Or.inr h)))) hl
      · exact ⟨i, rfl, h0⟩
/-- Where one of these fails, the text is no float's. -/
theorem noT_of {s : ByteArray} (hl : ¬ Lit5 s) (h : ¬ (cutX 112 (offM s) < (offM s).size ∧ whB (cutA 112 (offM s)).data.toList = true ∧ whB (offM (cutT 112 (offM s))).data.toList = true ∧ mkB (rdM s) (rdE s) = true ∧ textF (mkF (mnB s) (rdM s) (rdE s)) = s.data.toList)) : NoT s := fun y hy e => by
  obtain ⟨i, hf, h0⟩ := lit5_of e hl
  obtain ⟨a, b, c, d, f⟩ := all_facts hy i hf h0 e
  exact h ⟨a, b, c, d, by rw [f]; exact e.symm⟩
end Go.Proofs.YtbmfbmepgcbhfaaDoor
