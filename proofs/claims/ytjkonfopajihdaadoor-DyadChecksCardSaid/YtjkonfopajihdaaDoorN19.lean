/- Contracts of package nat: Sum, Add. -/
import Derived.Test.YtjkonfopajihdaaDoorN18
set_option linter.unusedSimpArgs false
set_option linter.unusedVariables false
namespace Go.Proofs.YtjkonfopajihdaaDoor
open Go Go.RowKit Nt

theorem sum_take (l : List Nat) (k : Nat) (h : k < l.length) : (l.take (k + 1)).sum = (l.take k).sum + l[k] := by
  rw [List.take_succ_eq_append_getElem h, List.sum_append]; simp
theorem sum_lt (l : List Nat) (m : Nat) (h : ∀ n ∈ l, n < m) : l.sum ≤ l.length * m := by
  induction l with
  | nil => simp
  | cons x l ih =>
    have h1 := ih (fun n hn => h n (List.mem_cons_of_mem _ hn))
    have h2 := h x (List.mem_cons_self ..)
    rw [List.sum_cons, List.length_cons, Nat.add_mul]; omega
theorem sum_ndm (l : List Nat) (m : Nat) (h : ∀ n ∈ l, nd W n ≤ m) (hl : l.length ≤ 140737488355328) : nd W l.sum ≤ m + 1 := by
  have h1 := sum_lt l (W ^ m) (fun n hn => (lt_pow_iff W2 _ _).2 (h n hn))
  refine nd_le W2 ?_
  rw [Nat.pow_succ]
  refine Nat.lt_of_le_of_lt h1 ?_
  rw [Nat.mul_comm]
  refine (Nat.mul_lt_mul_left (Nat.pow_pos W0)).2 ?_
  rw [W_eq]; omega
theorem sum_nd (l : List Nat) (h : ∀ n ∈ l, fits n) (hl : l.length ≤ 140737488355328) : nd W l.sum ≤ 2049 := sum_ndm l 2048 (fun n hn => fits_words (h n hn)) hl
theorem mem_take {α : Type} {l : List α} {k : Nat} {x : α} (h : x ∈ l.take k) : x ∈ l := List.mem_of_mem_take h
theorem may_all {l : List Nat} (h : ∀ n ∈ l, fits n) : mayE (l.map natS) = 0 := mayE_ok (fun s hs => by
  obtain ⟨n, hn, rfl⟩ := List.mem_map.1 hs; exact (may_natS n).2 (h n hn))
theorem len2 (l : List Nat) (h : l.length = 2) : ∃ a b, l = [a, b] := by
  match l, h with
  | [a, b], _ => exact ⟨a, b, rfl⟩
theorem two_cells {w : World} {A : Option Addr} {l : List Nat} (h2 : l.length = 2) (h : Strs w A (l.map natS)) (hf : ∀ n ∈ l, fits n) (hA : ∀ ad, A = some ad → ad.block < w.heap.size) :
    ∃ (a b : Nat) (ad : Addr), A = some ad ∧ ad.block < w.heap.size ∧ w.cell? ad = some (.string (natS a)) ∧ w.cell? (ad.add 1) = some (.string (natS b)) ∧ fits a ∧ fits b ∧ l.sum = a + b := by
  obtain ⟨a, b, rfl⟩ := len2 l h2
  obtain ⟨ad, rfl, hc0⟩ := h.at_ (k := 0) (by simp)
  obtain ⟨ad', e1, hc1⟩ := h.at_ (k := 1) (by simp)
  obtain rfl : ad = ad' := Option.some.inj e1
  rw [show ad.add 0 = ad by unfold Addr.add; rw [if_pos rfl]] at hc0
  exact ⟨a, b, ad, rfl, hA ad rfl, hc0, hc1, hf a (by simp), hf b (by simp), by simp⟩
theorem bsB_res {a b : Nat} (h : bsB a b = true) : resS (a + b) = natS (a + b) ∧ resE (a + b) = 0 := by
  have hs : a + b < 18446744073709551616 := by
    unfold bsB at h
    rw [Bool.and_eq_true, Bool.and_eq_true, decide_eq_true_iff] at h
    exact h.2
  have hf : fits (a + b) := by have := br_lt.2 hs; unfold fits; omega
  exact ⟨resS_ok hf, resE_ok hf⟩
/-- What stands in the strings' world. -/
def SB (w w' : World) : Prop := Below w.heap.size w w'
theorem SB_step {w w1 w2 : World} (h : SB w w1) (h2 : Below w1.heap.size w1 w2) : SB w w2 := Below.trans h (h2.mono h.size)
theorem SB_any {w w' : World} (h : SB w w') (n : Nat) : SB w (w'.drewN n) := below_drewN h n
set_option maxRecDepth 100000 in
set_option maxHeartbeats 1000000 in
theorem Sum_c (A : Option Addr) (c : Nat) (l : List Nat) (w : World) (hl : l.length ≤ 140737488355328) (hf : ∀ n ∈ l, fits n) (h : Strs w A (l.map natS)) (hA : ∀ ad, A = some ad → ad.block < w.heap.size) :
    Calls Tryd.prog 126 #[.slice A l.length c] w (StrPost (resS l.sum) (resE l.sum) w) := by
  have HS := Lib.hid h
  have HF := Lib.hid hf
  have HA := Lib.hid hA
  have hm := may_all hf
  have HL := Lib.hid hl
  have hl1 : l.length ≤ 9223372036854775807 := by omega
  have hall := all_c A c (l.map natS) w (by rw [List.length_map]; exact hl1) h
  rw [List.length_map, hm] at hall
  have HALL := Lib.hid hall
  clear h hf hA hall hm
  go_enter Tryd.func126, Tryd.ntmps126
  go_upto_if 17 with (go_at_call 97; refine HALL.out.mono ?_; rintro e w' ⟨rfl, rfl⟩)
  go_cut [] (fun wc => Below w.heap.size w wc)
  case first =>
    by_cases h2 : l.length = 2
    · obtain ⟨a, b, ad, rfl, hbk, hc0, hc1, ha, hb, hsum⟩ := two_cells h2 HS.out HF.out HA.out
      have hz : ((l.length : Int) == 2) = true := by rw [h2]; rfl
      have L0 : ∀ w', SB w w' → w'.cell? ad = some (.string (natS a)) := fun w' h => (Below.cell h (p := ad) hbk).trans hc0
      have L1 : ∀ w', SB w w' → w'.cell? ⟨ad.block, ad.off + 1, none⟩ = some (.string (natS b)) := fun w' h => (Below.cell h (p := ad.add 1) (by rw [block_of_add']; exact hbk)).trans hc1
      have L2 : SB w w.drew := (Below.refl _ _).drew
      have HSUM := Lib.hid hsum
      have H2 := Lib.hid h2
      have hle : (1 : Int) < (l.length : Int) := by omega
      have hle2 : 1 < l.length := by omega
      have hle0 : 0 < l.length := by omega
      have hle3 : (0 : Int) < (l.length : Int) := by omega
      clear hc0 hc1 hsum h2
      have hbs := briefSum_c a b
      have HBS := Lib.hid hbs
      clear hbs
      go_wp2_with fail
      go_region_held3 (SB w) (first | assumption | exact SB_step (by assumption) (by assumption) | exact SB_any (by assumption) _)
        (first
          | (go_at_call 133; refine (HBS.out _ (by assumption) (by assumption)).mono ?_; rintro e w' ⟨rfl, hb2⟩))
      rename_i hHeld
      have hsb : SB w _ := hHeld
      have HSB := Lib.hid hsb
      clear L0 L1 L2 hsb hHeld
      by_cases hB : bsB a b = true
      · have HB := Lib.hid hB
        rw [hB]
        clear hB
        go_wp2_with fail
        go_ret2
        obtain ⟨e1, e2⟩ := bsB_res HB.out
        refine ⟨?_, HSB.out⟩
        rw [bsS_yes HB.out, HSUM.out, e1, e2]; rfl
      · have hB' : bsB a b = false := by simpa using hB
        rw [hB']
        clear hB hB'
        go_wp2_with fail
        go_meet
        exact HSB.out
    · have hz : ((l.length : Int) == 2) = false := by rw [beq_eq_false_iff_ne]; omega
      go_wp2_with fail
      go_meet
      exact Below.refl _ _
  case rest =>
    have hb0 := hcut
    go_wp2
    go_loopw [7, 32] (fun x i wr => ∃ (k : Nat) (A' : Option Addr) (c' : Nat), k ≤ l.length ∧ i = .int .i64 k ∧ x = .slice A' (nd W (l.take k).sum) c' ∧ nd W (l.take k).sum ≤ c' ∧ Hid (Row wr wr.heap.size A' (l.take k).sum (nd W (l.take k).sum)) ∧ Below w.heap.size w wr) (fun _ i _ => l.length - (intOf i).toNat)
    case atStart =>
      have e : nd W 0 = 0 := nd_zero _
      exact ⟨0, none, 0, Nat.zero_le _, rfl, by rw [List.take_zero, List.sum_nil, e], by rw [List.take_zero, List.sum_nil, e]; exact Nat.le_refl _, by rw [List.take_zero, List.sum_nil, e]; exact Lib.hid Row.none_, hb0⟩
    case round =>
      obtain ⟨k, A', c', hk, rfl, rfl, hc, hrow, hb⟩ := hrel
      by_cases hlt : k < l.length
      · obtain ⟨ad, rfl, hcell⟩ := HS.out.at_ (k := k) (by rw [List.length_map]; exact hlt)
        rw [List.getElem_map] at hcell
        have hc2 := (hb.cell (p := ad.add k) (by rw [block_of_add']; exact HA.out ad rfl)).trans hcell
        have hfk := HF.out l[k] (List.getElem_mem hlt)
        have hst := sum_take l k hlt
        have hndk := sum_nd (l.take k) (fun n hn => HF.out n (mem_take hn)) (by have := HL.out; rw [List.length_take]; omega)
        have hw2 := fits_words hfk
        generalize l[k] = x at *
        generalize (l.take k).sum = S at *
        have HST := Lib.hid hst
        clear hst hcell
        go_wp2_with (first
          | (go_at_call 102; refine (words_c _ _ (by assumption)).mono ?_; intro e w1 hp; obtain ⟨A1, c1, rfl, hc1, hr1, hb1⟩ := hp.get; have hr0 := (hrow.out.below hb1).more hb1.size; have HR1 := Lib.hid hr1; clear hr1)
          | (go_at_call 83; refine (Add_c _ _ _ _ _ _ _ _ (by omega) (by omega) hr0 HR1.out (Nat.le_refl _)).mono ?_; intro e w2 hp; obtain ⟨A2, c2, rfl, hc2', hr2, hb2⟩ := hp.get))
        have HR2 := Lib.hid hr2
        have hbb := hb.trans ((hb1.mono hb.size).trans (hb2.mono (Nat.le_trans hb.size hb1.size)))
        clear hr2 hr0
        go_roundw
        case rel => exact ⟨k + 1, A2, c2, by omega, by go_num, by rw [HST.out], by rw [HST.out]; exact hc2', by rw [HST.out]; exact HR2, hbb⟩
        case measure => simp [intOf]; omega
      · obtain rfl : k = l.length := by omega
        rw [List.take_length] at hc hrow ⊢
        have hnd := sum_nd l HF.out HL.out
        have HN := Lib.hid hnd
        clear hnd
        go_wp2_with (go_at_call 100; refine (made_c _ _ _ _ _ (by have := HN.out; omega) hrow.out (Nat.le_refl _)).mono ?_; rintro e w' ⟨rfl, hb'⟩)
        go_ret2
        exact ⟨rfl, hb.trans (hb'.mono hb.size)⟩
/-- The sum of two. -/
theorem NAdd_c (a b : Nat) (w : World) (ha : fits a) (hb : fits b) :
    Calls Tryd.prog 90 #[.string (natS a), .string (natS b)] w (StrPost (resS (a + b)) (resE (a + b)) w) := by
  have hs := fun w' (h : Strs w' (some ⟨w.heap.size, 0, none⟩) ([a, b].map natS)) (hA : w.heap.size < w'.heap.size) => Sum_c (some ⟨w.heap.size, 0, none⟩) 2 [a, b] w' (by simp) (fun n hn => by
    rcases List.mem_cons.1 hn with rfl | hn
    · exact ha
    · rw [List.mem_singleton.1 hn]; exact hb) h (fun ad e => by cases e; exact hA)
  have HS := Lib.hid hs
  clear hs
  have he : [a, b].sum = a + b := by simp
  have HE := Lib.hid he
  clear he
  go_enter Tryd.func90, Tryd.ntmps90
  go_wp2_with fail
  refine (HS.out _ (strs_new w 22 [natS a, natS b]) (by simp)).mono ?_
  rw [HE.out]
  rintro e w' ⟨rfl, hb'⟩
  go_wp2_with fail
  go_ret2
  exact ⟨rfl, ((Below.refl _ _).alloc (Nat.le_refl _) _).trans (hb'.mono (by simp))⟩
set_option maxRecDepth 100000 in
theorem Sum_no (A : Option Addr) (c : Nat) (ss : List ByteArray) (w : World) (hl : ss.length ≤ 9223372036854775807) (hn : ∃ s ∈ ss, ¬ May s) (h : Strs w A ss) :
    Calls Tryd.prog 126 #[.slice A ss.length c] w (StrPost ⟨#[]⟩ 2 w) := by
  have hm : mayE ss = 2 := by obtain ⟨s, h1, h2⟩ := hn; exact mayE_no h1 h2
  have hall := all_c A c ss w hl h
  rw [hm] at hall
  have HALL := Lib.hid hall
  clear h hall hm hn
  go_enter Tryd.func126, Tryd.ntmps126
  go_wp2_with (go_at_call 97; refine HALL.out.mono ?_; rintro e w' ⟨rfl, rfl⟩)
  go_ret2
  exact ⟨rfl, Below.refl _ _⟩
theorem NAdd_no (s t : ByteArray) (w : World) (h : ¬ (May s ∧ May t)) :
    Calls Tryd.prog 90 #[.string s, .string t] w (StrPost ⟨#[]⟩ 2 w) := by
  have hs := fun w' (h' : Strs w' (some ⟨w.heap.size, 0, none⟩) [s, t]) => Sum_no (some ⟨w.heap.size, 0, none⟩) 2 [s, t] w' (by simp) (by
    by_cases h1 : May s
    · exact ⟨t, by simp, fun c => h ⟨h1, c⟩⟩
    · exact ⟨s, by simp, h1⟩) h'
  have HS := Lib.hid hs
  clear hs
  go_enter Tryd.func90, Tryd.ntmps90
  go_wp2_with fail
  refine (HS.out _ (strs_new w 22 [s, t])).mono ?_
  rintro e w' ⟨rfl, hb'⟩
  go_wp2_with fail
  go_ret2
  exact ⟨rfl, ((Below.refl _ _).alloc (Nat.le_refl _) _).trans (hb'.mono (by simp))⟩
end Go.Proofs.YtjkonfopajihdaaDoor
