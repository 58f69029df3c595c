/- nat.Root. -/
import Derived.Test.YtjcicbnjoffbhaaN64
set_option linter.unusedSimpArgs false
set_option linter.unusedVariables false
namespace Go.Proofs.Ytjcicbnjoffbhaa
open Go Go.RowKit Nt

set_option maxRecDepth 100000 in
set_option maxHeartbeats 1000000 in
theorem NRoot_c (a : Nat) (w : World) (ha : fits a) :
    Calls Try.prog 51 #[.string (natS a)] w (fun e w' => ∃ r, IsRoot a r ∧ Str2Post (natS r) (natS (a - r * r)) 0 w e w') := by
  have hm := may1 ha
  have hwa := fits_words ha
  go_enter Try.func51, Try.ntmps51
  go_wp2_with fail
  refine (Check_c _ _).mono ?_
  rintro e w1 ⟨rfl, hb1⟩
  go_wp2_with fail
  refine (words_c a _ ha).mono ?_
  intro e w2 hp
  obtain ⟨A1, c1, rfl, hc1, hr1, hb2⟩ := hp.get
  have HR1 := Lib.hid hr1
  clear hr1 hp
  go_wp2_with fail
  refine (Root_c A1 c1 a w2 (by omega) HR1.out).mono ?_
  rintro e w3 ⟨r, hrt, hp⟩
  obtain ⟨A2, c2, rfl, hc2, hr2, hb3⟩ := hp.get
  have HRT := Lib.hid hrt
  have hwr : nd W r ≤ nd W a := nd_mono W2 (root_le hrt)
  have HWR : Hid (nd W r ≤ 10000000) := Lib.hid (by omega)
  have hws : nd W (a - r * r) ≤ nd W a := nd_mono W2 (Nat.sub_le _ _)
  have HWS : Hid (nd W (a - r * r) ≤ 10000000) := Lib.hid (by omega)
  have HWA : Hid (nd W a ≤ 10000000) := Lib.hid (by omega)
  have HR2 := Lib.hid hr2
  have HR13 := Lib.hid ((HR1.out.below hb3).more hb3.size)
  have hbw := below_chain hb1 (below_chain hb2 hb3)
  clear hr2 hp hrt hb1 hb2 hb3 HR1 hwr hws hwa hm
  go_wp2_with fail
  refine (Bytes_c A2 c2 r w3.heap.size w3 (by have := HWR.out; omega) HR2.out (Nat.le_refl _)).mono ?_
  rintro e w4 ⟨rfl, hb4⟩
  have HR24 := Lib.hid ((HR2.out.below hb4).more hb4.size)
  have HR14 := Lib.hid ((HR13.out.below hb4).more hb4.size)
  have hbw4 := below_chain hbw hb4
  clear HR2 HR13 hb4 hbw
  go_wp2_with fail
  refine (Mul_c A2 A2 c2 c2 r r w4.heap.size w4 (by have := HWR.out; omega) HR24.out HR24.out (Nat.le_refl _)).mono ?_
  intro e w5 hp
  obtain ⟨A5, c5, rfl, hc5, hr5, hb5⟩ := hp.get
  have HR5 := Lib.hid hr5
  have HR15 := Lib.hid ((HR14.out.below hb5).more hb5.size)
  have hbw5 := below_chain hbw4 hb5
  clear hp hr5 hb5 hbw4 HR24 HR14
  go_wp2_with fail
  refine (Sub_c A1 A5 c1 c5 a (r * r) w5.heap.size w5 HRT.out.1 (by have := HWA.out; omega) HR15.out HR5.out (Nat.le_refl _)).mono ?_
  intro e w6 hp
  obtain ⟨A6, c6, rfl, hc6, hr6, hb6⟩ := hp.get
  have HR6 := Lib.hid hr6
  have hbw6 := below_chain hbw5 hb6
  clear hp hr6 hb6 hbw5 HR15 HR5
  go_wp2_with fail
  refine (Bytes_c A6 c6 (a - r * r) w6.heap.size w6 (by have := HWS.out; omega) HR6.out (Nat.le_refl _)).mono ?_
  rintro e w7 ⟨rfl, hb7⟩
  have hfin := below_chain hbw6 hb7
  go_wp2
  first
    | (go_ret3; exact ⟨r, HRT.out, rfl, hfin⟩)
    | exact bodyPost_ret (v := .tuple #[.string (natS r), .string (natS (a - r * r)), .int .i64 0]) (by simp [results, Try.results51, go_sem]) rfl ⟨r, HRT.out, rfl, hfin⟩
end Go.Proofs.Ytjcicbnjoffbhaa
