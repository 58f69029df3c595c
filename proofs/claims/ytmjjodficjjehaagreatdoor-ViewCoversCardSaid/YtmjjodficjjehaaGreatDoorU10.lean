/- Texts put together: VRB VRE VRF Post DP GP VP. -/
import Derived.Test.YtmjjodficjjehaaGreatDoorU9
import Derived.Test.YtmjjodficjjehaaGreatDoorU8
import Derived.Deep.RegionHeld3
import Derived.Below
import Derived.ChangeSame
import Derived.Test.YtmjjodficjjehaaGreatDoorRows
import Derived.ProofKit
import Derived.Lib.SmallJoins
import Derived.OpenShut
import Derived.ShutString
import Derived.Deep.Strs
set_option linter.unusedSimpArgs false
set_option linter.unusedVariables false
namespace Go.Proofs.YtmjjodficjjehaaGreatDoor
open Go Go.RowKit Nt
attribute [local go_sem] store_cplx store_flt
@[reducible] def sqV (l m : Dy) (y : Int) : Array Value := #[.bool l.g, .string (natS l.n), .int .i64 l.x, .bool m.g, .string (natS m.n), .int .i64 m.x, .int .i64 y]
@[reducible] def uvV (l m U V : Dy) : Array Value := #[.bool l.g, .string (natS l.n), .int .i64 l.x, .bool m.g, .string (natS m.n), .int .i64 m.x, .bool U.g, .string (natS U.n), .int .i64 U.x, .bool m.g, .string (natS m.n), .int .i64 m.x, .bool l.g, .string (natS l.n), .int .i64 l.x, .bool V.g, .string (natS V.n), .int .i64 V.x, .bool U.g, .string (natS U.n), .int .i64 U.x, .bool V.g, .string (natS V.n), .int .i64 V.x]
set_option maxRecDepth 100000 in
set_option maxHeartbeats 4000000 in
theorem rCover_c (l m : Dy) (y : Int) (w : World) (hl : l.Ok) (hm : m.Ok) (he : -4096 ≤ y ∧ y ≤ 4096) (hG : Globs glT w) : Calls Tryz.prog 8 #[.agg #[.bool l.g, .string (natS l.n), .int .i64 l.x, .bool m.g, .string (natS m.n), .int .i64 m.x, .int .i64 y]] w (CvPost l m y w) := by
 unfold CvPost
 have HG := Lib.hid (fun W (hW : Below w.heap.size w W) => hG.below hW (Nat.le_refl _))
 obtain ⟨R, hR⟩ : ∃ R, R = w.heap.size + 1 := ⟨_, rfl⟩
 have HR := Lib.hid hR
 have C0 : Hid (CW w R #[.bool l.g, .string (natS l.n), .int .i64 l.x, .bool m.g, .string (natS m.n), .int .i64 m.x, .int .i64 y] ((w.alloc (.cells #[.bool l.g, .string (natS l.n), .int .i64 l.x, .bool m.g, .string (natS m.n), .int .i64 m.x, .int .i64 y] 26)).alloc (.cells #[.complex .f64 0 0, .float .f64 0] 30))) := Lib.hid ⟨((Below.refl _ _).alloc (Nat.le_refl _) _).alloc (by simp) _, (Blk.new w _ _).alloc _, Blk.new_at2 (by rw [hR]; simp)⟩
 have HL := Lib.hid hl
 have HM := Lib.hid hm
 have HE := Lib.hid he
 obtain ⟨s0, s1, s2, s3, s4, s5, s6, s7⟩ := C0.out.s
 have hz41 := (zero_of_info (P := Tryz.prog) (t := 41) (v := .agg #[.bool false, .string ⟨#[]⟩, .int .i64 0, .bool false, .string ⟨#[]⟩, .int .i64 0, .bool false, .string ⟨#[]⟩, .int .i64 0, .bool false, .string ⟨#[]⟩, .int .i64 0, .bool false, .string ⟨#[]⟩, .int .i64 0, .bool false, .string ⟨#[]⟩, .int .i64 0, .bool false, .string ⟨#[]⟩, .int .i64 0, .bool false, .string ⟨#[]⟩, .int .i64 0]) (n := 24) (by kernel_rfl)).1
 have HZI : Hid ((Tryz.prog.info? 41).map (·.size) = some 24) := Lib.hid (by kernel_rfl)
 clear hG hR
 by_cases k1 : addE l (pw y) = 0 ∧ addE m (pw y) = 0
 ·by_cases k2 : addE l (pw (y - 1)) = 0 ∧ addE m (pw (y - 1)) = 0
  ·have HF : Hid (cvFit l m y) := Lib.hid ⟨k1, k2⟩
   obtain ⟨M, hM⟩ : ∃ M, M = midG l m y := ⟨_, rfl⟩
   obtain ⟨C, hC⟩ : ∃ C, C = cvC l m y := ⟨_, rfl⟩
   obtain ⟨cs, hcs⟩ : ∃ cs, cs = cnr l m y := ⟨_, rfl⟩
   obtain ⟨U, hU⟩ : ∃ U, U = addD l (pw y) := ⟨_, rfl⟩
   obtain ⟨V, hV⟩ : ∃ V, V = addD m (pw y) := ⟨_, rfl⟩
   have HMO : Hid M.Ok := Lib.hid (by rw [hM]; exact midG_Ok hl hm)
   have KM : Hid (∀ W, Below w.heap.size w W → Calls Tryz.prog 25 #[.agg #[.bool l.g, .string (natS l.n), .int .i64 l.x, .bool m.g, .string (natS m.n), .int .i64 m.x, .int .i64 y]] W fun e w' => e = .returned (.tuple #[.agg #[.bool M.re.g, .string (natS M.re.n), .int .i64 M.re.x, .bool M.im.g, .string (natS M.im.n), .int .i64 M.im.x], .int .i64 0]) ∧ Below W.heap.size W w') := Lib.hid (fun W hW => by rw [hM]; exact rMid_ok l m y W hl hm he k2.1 k2.2 (HG.out W hW))
   have KC : Hid (∀ W, Below w.heap.size w W → Calls Tryz.prog 24 #[.agg #[.bool l.g, .string (natS l.n), .int .i64 l.x, .bool m.g, .string (natS m.n), .int .i64 m.x, .int .i64 y]] W fun e w' => e = .returned (.tuple #[.agg #[.bool l.g, .string (natS l.n), .int .i64 l.x, .bool m.g, .string (natS m.n), .int .i64 m.x, .bool U.g, .string (natS U.n), .int .i64 U.x, .bool m.g, .string (natS m.n), .int .i64 m.x, .bool l.g, .string (natS l.n), .int .i64 l.x, .bool V.g, .string (natS V.n), .int .i64 V.x, .bool U.g, .string (natS U.n), .int .i64 U.x, .bool V.g, .string (natS V.n), .int .i64 V.x], .int .i64 0]) ∧ Below W.heap.size W w') := Lib.hid (fun W hW => by rw [hU, hV]; exact rCorn_ok l m y W hl hm he k1.1 k1.2 (HG.out W hW))
   have HCO : Hid (∀ q ∈ [(⟨l, m⟩ : Gs), ⟨U, m⟩, ⟨l, V⟩, ⟨U, V⟩], q.Ok) := Lib.hid (by rw [hU, hV]; exact cnr_Ok hl hm)
   have HCS : Hid (cs = [(⟨l, m⟩ : Gs), ⟨U, m⟩, ⟨l, V⟩, ⟨U, V⟩]) := Lib.hid (by rw [hcs, hU, hV]; rfl)
   have HCQ : Hid (C = ⟨flt (rdN M.re), flt (rdN M.im)⟩) := Lib.hid (by rw [hC, hM]; rfl)
   have HCC : Hid C.Ok := Lib.hid (by rw [hC]; exact cvC_Ok _ _ _)
   have HX64 : Hid (rdN M.re < 18446744073709551616 ∧ rdN M.im < 18446744073709551616) := Lib.hid ⟨rdN_64 HMO.out.1, rdN_64 HMO.out.2⟩
   have HINF : Hid (¬ (Bt.finB (rdN M.re) = true ∧ Bt.finB (rdN M.im) = true) → cvA l m y = ((0, 0, 0), 5)) := Lib.hid (by rw [hM]; exact cvA_inf HF.out)
   have HNV0 : Hid ((Bt.finB (rdN M.re) = true ∧ Bt.finB (rdN M.im) = true) → frS C cs Dy.zero = none → cvA l m y = ((0, 0, 0), 4)) := Lib.hid (by rw [hM, hC, hcs]; exact cvA_none HF.out)
   have HFA0 : Hid ((Bt.finB (rdN M.re) = true ∧ Bt.finB (rdN M.im) = true) → ∀ n, frS C cs Dy.zero = some n → ¬ rtU n < 9218868437227405312 → cvA l m y = ((0, 0, 0), 5)) := Lib.hid (by rw [hM, hC, hcs]; exact fun h n => cvA_far HF.out h)
   have HOA0 : Hid ((Bt.finB (rdN M.re) = true ∧ Bt.finB (rdN M.im) = true) → ∀ n, frS C cs Dy.zero = some n → rtU n < 9218868437227405312 → cvA l m y = ((rdN M.re, rdN M.im, rtU n), 0)) := Lib.hid (by rw [hM, hC, hcs]; exact fun h n => cvA_ok HF.out h)
   have HPOS : Hid (∀ n, frS C cs Dy.zero = some n → 0 < iv n) := Lib.hid (by rw [hC, hcs]; exact fun n h => cnr_pos (cvC_Ok _ _ _) hl hm he HF.out h)
   have KNR := Lib.hid (fun W (hW : Below w.heap.size w W) => rGNear_c M W HMO.out (HG.out W hW))
   clear hM hC hcs hU hV k1 k2 HF hl hm he HL HM HE
   go_enter Tryz.func8, Tryz.ntmps8
   go_wp2_with fail
   rw [← HR.out]
   refine (KC.out _ C0.out.low).mono ?_
   rintro e w1 ⟨rfl, hb⟩
   have C1 := Lib.hid ((C0.out.step hb).more (.cells #[.bool l.g, .string (natS l.n), .int .i64 l.x, .bool m.g, .string (natS m.n), .int .i64 m.x, .bool U.g, .string (natS U.n), .int .i64 U.x, .bool m.g, .string (natS m.n), .int .i64 m.x, .bool l.g, .string (natS l.n), .int .i64 l.x, .bool V.g, .string (natS V.n), .int .i64 V.x, .bool U.g, .string (natS U.n), .int .i64 U.x, .bool V.g, .string (natS V.n), .int .i64 V.x] 41))
   have L1 := Lib.hid (Blk.new w1 41 #[.bool l.g, .string (natS l.n), .int .i64 l.x, .bool m.g, .string (natS m.n), .int .i64 m.x, .bool U.g, .string (natS U.n), .int .i64 U.x, .bool m.g, .string (natS m.n), .int .i64 m.x, .bool l.g, .string (natS l.n), .int .i64 l.x, .bool V.g, .string (natS V.n), .int .i64 V.x, .bool U.g, .string (natS U.n), .int .i64 U.x, .bool V.g, .string (natS V.n), .int .i64 V.x])
   have hLB : R < w1.heap.size := (C0.out.step hb).r.1
   clear hb C0 s0 s1 s2 s3 s4 s5 s6 s7
   obtain ⟨s0, s1, s2, s3, s4, s5, s6, s7⟩ := C1.out.s
   go_wp2_with (first | (refine wpList_allocZ rfl 41 rfl #[.bool false, .string ⟨#[]⟩, .int .i64 0, .bool false, .string ⟨#[]⟩, .int .i64 0, .bool false, .string ⟨#[]⟩, .int .i64 0, .bool false, .string ⟨#[]⟩, .int .i64 0, .bool false, .string ⟨#[]⟩, .int .i64 0, .bool false, .string ⟨#[]⟩, .int .i64 0, .bool false, .string ⟨#[]⟩, .int .i64 0, .bool false, .string ⟨#[]⟩, .int .i64 0] hz41 ?_) | (refine wpList_storeNew rfl 41 (Operand.tmp 4) (Operand.tmp 24) rfl w1 #[.bool false, .string ⟨#[]⟩, .int .i64 0, .bool false, .string ⟨#[]⟩, .int .i64 0, .bool false, .string ⟨#[]⟩, .int .i64 0, .bool false, .string ⟨#[]⟩, .int .i64 0, .bool false, .string ⟨#[]⟩, .int .i64 0, .bool false, .string ⟨#[]⟩, .int .i64 0, .bool false, .string ⟨#[]⟩, .int .i64 0, .bool false, .string ⟨#[]⟩, .int .i64 0] #[.bool l.g, .string (natS l.n), .int .i64 l.x, .bool m.g, .string (natS m.n), .int .i64 m.x, .bool U.g, .string (natS U.n), .int .i64 U.x, .bool m.g, .string (natS m.n), .int .i64 m.x, .bool l.g, .string (natS l.n), .int .i64 l.x, .bool V.g, .string (natS V.n), .int .i64 V.x, .bool U.g, .string (natS U.n), .int .i64 U.x, .bool V.g, .string (natS V.n), .int .i64 V.x] ?_ ?_ ?_ ?_ ?_ ?_ ?_; exact rfl; exact rfl; exact rfl; exact HZI.out; exact rfl; exact one24 _ _ _ _ _ _ _ _ _ _ _ _ _ _ _ _ _ _ _ _ _ _ _ _))
   obtain ⟨LB, hLE⟩ : ∃ LB, LB = w1.heap.size := ⟨_, rfl⟩
   rw [← hLE]
   rw [← hLE] at L1 hLB
   clear hLE
   refine (KM.out _ C1.out.low).mono ?_
   rintro e w2 ⟨rfl, hb⟩
   have C2 := Lib.hid ((C1.out.step hb).more (.cells #[.bool M.re.g, .string (natS M.re.n), .int .i64 M.re.x, .bool M.im.g, .string (natS M.im.n), .int .i64 M.im.x] 40))
   have L2 := Lib.hid ((Blk.below L1.out hb (Blk.lt L1.out)).alloc (.cells #[.bool M.re.g, .string (natS M.re.n), .int .i64 M.re.x, .bool M.im.g, .string (natS M.im.n), .int .i64 M.im.x] 40))
   have BM := Lib.hid (Box6.new w2 (.bool M.re.g) (.string (natS M.re.n)) (.int .i64 M.re.x) (.bool M.im.g) (.string (natS M.im.n)) (.int .i64 M.im.x))
   clear hb C1 L1 s0 s1 s2 s3 s4 s5 s6 s7 KC KM
   obtain ⟨x0, x1, x2, x3, x4, x5, x6, x7, x8, x9, x10, x11, x12⟩ := BM.out.facts
   go_wp2_with fail
   refine (KNR.out _ C2.out.low).mono ?_
   rintro e w3 ⟨rfl, hb⟩
   have C3 := Lib.hid (C2.out.step hb)
   have L3 := Lib.hid (Blk.below L2.out hb (Blk.lt L2.out))
   clear hb C2 L2 BM KNR x0 x1 x2 x3 x4 x5 x6 x7 x8 x9 x10 x11 x12 HMO
   generalize rdN M.re = a at *
   generalize rdN M.im = b at *
   go_wp2_with fail
   by_cases hfin : Bt.finB a = true ∧ Bt.finB b = true
   ·have KX : Hid (∀ W, Below w.heap.size w W → Calls Tryz.prog 27 #[.complex .f64 a b] W fun e w' => e = .returned (.tuple #[.agg #[.bool C.re.g, .string (natS C.re.n), .int .i64 C.re.x, .bool C.im.g, .string (natS C.im.n), .int .i64 C.im.x], .int .i64 0]) ∧ Below W.heap.size W w') := Lib.hid (fun W hW => by rw [HCQ.out]; exact rCplx_ok a b W HX64.out.1 HX64.out.2 hfin.1 hfin.2 (HG.out W hW))
    have HNV := Lib.hid (HNV0.out hfin)
    have HFA := Lib.hid (HFA0.out hfin)
    have HOA := Lib.hid (HOA0.out hfin)
    clear HINF HNV0 HFA0 HOA0 hfin HCQ HX64
    refine (KX.out _ C3.out.low).mono ?_
    rintro e w4 ⟨rfl, hb⟩
    obtain ⟨CB, hCB⟩ : ∃ CB, CB = w4.heap.size := ⟨_, rfl⟩
    obtain ⟨NB, hNB⟩ : ∃ NB, NB = w4.heap.size + 1 := ⟨_, rfl⟩
    have hLC : LB < CB := by rw [hCB]; exact Blk.lt (Blk.below L3.out hb (Blk.lt L3.out))
    have hCN : CB < NB := by omega
    have T0 : CY w R (sqV l m y) LB (uvV l m U V) CB NB C Dy.zero ((w4.alloc (.cells #[.bool C.re.g, .string (natS C.re.n), .int .i64 C.re.x, .bool C.im.g, .string (natS C.im.n), .int .i64 C.im.x] 40)).alloc (.cells #[.bool false, .string ⟨#[]⟩, .int .i64 0] 24)) := by
     refine ⟨⟨((C3.out.step hb).more _).more _, ?_, ?_⟩, ((Blk.below L3.out hb (Blk.lt L3.out)).alloc _).alloc _, by have := HR.out; omega, hLB, hLC, hCN⟩
     ·rw [hCB]; exact (Box6.new w4 _ _ _ _ _ _).more _
     ·show Blk _ NB _ #[.bool false, .string (natS 0), .int .i64 0]
      rw [natS_zero]
      exact Blk.new_at2 (by rw [hNB]; simp)
    have HT0 := Lib.hid T0
    have HNBE := Lib.hid hNB
    have HCBE := Lib.hid hCB
    clear T0 hb C3 L3 hCB hNB KX
    go_wp2_with fail
    rw [← HNBE.out, ← HCBE.out]
    clear HCBE HNBE
    generalize ((w4.alloc (.cells #[.bool C.re.g, .string (natS C.re.n), .int .i64 C.re.x, .bool C.im.g, .string (natS C.im.n), .int .i64 C.im.x] 40)).alloc (.cells #[.bool false, .string ⟨#[]⟩, .int .i64 0] 24)) = w8 at *
    go_loopw [11] (fun i wr => ∃ (k : Nat) (n : Dy), k ≤ 4 ∧ i = .int .i64 k ∧ Hid n.Ok ∧ Hid (frS C cs Dy.zero = frS C (cs.drop k) n) ∧ Hid (CY w R (sqV l m y) LB (uvV l m U V) CB NB C n wr)) (fun i _ => 4 - (intOf i).toNat)
    case atStart => exact ⟨0, Dy.zero, by omega, rfl, Lib.hid (Or.inl rfl), Lib.hid rfl, HT0⟩
    case round =>
     clear HT0
     obtain ⟨k, n, hk, rfl, hno, hfr, hx⟩ := hrel
     rcases (show k = 0 ∨ k = 1 ∨ k = 2 ∨ k = 3 ∨ k = 4 by omega) with rfl | rfl | rfl | rfl | rfl
     ·have HQ : Hid ((⟨l, m⟩ : Gs).Ok) := Lib.hid (HCO.out _ (by simp))
      obtain ⟨D1, hD1⟩ : ∃ D, D = wayD C (⟨l, m⟩ : Gs) := ⟨_, rfl⟩
      obtain ⟨E1, hE1⟩ : ∃ E, E = wayE C (⟨l, m⟩ : Gs) := ⟨_, rfl⟩
      obtain ⟨N, hN⟩ : ∃ N, N = dotD D1 D1 := ⟨_, rfl⟩
      obtain ⟨F, hF⟩ : ∃ F, F = dotE D1 D1 := ⟨_, rfl⟩
      have hD1o : D1.Ok := by rw [hD1]; exact wayD_Ok HCC.out HQ.out
      have hNo : N.Ok := by rw [hN]; exact dotD_Ok _ _
      have KS : Hid (∀ W, Below w.heap.size w W → Calls Tryz.prog 28 #[.agg #[.bool l.g, .string (natS l.n), .int .i64 l.x, .bool m.g, .string (natS m.n), .int .i64 m.x], .agg #[.bool C.re.g, .string (natS C.re.n), .int .i64 C.re.x, .bool C.im.g, .string (natS C.im.n), .int .i64 C.im.x]] W fun e w' => e = .returned (.tuple #[.agg #[.bool D1.re.g, .string (natS D1.re.n), .int .i64 D1.re.x, .bool D1.im.g, .string (natS D1.im.n), .int .i64 D1.im.x], .int .i64 E1]) ∧ Below W.heap.size W w') := Lib.hid (fun W hW => by rw [hD1, hE1]; exact rGSub_c (⟨l, m⟩ : Gs) C W HQ.out HCC.out (HG.out W hW))
      have KN : Hid (∀ W, Below w.heap.size w W → Calls Tryz.prog 29 #[.agg #[.bool D1.re.g, .string (natS D1.re.n), .int .i64 D1.re.x, .bool D1.im.g, .string (natS D1.im.n), .int .i64 D1.im.x]] W fun e w' => e = .returned (.tuple #[.agg #[.bool N.g, .string (natS N.n), .int .i64 N.x], .int .i64 F]) ∧ Below W.heap.size W w') := Lib.hid (fun W hW => by rw [hN, hF]; exact rGNorm_n D1 W hD1o (HG.out W hW))
      have HFR : Hid (frS C cs Dy.zero = frS C ((⟨l, m⟩ : Gs) :: cs.drop 1) n) := Lib.hid (hfr.out.trans (by rw [HCS.out]; rfl))
      have HLE : Hid (E1 = 0 → F = 0 → cmpD n N < 0 → frS C cs Dy.zero = frS C (cs.drop 1) N) := Lib.hid (fun h1 h2 h3 => by subst hE1 hF hN hD1; rw [HFR.out, frS_le ⟨h1, h2⟩ (by omega)])
      have HGT : Hid (E1 = 0 → F = 0 → ¬ cmpD n N < 0 → frS C cs Dy.zero = frS C (cs.drop 1) n) := Lib.hid (fun h1 h2 h3 => by subst hE1 hF hN hD1; rw [HFR.out, frS_eq hno.out ⟨h1, h2⟩ h3])
      have HOF : Hid (¬ (E1 = 0 ∧ F = 0) → frS C cs Dy.zero = none) := Lib.hid (fun h => by subst hE1 hF hN hD1; rw [HFR.out, frS_off h])
      have HNO := Lib.hid hNo
      clear hD1 hE1 hN hF hD1o hNo HQ HFR hfr
      have hcy := hx.out
      have L0 := fun W (s : CY w R (sqV l m y) LB (uvV l m U V) CB NB C n W) => (Blk.cell s.bL 0).trans (show _ = some (.bool l.g : Value) from rfl)
      have L1 := fun W (s : CY w R (sqV l m y) LB (uvV l m U V) CB NB C n W) => (Blk.cell s.bL 1).trans (show _ = some (.string (natS l.n) : Value) from rfl)
      have L2 := fun W (s : CY w R (sqV l m y) LB (uvV l m U V) CB NB C n W) => (Blk.cell s.bL 2).trans (show _ = some (.int .i64 l.x : Value) from rfl)
      have L3 := fun W (s : CY w R (sqV l m y) LB (uvV l m U V) CB NB C n W) => (Blk.cell s.bL 3).trans (show _ = some (.bool m.g : Value) from rfl)
      have L4 := fun W (s : CY w R (sqV l m y) LB (uvV l m U V) CB NB C n W) => (Blk.cell s.bL 4).trans (show _ = some (.string (natS m.n) : Value) from rfl)
      have L5 := fun W (s : CY w R (sqV l m y) LB (uvV l m U V) CB NB C n W) => (Blk.cell s.bL 5).trans (show _ = some (.int .i64 m.x : Value) from rfl)
      have M0 := fun W (s : CY w R (sqV l m y) LB (uvV l m U V) CB NB C n W) => (Blk.cell s.cx.bC 0).trans (show _ = some (.bool C.re.g : Value) from rfl)
      have M1 := fun W (s : CY w R (sqV l m y) LB (uvV l m U V) CB NB C n W) => (Blk.cell s.cx.bC 1).trans (show _ = some (.string (natS C.re.n) : Value) from rfl)
      have M2 := fun W (s : CY w R (sqV l m y) LB (uvV l m U V) CB NB C n W) => (Blk.cell s.cx.bC 2).trans (show _ = some (.int .i64 C.re.x : Value) from rfl)
      have M3 := fun W (s : CY w R (sqV l m y) LB (uvV l m U V) CB NB C n W) => (Blk.cell s.cx.bC 3).trans (show _ = some (.bool C.im.g : Value) from rfl)
      have M4 := fun W (s : CY w R (sqV l m y) LB (uvV l m U V) CB NB C n W) => (Blk.cell s.cx.bC 4).trans (show _ = some (.string (natS C.im.n) : Value) from rfl)
      have M5 := fun W (s : CY w R (sqV l m y) LB (uvV l m U V) CB NB C n W) => (Blk.cell s.cx.bC 5).trans (show _ = some (.int .i64 C.im.x : Value) from rfl)
      go_upto_region 13 with fail
      go_cut [12, 13] from 48 to 76 (fun b12 b13 wc => ∃ Q, b12 = .pointer (some ⟨Q, 0, none⟩) ∧ b13 = .int .i64 E1 ∧ Hid (CY w R (sqV l m y) LB (uvV l m U V) CB NB C n wc) ∧ Hid (Box6 wc Q (.bool D1.re.g) (.string (natS D1.re.n)) (.int .i64 D1.re.x) (.bool D1.im.g) (.string (natS D1.im.n)) (.int .i64 D1.im.x)))
      case first =>
       go_region_held3 (fun W => CY w R (sqV l m y) LB (uvV l m U V) CB NB C n W) (with_reducible first | assumption | exact CY.drew (by assumption) | exact CY.drawn (by assumption) _ | exact CY.step (by assumption) (by assumption) | exact CY.more (by assumption) _ | exact CY.drew (CY.more (by assumption) _) | exact CY.drew (CY.drew (CY.more (by assumption) _)) | exact CY.put6 (by assumption) (CY.nb (by assumption)) _ _ _ _ _ _ | exact CY.put6 (CY.drew (CY.more (by assumption) _)) (CY.nb (by assumption)) _ _ _ _ _ _ | exact CY.put6 (CY.more (by assumption) _) (CY.nb (by assumption)) _ _ _ _ _ _)
        (first
         | (go_at_call 28; (with_reducible refine (KS.out _ ?_).mono ?_); (exact CY.low (CY.drew (CY.more (by assumption) _))); rintro e w5 ⟨rfl, hb⟩; have BOX := Box6.step (Box6.drew (Box6.new _ (.bool false) (.string ⟨#[]⟩) (.int .i64 0) (.bool false) (.string ⟨#[]⟩) (.int .i64 0))) hb; have SV5 := CY.step (CY.drew (CY.more hcy (.cells #[.bool false, .string ⟨#[]⟩, .int .i64 0, .bool false, .string ⟨#[]⟩, .int .i64 0] 40))) hb; obtain ⟨c0, c1, c2, c3, c4, c5, c6, c7, c8, c9, c10, c11, c12⟩ := BOX.facts)
         | (go_at_call 28; (with_reducible refine (KS.out _ ?_).mono ?_); (with_reducible first | exact CY.low (by assumption) | exact CY.low (CY.drew (by assumption))); rintro e w5 ⟨rfl, hb⟩; have SV5 := CY.step (CY.drew hcy) hb))
       all_goals
        rename_i hHeld
        have HX1 := Lib.hid hHeld
        clear L0 M0 L1 M1 L2 M2 L3 M3 L4 M4 L5 M5 hHeld
        go_wp2_with fail
        go_meet
        first
         | exact ⟨_, rfl, rfl, HX1, Lib.hid (Box6.put BOX _ _ _ _ _ _)⟩
         | exact ⟨_, rfl, rfl, HX1, Lib.hid (Box6.new _ _ _ _ _ _ _)⟩
      case rest =>
       clear L0 M0 L1 M1 L2 M2 L3 M3 L4 M4 L5 M5 hcy KS hx
       obtain ⟨Q, rfl, rfl, hx2, hq⟩ := hcut
       obtain ⟨c0, c1, c2, c3, c4, c5, c6, c7, c8, c9, c10, c11, c12⟩ := hq.out.facts
       by_cases e1 : E1 = 0
       ·subst e1
        by_cases f1 : F = 0
        ·subst f1
         by_cases cc : cmpD n N < 0
         ·have KU := Lib.hid (fun w => rCmpD3_c n N w hno.out HNO.out)
          have HZ := Lib.hid (HLE.out rfl rfl cc)
          generalize cmpD n N = ct at *
          have hz : decide (ct < 0) = true := by simp; omega
          clear HLE HGT HOF
          go_wp2_with fail
          refine (KN.out _ hx2.out.low).mono ?_
          rintro e w6 ⟨rfl, hb⟩
          have X2 := Lib.hid (hx2.out.step hb)
          have X3 := Lib.hid (X2.out.more (.cells #[.bool N.g, .string (natS N.n), .int .i64 N.x] 24))
          clear hb KN hx2 c0 c1 c2 c3 c4 c5 c6 c7 c8 c9 c10 c11 c12
          obtain ⟨p0, p1, p2, p3, p4, p5, p6⟩ := X3.out.cx.bN.facts
          go_wp2_with fail
          refine (KU.out _).mono ?_
          rintro e w7 ⟨rfl, hb⟩
          have X4 := Lib.hid (X3.out.step hb)
          have BN := Lib.hid ((Box3.new w6 (.bool N.g) (.string (natS N.n)) (.int .i64 N.x)).step hb)
          clear hb KU X2 X3 p0 p1 p2 p3 p4 p5 p6
          obtain ⟨p0, p1, p2, p3, p4, p5, p6⟩ := X4.out.cx.bN.facts
          obtain ⟨v0, v1, v2, v3, v4, v5, v6⟩ := BN.out.facts
          go_wp2_with fail
          go_roundw
          case rel => exact ⟨1, N, by omega, by first | rfl | go_num, HNO, HZ, Lib.hid (X4.out.put N)⟩
          case measure => simp [intOf]
         ·have KU := Lib.hid (fun w => rCmpD3_c n N w hno.out HNO.out)
          have HZ := Lib.hid (HGT.out rfl rfl (by omega))
          generalize cmpD n N = ct at *
          have hz : decide (ct < 0) = false := by simp; omega
          clear HLE HGT HOF
          go_wp2_with fail
          refine (KN.out _ hx2.out.low).mono ?_
          rintro e w6 ⟨rfl, hb⟩
          have X2 := Lib.hid (hx2.out.step hb)
          have X3 := Lib.hid (X2.out.more (.cells #[.bool N.g, .string (natS N.n), .int .i64 N.x] 24))
          clear hb KN hx2 c0 c1 c2 c3 c4 c5 c6 c7 c8 c9 c10 c11 c12
          obtain ⟨p0, p1, p2, p3, p4, p5, p6⟩ := X3.out.cx.bN.facts
          go_wp2_with fail
          refine (KU.out _).mono ?_
          rintro e w7 ⟨rfl, hb⟩
          have X4 := Lib.hid (X3.out.step hb)
          have BN := Lib.hid ((Box3.new w6 (.bool N.g) (.string (natS N.n)) (.int .i64 N.x)).step hb)
          clear hb KU X2 X3 p0 p1 p2 p3 p4 p5 p6
          obtain ⟨p0, p1, p2, p3, p4, p5, p6⟩ := X4.out.cx.bN.facts
          obtain ⟨v0, v1, v2, v3, v4, v5, v6⟩ := BN.out.facts
          go_wp2_with fail
          go_roundw
          case rel => exact ⟨1, n, by omega, by first | rfl | go_num, hno, HZ, X4⟩
          case measure => simp [intOf]
        ·have hz : (F != 0) = true := by simpa using f1
         have HV : Hid (cvA l m y = ((0, 0, 0), 4)) := Lib.hid (HNV.out (HOF.out (fun c => f1 c.2)))
         clear f1 HLE HGT HOF
         go_wp2_with fail
         refine (KN.out _ hx2.out.low).mono ?_
         rintro e w6 ⟨rfl, hb⟩
         have X2 := Lib.hid (hx2.out.step hb)
         have X3 := Lib.hid (X2.out.more (.cells #[.bool N.g, .string (natS N.n), .int .i64 N.x] 24))
         clear hb KN hx2 c0 c1 c2 c3 c4 c5 c6 c7 c8 c9 c10 c11 c12
         have CW2 := Lib.hid X2.out.cx.cw
         have HY := Lib.hid ((Blk.put2 CW2.out.bR (.complex .f64 0 0) (.float .f64 0)).alloc (.cells #[.bool N.g, .string (natS N.n), .int .i64 N.x] 24))
         obtain ⟨qlt, q0, q1, f0, f1⟩ := CW2.out.r
         have HLW := Lib.hid CW2.out.low
         go_wp2_with fail
         have y0 := (Blk.cell HY.out 0).trans (show _ = some (.complex .f64 0 0 : Value) from rfl)
         have y1 := (Blk.cell HY.out 1).trans (show _ = some (.float .f64 0 : Value) from rfl)
         refine bodyPost_ret (v := .tuple #[.agg #[.complex .f64 0 0, .float .f64 0], .int .i64 4]) (by simp [results, Tryz.results8, go_sem, y0, y1]) rfl ⟨by rw [HV.out], ?_⟩
         have hp := below_put2 HLW.out (show w.heap.size ≤ R by have := HR.out; omega) (.complex .f64 0 0) (.float .f64 0)
         exact hp.alloc (by first | exact hp.size | (have := hp.size; simp at this ⊢; omega)) _
       ·have hz : (E1 != 0) = true := by simpa using e1
        have HV : Hid (cvA l m y = ((0, 0, 0), 4)) := Lib.hid (HNV.out (HOF.out (fun c => e1 c.1)))
        clear e1 HLE HGT HOF
        go_wp2_with fail
        refine (KN.out _ hx2.out.low).mono ?_
        rintro e w6 ⟨rfl, hb⟩
        have X2 := Lib.hid (hx2.out.step hb)
        have X3 := Lib.hid (X2.out.more (.cells #[.bool N.g, .string (natS N.n), .int .i64 N.x] 24))
        clear hb KN hx2 c0 c1 c2 c3 c4 c5 c6 c7 c8 c9 c10 c11 c12
        have CW2 := Lib.hid X2.out.cx.cw
        have HY := Lib.hid ((Blk.put2 CW2.out.bR (.complex .f64 0 0) (.float .f64 0)).alloc (.cells #[.bool N.g, .string (natS N.n), .int .i64 N.x] 24))
        obtain ⟨qlt, q0, q1, f0, f1⟩ := CW2.out.r
        have HLW := Lib.hid CW2.out.low
        go_wp2_with fail
        have y0 := (Blk.cell HY.out 0).trans (show _ = some (.complex .f64 0 0 : Value) from rfl)
        have y1 := (Blk.cell HY.out 1).trans (show _ = some (.float .f64 0 : Value) from rfl)
        refine bodyPost_ret (v := .tuple #[.agg #[.complex .f64 0 0, .float .f64 0], .int .i64 4]) (by simp [results, Tryz.results8, go_sem, y0, y1]) rfl ⟨by rw [HV.out], ?_⟩
        have hp := below_put2 HLW.out (show w.heap.size ≤ R by have := HR.out; omega) (.complex .f64 0 0) (.float .f64 0)
        exact hp.alloc (by first | exact hp.size | (have := hp.size; simp at this ⊢; omega)) _
     ·have HQ : Hid ((⟨U, m⟩ : Gs).Ok) := Lib.hid (HCO.out _ (by simp))
      obtain ⟨D1, hD1⟩ : ∃ D, D = wayD C (⟨U, m⟩ : Gs) := ⟨_, rfl⟩
      obtain ⟨E1, hE1⟩ : ∃ E, E = wayE C (⟨U, m⟩ : Gs) := ⟨_, rfl⟩
      obtain ⟨N, hN⟩ : ∃ N, N = dotD D1 D1 := ⟨_, rfl⟩
      obtain ⟨F, hF⟩ : ∃ F, F = dotE D1 D1 := ⟨_, rfl⟩
      have hD1o : D1.Ok := by rw [hD1]; exact wayD_Ok HCC.out HQ.out
      have hNo : N.Ok := by rw [hN]; exact dotD_Ok _ _
      have KS : Hid (∀ W, Below w.heap.size w W → Calls Tryz.prog 28 #[.agg #[.bool U.g, .string (natS U.n), .int .i64 U.x, .bool m.g, .string (natS m.n), .int .i64 m.x], .agg #[.bool C.re.g, .string (natS C.re.n), .int .i64 C.re.x, .bool C.im.g, .string (natS C.im.n), .int .i64 C.im.x]] W fun e w' => e = .returned (.tuple #[.agg #[.bool D1.re.g, .string (natS D1.re.n), .int .i64 D1.re.x, .bool D1.im.g, .string (natS D1.im.n), .int .i64 D1.im.x], .int .i64 E1]) ∧ Below W.heap.size W w') := Lib.hid (fun W hW => by rw [hD1, hE1]; exact rGSub_c (⟨U, m⟩ : Gs) C W HQ.out HCC.out (HG.out W hW))
      have KN : Hid (∀ W, Below w.heap.size w W → Calls Tryz.prog 29 #[.agg #[.bool D1.re.g, .string (natS D1.re.n), .int .i64 D1.re.x, .bool D1.im.g, .string (natS D1.im.n), .int .i64 D1.im.x]] W fun e w' => e = .returned (.tuple #[.agg #[.bool N.g, .string (natS N.n), .int .i64 N.x], .int .i64 F]) ∧ Below W.heap.size W w') := Lib.hid (fun W hW => by rw [hN, hF]; exact rGNorm_n D1 W hD1o (HG.out W hW))
      have HFR : Hid (frS C cs Dy.zero = frS C ((⟨U, m⟩ : Gs) :: cs.drop 2) n) := Lib.hid (hfr.out.trans (by rw [HCS.out]; rfl))
      have HLE : Hid (E1 = 0 → F = 0 → cmpD n N < 0 → frS C cs Dy.zero = frS C (cs.drop 2) N) := Lib.hid (fun h1 h2 h3 => by subst hE1 hF hN hD1; rw [HFR.out, frS_le ⟨h1, h2⟩ (by omega)])
      have HGT : Hid (E1 = 0 → F = 0 → ¬ cmpD n N < 0 → frS C cs Dy.zero = frS C (cs.drop 2) n) := Lib.hid (fun h1 h2 h3 => by subst hE1 hF hN hD1; rw [HFR.out, frS_eq hno.out ⟨h1, h2⟩ h3])
      have HOF : Hid (¬ (E1 = 0 ∧ F = 0) → frS C cs Dy.zero = none) := Lib.hid (fun h => by subst hE1 hF hN hD1; rw [HFR.out, frS_off h])
      have HNO := Lib.hid hNo
      clear hD1 hE1 hN hF hD1o hNo HQ HFR hfr
      have hcy := hx.out
      have L0 := fun W (s : CY w R (sqV l m y) LB (uvV l m U V) CB NB C n W) => (Blk.cell s.bL 6).trans (show _ = some (.bool U.g : Value) from rfl)
      have L1 := fun W (s : CY w R (sqV l m y) LB (uvV l m U V) CB NB C n W) => (Blk.cell s.bL 7).trans (show _ = some (.string (natS U.n) : Value) from rfl)
      have L2 := fun W (s : CY w R (sqV l m y) LB (uvV l m U V) CB NB C n W) => (Blk.cell s.bL 8).trans (show _ = some (.int .i64 U.x : Value) from rfl)
      have L3 := fun W (s : CY w R (sqV l m y) LB (uvV l m U V) CB NB C n W) => (Blk.cell s.bL 9).trans (show _ = some (.bool m.g : Value) from rfl)
      have L4 := fun W (s : CY w R (sqV l m y) LB (uvV l m U V) CB NB C n W) => (Blk.cell s.bL 10).trans (show _ = some (.string (natS m.n) : Value) from rfl)
      have L5 := fun W (s : CY w R (sqV l m y) LB (uvV l m U V) CB NB C n W) => (Blk.cell s.bL 11).trans (show _ = some (.int .i64 m.x : Value) from rfl)
      have M0 := fun W (s : CY w R (sqV l m y) LB (uvV l m U V) CB NB C n W) => (Blk.cell s.cx.bC 0).trans (show _ = some (.bool C.re.g : Value) from rfl)
      have M1 := fun W (s : CY w R (sqV l m y) LB (uvV l m U V) CB NB C n W) => (Blk.cell s.cx.bC 1).trans (show _ = some (.string (natS C.re.n) : Value) from rfl)
      have M2 := fun W (s : CY w R (sqV l m y) LB (uvV l m U V) CB NB C n W) => (Blk.cell s.cx.bC 2).trans (show _ = some (.int .i64 C.re.x : Value) from rfl)
      have M3 := fun W (s : CY w R (sqV l m y) LB (uvV l m U V) CB NB C n W) => (Blk.cell s.cx.bC 3).trans (show _ = some (.bool C.im.g : Value) from rfl)
      have M4 := fun W (s : CY w R (sqV l m y) LB (uvV l m U V) CB NB C n W) => (Blk.cell s.cx.bC 4).trans (show _ = some (.string (natS C.im.n) : Value) from rfl)
      have M5 := fun W (s : CY w R (sqV l m y) LB (uvV l m U V) CB NB C n W) => (Blk.cell s.cx.bC 5).trans (show _ = some (.int .i64 C.im.x : Value) from rfl)
      go_upto_region 13 with fail
      go_cut [12, 13] from 48 to 76 (fun b12 b13 wc => ∃ Q, b12 = .pointer (some ⟨Q, 0, none⟩) ∧ b13 = .int .i64 E1 ∧ Hid (CY w R (sqV l m y) LB (uvV l m U V) CB NB C n wc) ∧ Hid (Box6 wc Q (.bool D1.re.g) (.string (natS D1.re.n)) (.int .i64 D1.re.x) (.bool D1.im.g) (.string (natS D1.im.n)) (.int .i64 D1.im.x)))
      case first =>
       go_region_held3 (fun W => CY w R (sqV l m y) LB (uvV l m U V) CB NB C n W) (with_reducible first | assumption | exact CY.drew (by assumption) | exact CY.drawn (by assumption) _ | exact CY.step (by assumption) (by assumption) | exact CY.more (by assumption) _ | exact CY.drew (CY.more (by assumption) _) | exact CY.drew (CY.drew (CY.more (by assumption) _)) | exact CY.put6 (by assumption) (CY.nb (by assumption)) _ _ _ _ _ _ | exact CY.put6 (CY.drew (CY.more (by assumption) _)) (CY.nb (by assumption)) _ _ _ _ _ _ | exact CY.put6 (CY.more (by assumption) _) (CY.nb (by assumption)) _ _ _ _ _ _)
        (first
         | (go_at_call 28; (with_reducible refine (KS.out _ ?_).mono ?_); (exact CY.low (CY.drew (CY.more (by assumption) _))); rintro e w5 ⟨rfl, hb⟩; have BOX := Box6.step (Box6.drew (Box6.new _ (.bool false) (.string ⟨#[]⟩) (.int .i64 0) (.bool false) (.string ⟨#[]⟩) (.int .i64 0))) hb; have SV5 := CY.step (CY.drew (CY.more hcy (.cells #[.bool false, .string ⟨#[]⟩, .int .i64 0, .bool false, .string ⟨#[]⟩, .int .i64 0] 40))) hb; obtain ⟨c0, c1, c2, c3, c4, c5, c6, c7, c8, c9, c10, c11, c12⟩ := BOX.facts)
         | (go_at_call 28; (with_reducible refine (KS.out _ ?_).mono ?_); (with_reducible first | exact CY.low (by assumption) | exact CY.low (CY.drew (by assumption))); rintro e w5 ⟨rfl, hb⟩; have SV5 := CY.step (CY.drew hcy) hb))
       all_goals
        rename_i hHeld
        have HX1 := Lib.hid hHeld
        clear L0 M0 L1 M1 L2 M2 L3 M3 L4 M4 L5 M5 hHeld
        go_wp2_with fail
        go_meet
        first
         | exact ⟨_, rfl, rfl, HX1, Lib.hid (Box6.put BOX _ _ _ _ _ _)⟩
         | exact ⟨_, rfl, rfl, HX1, Lib.hid (Box6.new _ _ _ _ _ _ _)⟩
      case rest =>
       clear L0 M0 L1 M1 L2 M2 L3 M3 L4 M4 L5 M5 hcy KS hx
       obtain ⟨Q, rfl, rfl, hx2, hq⟩ := hcut
       obtain ⟨c0, c1, c2, c3, c4, c5, c6, c7, c8, c9, c10, c11, c12⟩ := hq.out.facts
       by_cases e1 : E1 = 0
       ·subst e1
        by_cases f1 : F = 0
        ·subst f1
         by_cases cc : cmpD n N < 0
         ·have KU := Lib.hid (fun w => rCmpD3_c n N w hno.out HNO.out)
          have HZ := Lib.hid (HLE.out rfl rfl cc)
          generalize cmpD n N = ct at *
          have hz : decide (ct < 0) = true := by simp; omega
          clear HLE HGT HOF
          go_wp2_with fail
          refine (KN.out _ hx2.out.low).mono ?_
          rintro e w6 ⟨rfl, hb⟩
          have X2 := Lib.hid (hx2.out.step hb)
          have X3 := Lib.hid (X2.out.more (.cells #[.bool N.g, .string (natS N.n), .int .i64 N.x] 24))
          clear hb KN hx2 c0 c1 c2 c3 c4 c5 c6 c7 c8 c9 c10 c11 c12
          obtain ⟨p0, p1, p2, p3, p4, p5, p6⟩ := X3.out.cx.bN.facts
          go_wp2_with fail
          refine (KU.out _).mono ?_
          rintro e w7 ⟨rfl, hb⟩
          have X4 := Lib.hid (X3.out.step hb)
          have BN := Lib.hid ((Box3.new w6 (.bool N.g) (.string (natS N.n)) (.int .i64 N.x)).step hb)
          clear hb KU X2 X3 p0 p1 p2 p3 p4 p5 p6
          obtain ⟨p0, p1, p2, p3, p4, p5, p6⟩ := X4.out.cx.bN.facts
          obtain ⟨v0, v1, v2, v3, v4, v5, v6⟩ := BN.out.facts
          go_wp2_with fail
          go_roundw
          case rel => exact ⟨2, N, by omega, by first | rfl | go_num, HNO, HZ, Lib.hid (X4.out.put N)⟩
          case measure => simp [intOf]
         ·have KU := Lib.hid (fun w => rCmpD3_c n N w hno.out HNO.out)
          have HZ := Lib.hid (HGT.out rfl rfl (by omega))
          generalize cmpD n N = ct at *
          have hz : decide (ct < 0) = false := by simp; omega
          clear HLE HGT HOF
          go_wp2_with fail
          refine (KN.out _ hx2.out.low).mono ?_
          rintro e w6 ⟨rfl, hb⟩
          have X2 := Lib.hid (hx2.out.step hb)
          have X3 := Lib.hid (X2.out.more (.cells #[.bool N.g, .string (natS N.n), .int .i64 N.x] 24))
          clear hb KN hx2 c0 c1 c2 c3 c4 c5 c6 c7 c8 c9 c10 c11 c12
          obtain ⟨p0, p1, p2, p3, p4, p5, p6⟩ := X3.out.cx.bN.facts
          go_wp2_with fail
          refine (KU.out _).mono ?_
          rintro e w7 ⟨rfl, hb⟩
          have X4 := Lib.hid (X3.out.step hb)
          have BN := Lib.hid ((Box3.new w6 (.bool N.g) (.string (natS N.n)) (.int .i64 N.x)).step hb)
          clear hb KU X2 X3 p0 p1 p2 p3 p4 p5 p6
          obtain ⟨p0, p1, p2, p3, p4, p5, p6⟩ := X4.out.cx.bN.facts
          obtain ⟨v0, v1, v2, v3, v4, v5, v6⟩ := BN.out.facts
          go_wp2_with fail
          go_roundw
          case rel => exact ⟨2, n, by omega, by first | rfl | go_num, hno, HZ, X4⟩
          case measure => simp [intOf]
        ·have hz : (F != 0) = true := by simpa using f1
         have HV : Hid (cvA l m y = ((0, 0, 0), 4)) := Lib.hid (HNV.out (HOF.out (fun c => f1 c.2)))
         clear f1 HLE HGT HOF
         go_wp2_with fail
         refine (KN.out _ hx2.out.low).mono ?_
         rintro e w6 ⟨rfl, hb⟩
         have X2 := Lib.hid (hx2.out.step hb)
         have X3 := Lib.hid (X2.out.more (.cells #[.bool N.g, .string (natS N.n), .int .i64 N.x] 24))
         clear hb KN hx2 c0 c1 c2 c3 c4 c5 c6 c7 c8 c9 c10 c11 c12
         have CW2 := Lib.hid X2.out.cx.cw
         have HY := Lib.hid ((Blk.put2 CW2.out.bR (.complex .f64 0 0) (.float .f64 0)).alloc (.cells #[.bool N.g, .string (natS N.n), .int .i64 N.x] 24))
         obtain ⟨qlt, q0, q1, f0, f1⟩ := CW2.out.r
         have HLW := Lib.hid CW2.out.low
         go_wp2_with fail
         have y0 := (Blk.cell HY.out 0).trans (show _ = some (.complex .f64 0 0 : Value) from rfl)
         have y1 := (Blk.cell HY.out 1).trans (show _ = some (.float .f64 0 : Value) from rfl)
         refine bodyPost_ret (v := .tuple #[.agg #[.complex .f64 0 0, .float .f64 0], .int .i64 4]) (by simp [results, Tryz.results8, go_sem, y0, y1]) rfl ⟨by rw [HV.out], ?_⟩
         have hp := below_put2 HLW.out (show w.heap.size ≤ R by have := HR.out; omega) (.complex .f64 0 0) (.float .f64 0)
         exact hp.alloc (by first | exact hp.size | (have := hp.size; simp at this ⊢; omega)) _
       ·have hz : (E1 != 0) = true := by simpa using e1
        have HV : Hid (cvA l m y = ((0, 0, 0), 4)) := Lib.hid (HNV.out (HOF.out (fun c => e1 c.1)))
        clear e1 HLE HGT HOF
        go_wp2_with fail
        refine (KN.out _ hx2.out.low).mono ?_
        rintro e w6 ⟨rfl, hb⟩
        have X2 := Lib.hid (hx2.out.step hb)
        have X3 := Lib.hid (X2.out.more (.cells #[.bool N.g, .string (natS N.n), .int .i64 N.x] 24))
        clear hb KN hx2 c0 c1 c2 c3 c4 c5 c6 c7 c8 c9 c10 c11 c12
        have CW2 := Lib.hid X2.out.cx.cw
        have HY := Lib.hid ((Blk.put2 CW2.out.bR (.complex .f64 0 0) (.float .f64 0)).alloc (.cells #[.bool N.g, .string (natS N.n), .int .i64 N.x] 24))
        obtain ⟨qlt, q0, q1, f0, f1⟩ := CW2.out.r
        have HLW := Lib.hid CW2.out.low
        go_wp2_with fail
        have y0 := (Blk.cell HY.out 0).trans (show _ = some (.complex .f64 0 0 : Value) from rfl)
        have y1 := (Blk.cell HY.out 1).trans (show _ = some (.float .f64 0 : Value) from rfl)
        refine bodyPost_ret (v := .tuple #[.agg #[.complex .f64 0 0, .float .f64 0], .int .i64 4]) (by simp [results, Tryz.results8, go_sem, y0, y1]) rfl ⟨by rw [HV.out], ?_⟩
        have hp := below_put2 HLW.out (show w.heap.size ≤ R by have := HR.out; omega) (.complex .f64 0 0) (.float .f64 0)
        exact hp.alloc (by first | exact hp.size | (have := hp.size; simp at this ⊢; omega)) _
     ·have HQ : Hid ((⟨l, V⟩ : Gs).Ok) := Lib.hid (HCO.out _ (by simp))
      obtain ⟨D1, hD1⟩ : ∃ D, D = wayD C (⟨l, V⟩ : Gs) := ⟨_, rfl⟩
      obtain ⟨E1, hE1⟩ : ∃ E, E = wayE C (⟨l, V⟩ : Gs) := ⟨_, rfl⟩
      obtain ⟨N, hN⟩ : ∃ N, N = dotD D1 D1 := ⟨_, rfl⟩
      obtain ⟨F, hF⟩ : ∃ F, F = dotE D1 D1 := ⟨_, rfl⟩
      have hD1o : D1.Ok := by rw [hD1]; exact wayD_Ok HCC.out HQ.out
      have hNo : N.Ok := by rw [hN]; exact dotD_Ok _ _
      have KS : Hid (∀ W, Below w.heap.size w W → Calls Tryz.prog 28 #[.agg #[.bool l.g, .string (natS l.n), .int .i64 l.x, .bool V.g, .string (natS V.n), .int .i64 V.x], .agg #[.bool C.re.g, .string (natS C.re.n), .int .i64 C.re.x, .bool C.im.g, .string (natS C.im.n), .int .i64 C.im.x]] W fun e w' => e = .returned (.tuple #[.agg #[.bool D1.re.g, .string (natS D1.re.n), .int .i64 D1.re.x, .bool D1.im.g, .string (natS D1.im.n), .int .i64 D1.im.x], .int .i64 E1]) ∧ Below W.heap.size W w') := Lib.hid (fun W hW => by rw [hD1, hE1]; exact rGSub_c (⟨l, V⟩ : Gs) C W HQ.out HCC.out (HG.out W hW))
      have KN : Hid (∀ W, Below w.heap.size w W → Calls Tryz.prog 29 #[.agg #[.bool D1.re.g, .string (natS D1.re.n), .int .i64 D1.re.x, .bool D1.im.g, .string (natS D1.im.n), .int .i64 D1.im.x]] W fun e w' => e = .returned (.tuple #[.agg #[.bool N.g, .string (natS N.n), .int .i64 N.x], .int .i64 F]) ∧ Below W.heap.size W w') := Lib.hid (fun W hW => by rw [hN, hF]; exact rGNorm_n D1 W hD1o (HG.out W hW))
      have HFR : Hid (frS C cs Dy.zero = frS C ((⟨l, V⟩ : Gs) :: cs.drop 3) n) := Lib.hid (hfr.out.trans (by rw [HCS.out]; rfl))
      have HLE : Hid (E1 = 0 → F = 0 → cmpD n N < 0 → frS C cs Dy.zero = frS C (cs.drop 3) N) := Lib.hid (fun h1 h2 h3 => by subst hE1 hF hN hD1; rw [HFR.out, frS_le ⟨h1, h2⟩ (by omega)])
      have HGT : Hid (E1 = 0 → F = 0 → ¬ cmpD n N < 0 → frS C cs Dy.zero = frS C (cs.drop 3) n) := Lib.hid (fun h1 h2 h3 => by subst hE1 hF hN hD1; rw [HFR.out, frS_eq hno.out ⟨h1, h2⟩ h3])
      have HOF : Hid (¬ (E1 = 0 ∧ F = 0) → frS C cs Dy.zero = none) := Lib.hid (fun h => by subst hE1 hF hN hD1; rw [HFR.out, frS_off h])
      have HNO := Lib.hid hNo
      clear hD1 hE1 hN hF hD1o hNo HQ HFR hfr
      have hcy := hx.out
      have L0 := fun W (s : CY w R (sqV l m y) LB (uvV l m U V) CB NB C n W) => (Blk.cell s.bL 12).trans (show _ = some (.bool l.g : Value) from rfl)
      have L1 := fun W (s : CY w R (sqV l m y) LB (uvV l m U V) CB NB C n W) => (Blk.cell s.bL 13).trans (show _ = some (.string (natS l.n) : Value) from rfl)
      have L2 := fun W (s : CY w R (sqV l m y) LB (uvV l m U V) CB NB C n W) => (Blk.cell s.bL 14).trans (show _ = some (.int .i64 l.x : Value) from rfl)
      have L3 := fun W (s : CY w R (sqV l m y) LB (uvV l m U V) CB NB C n W) => (Blk.cell s.bL 15).trans (show _ = some (.bool V.g : Value) from rfl)
      have L4 := fun W (s : CY w R (sqV l m y) LB (uvV l m U V) CB NB C n W) => (Blk.cell s.bL 16).trans (show _ = some (.string (natS V.n) : Value) from rfl)
      have L5 := fun W (s : CY w R (sqV l m y) LB (uvV l m U V) CB NB C n W) => (Blk.cell s.bL 17).trans (show _ = some (.int .i64 V.x : Value) from rfl)
      have M0 := fun W (s : CY w R (sqV l m y) LB (uvV l m U V) CB NB C n W) => (Blk.cell s.cx.bC 0).trans (show _ = some (.bool C.re.g : Value) from rfl)
      have M1 := fun W (s : CY w R (sqV l m y) LB (uvV l m U V) CB NB C n W) => (Blk.cell s.cx.bC 1).trans (show _ = some (.string (natS C.re.n) : Value) from rfl)
      have M2 := fun W (s : CY w R (sqV l m y) LB (uvV l m U V) CB NB C n W) => (Blk.cell s.cx.bC 2).trans (show _ = some (.int .i64 C.re.x : Value) from rfl)
      have M3 := fun W (s : CY w R (sqV l m y) LB (uvV l m U V) CB NB C n W) => (Blk.cell s.cx.bC 3).trans (show _ = some (.bool C.im.g : Value) from rfl)
      have M4 := fun W (s : CY w R (sqV l m y) LB (uvV l m U V) CB NB C n W) => (Blk.cell s.cx.bC 4).trans (show _ = some (.string (natS C.im.n) : Value) from rfl)
      have M5 := fun W (s : CY w R (sqV l m y) LB (uvV l m U V) CB NB C n W) => (Blk.cell s.cx.bC 5).trans (show _ = some (.int .i64 C.im.x : Value) from rfl)
      go_upto_region 13 with fail
      go_cut [12, 13] from 48 to 76 (fun b12 b13 wc => ∃ Q, b12 = .pointer (some ⟨Q, 0, none⟩) ∧ b13 = .int .i64 E1 ∧ Hid (CY w R (sqV l m y) LB (uvV l m U V) CB NB C n wc) ∧ Hid (Box6 wc Q (.bool D1.re.g) (.string (natS D1.re.n)) (.int .i64 D1.re.x) (.bool D1.im.g) (.string (natS D1.im.n)) (.int .i64 D1.im.x)))
      case first =>
       go_region_held3 (fun W => CY w R (sqV l m y) LB (uvV l m U V) CB NB C n W) (with_reducible first | assumption | exact CY.drew (by assumption) | exact CY.drawn (by assumption) _ | exact CY.step (by assumption) (by assumption) | exact CY.more (by assumption) _ | exact CY.drew (CY.more (by assumption) _) | exact CY.drew (CY.drew (CY.more (by assumption) _)) | exact CY.put6 (by assumption) (CY.nb (by assumption)) _ _ _ _ _ _ | exact CY.put6 (CY.drew (CY.more (by assumption) _)) (CY.nb (by assumption)) _ _ _ _ _ _ | exact CY.put6 (CY.more (by assumption) _) (CY.nb (by assumption)) _ _ _ _ _ _)
        (first
         | (go_at_call 28; (with_reducible refine (KS.out _ ?_).mono ?_); (exact CY.low (CY.drew (CY.more (by assumption) _))); rintro e w5 ⟨rfl, hb⟩; have BOX := Box6.step (Box6.drew (Box6.new _ (.bool false) (.string ⟨#[]⟩) (.int .i64 0) (.bool false) (.string ⟨#[]⟩) (.int .i64 0))) hb; have SV5 := CY.step (CY.drew (CY.more hcy (.cells #[.bool false, .string ⟨#[]⟩, .int .i64 0, .bool false, .string ⟨#[]⟩, .int .i64 0] 40))) hb; obtain ⟨c0, c1, c2, c3, c4, c5, c6, c7, c8, c9, c10, c11, c12⟩ := BOX.facts)
         | (go_at_call 28; (with_reducible refine (KS.out _ ?_).mono ?_); (with_reducible first | exact CY.low (by assumption) | exact CY.low (CY.drew (by assumption))); rintro e w5 ⟨rfl, hb⟩; have SV5 := CY.step (CY.drew hcy) hb))
       all_goals
        rename_i hHeld
        have HX1 := Lib.hid hHeld
        clear L0 M0 L1 M1 L2 M2 L3 M3 L4 M4 L5 M5 hHeld
        go_wp2_with fail
        go_meet
        first
         | exact ⟨_, rfl, rfl, HX1, Lib.hid (Box6.put BOX _ _ _ _ _ _)⟩
         | exact ⟨_, rfl, rfl, HX1, Lib.hid (Box6.new _ _ _ _ _ _ _)⟩
      case rest =>
       clear L0 M0 L1 M1 L2 M2 L3 M3 L4 M4 L5 M5 hcy KS hx
       obtain ⟨Q, rfl, rfl, hx2, hq⟩ := hcut
       obtain ⟨c0, c1, c2, c3, c4, c5, c6, c7, c8, c9, c10, c11, c12⟩ := hq.out.facts
       by_cases e1 : E1 = 0
       ·subst e1
        by_cases f1 : F = 0
        ·subst f1
         by_cases cc : cmpD n N < 0
         ·have KU := Lib.hid (fun w => rCmpD3_c n N w hno.out HNO.out)
          have HZ := Lib.hid (HLE.out rfl rfl cc)
          generalize cmpD n N = ct at *
          have hz : decide (ct < 0) = true := by simp; omega
          clear HLE HGT HOF
          go_wp2_with fail
          refine (KN.out _ hx2.out.low).mono ?_
          rintro e w6 ⟨rfl, hb⟩
          have X2 := Lib.hid (hx2.out.step hb)
          have X3 := Lib.hid (X2.out.more (.cells #[.bool N.g, .string (natS N.n), .int .i64 N.x] 24))
          clear hb KN hx2 c0 c1 c2 c3 c4 c5 c6 c7 c8 c9 c10 c11 c12
          obtain ⟨p0, p1, p2, p3, p4, p5, p6⟩ := X3.out.cx.bN.facts
          go_wp2_with fail
          refine (KU.out _).mono ?_
          rintro e w7 ⟨rfl, hb⟩
          have X4 := Lib.hid (X3.out.step hb)
          have BN := Lib.hid ((Box3.new w6 (.bool N.g) (.string (natS N.n)) (.int .i64 N.x)).step hb)
          clear hb KU X2 X3 p0 p1 p2 p3 p4 p5 p6
          obtain ⟨p0, p1, p2, p3, p4, p5, p6⟩ := X4.out.cx.bN.facts
          obtain ⟨v0, v1, v2, v3, v4, v5, v6⟩ := BN.out.facts
          go_wp2_with fail
          go_roundw
          case rel => exact ⟨3, N, by omega, by first | rfl | go_num, HNO, HZ, Lib.hid (X4.out.put N)⟩
          case measure => simp [intOf]
         ·have KU := Lib.hid (fun w => rCmpD3_c n N w hno.out HNO.out)
          have HZ := Lib.hid (HGT.out rfl rfl (by omega))
          generalize cmpD n N = ct at *
          have hz : decide (ct < 0) = false := by simp; omega
          clear HLE HGT HOF
          go_wp2_with fail
          refine (KN.out _ hx2.out.low).mono ?_
          rintro e w6 ⟨rfl, hb⟩
          have X2 := Lib.hid (hx2.out.step hb)
          have X3 := Lib.hid (X2.out.more (.cells #[.bool N.g, .string (natS N.n), .int .i64 N.x] 24))
          clear hb KN hx2 c0 c1 c2 c3 c4 c5 c6 c7 c8 c9 c10 c11 c12
          obtain ⟨p0, p1, p2, p3, p4, p5, p6⟩ := X3.out.cx.bN.facts
          go_wp2_with fail
          refine (KU.out _).mono ?_
          rintro e w7 ⟨rfl, hb⟩
          have X4 := Lib.hid (X3.out.step hb)
          have BN := Lib.hid ((Box3.new w6 (.bool N.g) (.string (natS N.n)) (.int .i64 N.x)).step hb)
          clear hb KU X2 X3 p0 p1 p2 p3 p4 p5 p6
          obtain ⟨p0, p1, p2, p3, p4, p5, p6⟩ := X4.out.cx.bN.facts
          obtain ⟨v0, v1, v2, v3, v4, v5, v6⟩ := BN.out.facts
          go_wp2_with fail
          go_roundw
          case rel => exact ⟨3, n, by omega, by first | rfl | go_num, hno, HZ, X4⟩
          case measure => simp [intOf]
        ·have hz : (F != 0) = true := by simpa using f1
         have HV : Hid (cvA l m y = ((0, 0, 0), 4)) := Lib.hid (HNV.out (HOF.out (fun c => f1 c.2)))
         clear f1 HLE HGT HOF
         go_wp2_with fail
         refine (KN.out _ hx2.out.low).mono ?_
         rintro e w6 ⟨rfl, hb⟩
         have X2 := Lib.hid (hx2.out.step hb)
         have X3 := Lib.hid (X2.out.more (.cells #[.bool N.g, .string (natS N.n), .int .i64 N.x] 24))
         clear hb KN hx2 c0 c1 c2 c3 c4 c5 c6 c7 c8 c9 c10 c11 c12
         have CW2 := Lib.hid X2.out.cx.cw
         have HY := Lib.hid ((Blk.put2 CW2.out.bR (.complex .f64 0 0) (.float .f64 0)).alloc (.cells #[.bool N.g, .string (natS N.n), .int .i64 N.x] 24))
         obtain ⟨qlt, q0, q1, f0, f1⟩ := CW2.out.r
         have HLW := Lib.hid CW2.out.low
         go_wp2_with fail
         have y0 := (Blk.cell HY.out 0).trans (show _ = some (.complex .f64 0 0 : Value) from rfl)
         have y1 := (Blk.cell HY.out 1).trans (show _ = some (.float .f64 0 : Value) from rfl)
         refine bodyPost_ret (v := .tuple #[.agg #[.complex .f64 0 0, .float .f64 0], .int .i64 4]) (by simp [results, Tryz.results8, go_sem, y0, y1]) rfl ⟨by rw [HV.out], ?_⟩
         have hp := below_put2 HLW.out (show w.heap.size ≤ R by have := HR.out; omega) (.complex .f64 0 0) (.float .f64 0)
         exact hp.alloc (by first | exact hp.size | (have := hp.size; simp at this ⊢; omega)) _
       ·have hz : (E1 != 0) = true := by simpa using e1
        have HV : Hid (cvA l m y = ((0, 0, 0), 4)) := Lib.hid (HNV.out (HOF.out (fun c => e1 c.1)))
        clear e1 HLE HGT HOF
        go_wp2_with fail
        refine (KN.out _ hx2.out.low).mono ?_
        rintro e w6 ⟨rfl, hb⟩
        have X2 := Lib.hid (hx2.out.step hb)
        have X3 := Lib.hid (X2.out.more (.cells #[.bool N.g, .string (natS N.n), .int .i64 N.x] 24))
        clear hb KN hx2 c0 c1 c2 c3 c4 c5 c6 c7 c8 c9 c10 c11 c12
        have CW2 := Lib.hid X2.out.cx.cw
        have HY := Lib.hid ((Blk.put2 CW2.out.bR (.complex .f64 0 0) (.float .f64 0)).alloc (.cells #[.bool N.g, .string (natS N.n), .int .i64 N.x] 24))
        obtain ⟨qlt, q0, q1, f0, f1⟩ := CW2.out.r
        have HLW := Lib.hid CW2.out.low
        go_wp2_with fail
        have y0 := (Blk.cell HY.out 0).trans (show _ = some (.complex .f64 0 0 : Value) from rfl)
        have y1 := (Blk.cell HY.out 1).trans (show _ = some (.float .f64 0 : Value) from rfl)
        refine bodyPost_ret (v := .tuple #[.agg #[.complex .f64 0 0, .float .f64 0], .int .i64 4]) (by simp [results, Tryz.results8, go_sem, y0, y1]) rfl ⟨by rw [HV.out], ?_⟩
        have hp := below_put2 HLW.out (show w.heap.size ≤ R by have := HR.out; omega) (.complex .f64 0 0) (.float .f64 0)
        exact hp.alloc (by first | exact hp.size | (have := hp.size; simp at this ⊢; omega)) _
     ·have HQ : Hid ((⟨U, V⟩ : Gs).Ok) := Lib.hid (HCO.out _ (by simp))
      obtain ⟨D1, hD1⟩ : ∃ D, D = wayD C (⟨U, V⟩ : Gs) := ⟨_, rfl⟩
      obtain ⟨E1, hE1⟩ : ∃ E, E = wayE C (⟨U, V⟩ : Gs) := ⟨_, rfl⟩
      obtain ⟨N, hN⟩ : ∃ N, N = dotD D1 D1 := ⟨_, rfl⟩
      obtain ⟨F, hF⟩ : ∃ F, F = dotE D1 D1 := ⟨_, rfl⟩
      have hD1o : D1.Ok := by rw [hD1]; exact wayD_Ok HCC.out HQ.out
      have hNo : N.Ok := by rw [hN]; exact dotD_Ok _ _
      have KS : Hid (∀ W, Below w.heap.size w W → Calls Tryz.prog 28 #[.agg #[.bool U.g, .string (natS U.n), .int .i64 U.x, .bool V.g, .string (natS V.n), .int .i64 V.x], .agg #[.bool C.re.g, .string (natS C.re.n), .int .i64 C.re.x, .bool C.im.g, .string (natS C.im.n), .int .i64 C.im.x]] W fun e w' => e = .returned (.tuple #[.agg #[.bool D1.re.g, .string (natS D1.re.n), .int .i64 D1.re.x, .bool D1.im.g, .string (natS D1.im.n), .int .i64 D1.im.x], .int .i64 E1]) ∧ Below W.heap.size W w') := Lib.hid (fun W hW => by rw [hD1, hE1]; exact rGSub_c (⟨U, V⟩ : Gs) C W HQ.out HCC.out (HG.out W hW))
      have KN : Hid (∀ W, Below w.heap.size w W → Calls Tryz.prog 29 #[.agg #[.bool D1.re.g, .string (natS D1.re.n), .int .i64 D1.re.x, .bool D1.im.g, .string (natS D1.im.n), .int .i64 D1.im.x]] W fun e w' => e = .returned (.tuple #[.agg #[.bool N.g, .string (natS N.n), .int .i64 N.x], .int .i64 F]) ∧ Below W.heap.size W w') := Lib.hid (fun W hW => by rw [hN, hF]; exact rGNorm_n D1 W hD1o (HG.out W hW))
      have HFR : Hid (frS C cs Dy.zero = frS C ((⟨U, V⟩ : Gs) :: cs.drop 4) n) := Lib.hid (hfr.out.trans (by rw [HCS.out]; rfl))
      have HLE : Hid (E1 = 0 → F = 0 → cmpD n N < 0 → frS C cs Dy.zero = frS C (cs.drop 4) N) := Lib.hid (fun h1 h2 h3 => by subst hE1 hF hN hD1; rw [HFR.out, frS_le ⟨h1, h2⟩ (by omega)])
      have HGT : Hid (E1 = 0 → F = 0 → ¬ cmpD n N < 0 → frS C cs Dy.zero = frS C (cs.drop 4) n) := Lib.hid (fun h1 h2 h3 => by subst hE1 hF hN hD1; rw [HFR.out, frS_eq hno.out ⟨h1, h2⟩ h3])
      have HOF : Hid (¬ (E1 = 0 ∧ F = 0) → frS C cs Dy.zero = none) := Lib.hid (fun h => by subst hE1 hF hN hD1; rw [HFR.out, frS_off h])
      have HNO := Lib.hid hNo
      clear hD1 hE1 hN hF hD1o hNo HQ HFR hfr
      have hcy := hx.out
      have L0 := fun W (s : CY w R (sqV l m y) LB (uvV l m U V) CB NB C n W) => (Blk.cell s.bL 18).trans (show _ = some (.bool U.g : Value) from rfl)
      have L1 := fun W (s : CY w R (sqV l m y) LB (uvV l m U V) CB NB C n W) => (Blk.cell s.bL 19).trans (show _ = some (.string (natS U.n) : Value) from rfl)
      have L2 := fun W (s : CY w R (sqV l m y) LB (uvV l m U V) CB NB C n W) => (Blk.cell s.bL 20).trans (show _ = some (.int .i64 U.x : Value) from rfl)
      have L3 := fun W (s : CY w R (sqV l m y) LB (uvV l m U V) CB NB C n W) => (Blk.cell s.bL 21).trans (show _ = some (.bool V.g : Value) from rfl)
      have L4 := fun W (s : CY w R (sqV l m y) LB (uvV l m U V) CB NB C n W) => (Blk.cell s.bL 22).trans (show _ = some (.string (natS V.n) : Value) from rfl)
      have L5 := fun W (s : CY w R (sqV l m y) LB (uvV l m U V) CB NB C n W) => (Blk.cell s.bL 23).trans (show _ = some (.int .i64 V.x : Value) from rfl)
      have M0 := fun W (s : CY w R (sqV l m y) LB (uvV l m U V) CB NB C n W) => (Blk.cell s.cx.bC 0).trans (show _ = some (.bool C.re.g : Value) from rfl)
      have M1 := fun W (s : CY w R (sqV l m y) LB (uvV l m U V) CB NB C n W) => (Blk.cell s.cx.bC 1).trans (show _ = some (.string (natS C.re.n) : Value) from rfl)
      have M2 := fun W (s : CY w R (sqV l m y) LB (uvV l m U V) CB NB C n W) => (Blk.cell s.cx.bC 2).trans (show _ = some (.int .i64 C.re.x : Value) from rfl)
      have M3 := fun W (s : CY w R (sqV l m y) LB (uvV l m U V) CB NB C n W) => (Blk.cell s.cx.bC 3).trans (show _ = some (.bool C.im.g : Value) from rfl)
      have M4 := fun W (s : CY w R (sqV l m y) LB (uvV l m U V) CB NB C n W) => (Blk.cell s.cx.bC 4).trans (show _ = some (.string (natS C.im.n) : Value) from rfl)
      have M5 := fun W (s : CY w R (sqV l m y) LB (uvV l m U V) CB NB C n W) => (Blk.cell s.cx.bC 5).trans (show _ = some (.int .i64 C.im.x : Value) from rfl)
      go_upto_region 13 with fail
      go_cut [12, 13] from 48 to 76 (fun b12 b13 wc => ∃ Q, b12 = .pointer (some ⟨Q, 0, none⟩) ∧ b13 = .int .i64 E1 ∧ Hid (CY w R (sqV l m y) LB (uvV l m U V) CB NB C n wc) ∧ Hid (Box6 wc Q (.bool D1.re.g) (.string (natS D1.re.n)) (.int .i64 D1.re.x) (.bool D1.im.g) (.string (natS D1.im.n)) (.int .i64 D1.im.x)))
      case first =>
       go_region_held3 (fun W => CY w R (sqV l m y) LB (uvV l m U V) CB NB C n W) (with_reducible first | assumption | exact CY.drew (by assumption) | exact CY.drawn (by assumption) _ | exact CY.step (by assumption) (by assumption) | exact CY.more (by assumption) _ | exact CY.drew (CY.more (by assumption) _) | exact CY.drew (CY.drew (CY.more (by assumption) _)) | exact CY.put6 (by assumption) (CY.nb (by assumption)) _ _ _ _ _ _ | exact CY.put6 (CY.drew (CY.more (by assumption) _)) (CY.nb (by assumption)) _ _ _ _ _ _ | exact CY.put6 (CY.more (by assumption) _) (CY.nb (by assumption)) _ _ _ _ _ _)
        (first
         | (go_at_call 28; (with_reducible refine (KS.out _ ?_).mono ?_); (exact CY.low (CY.drew (CY.more (by assumption) _))); rintro e w5 ⟨rfl, hb⟩; have BOX := Box6.step (Box6.drew (Box6.new _ (.bool false) (.string ⟨#[]⟩) (.int .i64 0) (.bool false) (.string ⟨#[]⟩) (.int .i64 0))) hb; have SV5 := CY.step (CY.drew (CY.more hcy (.cells #[.bool false, .string ⟨#[]⟩, .int .i64 0, .bool false, .string ⟨#[]⟩, .int .i64 0] 40))) hb; obtain ⟨c0, c1, c2, c3, c4, c5, c6, c7, c8, c9, c10, c11, c12⟩ := BOX.facts)
         | (go_at_call 28; (with_reducible refine (KS.out _ ?_).mono ?_); (with_reducible first | exact CY.low (by assumption) | exact CY.low (CY.drew (by assumption))); rintro e w5 ⟨rfl, hb⟩; have SV5 := CY.step (CY.drew hcy) hb))
       all_goals
        rename_i hHeld
        have HX1 := Lib.hid hHeld
        clear L0 M0 L1 M1 L2 M2 L3 M3 L4 M4 L5 M5 hHeld
        go_wp2_with fail
        go_meet
        first
         | exact ⟨_, rfl, rfl, HX1, Lib.hid (Box6.put BOX _ _ _ _ _ _)⟩
         | exact ⟨_, rfl, rfl, HX1, Lib.hid (Box6.new _ _ _ _ _ _ _)⟩
      case rest =>
       clear L0 M0 L1 M1 L2 M2 L3 M3 L4 M4 L5 M5 hcy KS hx
       obtain ⟨Q, rfl, rfl, hx2, hq⟩ := hcut
       obtain ⟨c0, c1, c2, c3, c4, c5, c6, c7, c8, c9, c10, c11, c12⟩ := hq.out.facts
       by_cases e1 : E1 = 0
       ·subst e1
        by_cases f1 : F = 0
        ·subst f1
         by_cases cc : cmpD n N < 0
         ·have KU := Lib.hid (fun w => rCmpD3_c n N w hno.out HNO.out)
          have HZ := Lib.hid (HLE.out rfl rfl cc)
          generalize cmpD n N = ct at *
          have hz : decide (ct < 0) = true := by simp; omega
          clear HLE HGT HOF
          go_wp2_with fail
          refine (KN.out _ hx2.out.low).mono ?_
          rintro e w6 ⟨rfl, hb⟩
          have X2 := Lib.hid (hx2.out.step hb)
          have X3 := Lib.hid (X2.out.more (.cells #[.bool N.g, .string (natS N.n), .int .i64 N.x] 24))
          clear hb KN hx2 c0 c1 c2 c3 c4 c5 c6 c7 c8 c9 c10 c11 c12
          obtain ⟨p0, p1, p2, p3, p4, p5, p6⟩ := X3.out.cx.bN.facts
          go_wp2_with fail
          refine (KU.out _).mono ?_
          rintro e w7 ⟨rfl, hb⟩
          have X4 := Lib.hid (X3.out.step hb)
          have BN := Lib.hid ((Box3.new w6 (.bool N.g) (.string (natS N.n)) (.int .i64 N.x)).step hb)
          clear hb KU X2 X3 p0 p1 p2 p3 p4 p5 p6
          obtain ⟨p0, p1, p2, p3, p4, p5, p6⟩ := X4.out.cx.bN.facts
          obtain ⟨v0, v1, v2, v3, v4, v5, v6⟩ := BN.out.facts
          go_wp2_with fail
          go_roundw
          case rel => exact ⟨4, N, by omega, by first | rfl | go_num, HNO, HZ, Lib.hid (X4.out.put N)⟩
          case measure => simp [intOf]
         ·have KU := Lib.hid (fun w => rCmpD3_c n N w hno.out HNO.out)
          have HZ := Lib.hid (HGT.out rfl rfl (by omega))
          generalize cmpD n N = ct at *
          have hz : decide (ct < 0) = false := by simp; omega
          clear HLE HGT HOF
          go_wp2_with fail
          refine (KN.out _ hx2.out.low).mono ?_
          rintro e w6 ⟨rfl, hb⟩
          have X2 := Lib.hid (hx2.out.step hb)
          have X3 := Lib.hid (X2.out.more (.cells #[.bool N.g, .string (natS N.n), .int .i64 N.x] 24))
          clear hb KN hx2 c0 c1 c2 c3 c4 c5 c6 c7 c8 c9 c10 c11 c12
          obtain ⟨p0, p1, p2, p3, p4, p5, p6⟩ := X3.out.cx.bN.facts
          go_wp2_with fail
          refine (KU.out _).mono ?_
          rintro e w7 ⟨rfl, hb⟩
          have X4 := Lib.hid (X3.out.step hb)
          have BN := Lib.hid ((Box3.new w6 (.bool N.g) (.string (natS N.n)) (.int .i64 N.x)).step hb)
          clear hb KU X2 X3 p0 p1 p2 p3 p4 p5 p6
          obtain ⟨p0, p1, p2, p3, p4, p5, p6⟩ := X4.out.cx.bN.facts
          obtain ⟨v0, v1, v2, v3, v4, v5, v6⟩ := BN.out.facts
          go_wp2_with fail
          go_roundw
          case rel => exact ⟨4, n, by omega, by first | rfl | go_num, hno, HZ, X4⟩
          case measure => simp [intOf]
        ·have hz : (F != 0) = true := by simpa using f1
         have HV : Hid (cvA l m y = ((0, 0, 0), 4)) := Lib.hid (HNV.out (HOF.out (fun c => f1 c.2)))
         clear f1 HLE HGT HOF
         go_wp2_with fail
         refine (KN.out _ hx2.out.low).mono ?_
         rintro e w6 ⟨rfl, hb⟩
         have X2 := Lib.hid (hx2.out.step hb)
         have X3 := Lib.hid (X2.out.more (.cells #[.bool N.g, .string (natS N.n), .int .i64 N.x] 24))
         clear hb KN hx2 c0 c1 c2 c3 c4 c5 c6 c7 c8 c9 c10 c11 c12
         have CW2 := Lib.hid X2.out.cx.cw
         have HY := Lib.hid ((Blk.put2 CW2.out.bR (.complex .f64 0 0) (.float .f64 0)).alloc (.cells #[.bool N.g, .string (natS N.n), .int .i64 N.x] 24))
         obtain ⟨qlt, q0, q1, f0, f1⟩ := CW2.out.r
         have HLW := Lib.hid CW2.out.low
         go_wp2_with fail
         have y0 := (Blk.cell HY.out 0).trans (show _ = some (.complex .f64 0 0 : Value) from rfl)
         have y1 := (Blk.cell HY.out 1).trans (show _ = some (.float .f64 0 : Value) from rfl)
         refine bodyPost_ret (v := .tuple #[.agg #[.complex .f64 0 0, .float .f64 0], .int .i64 4]) (by simp [results, Tryz.results8, go_sem, y0, y1]) rfl ⟨by rw [HV.out], ?_⟩
         have hp := below_put2 HLW.out (show w.heap.size ≤ R by have := HR.out; omega) (.complex .f64 0 0) (.float .f64 0)
         exact hp.alloc (by first | exact hp.size | (have := hp.size; simp at this ⊢; omega)) _
       ·have hz : (E1 != 0) = true := by simpa using e1
        have HV : Hid (cvA l m y = ((0, 0, 0), 4)) := Lib.hid (HNV.out (HOF.out (fun c => e1 c.1)))
        clear e1 HLE HGT HOF
        go_wp2_with fail
        refine (KN.out _ hx2.out.low).mono ?_
        rintro e w6 ⟨rfl, hb⟩
        have X2 := Lib.hid (hx2.out.step hb)
        have X3 := Lib.hid (X2.out.more (.cells #[.bool N.g, .string (natS N.n), .int .i64 N.x] 24))
        clear hb KN hx2 c0 c1 c2 c3 c4 c5 c6 c7 c8 c9 c10 c11 c12
        have CW2 := Lib.hid X2.out.cx.cw
        have HY := Lib.hid ((Blk.put2 CW2.out.bR (.complex .f64 0 0) (.float .f64 0)).alloc (.cells #[.bool N.g, .string (natS N.n), .int .i64 N.x] 24))
        obtain ⟨qlt, q0, q1, f0, f1⟩ := CW2.out.r
        have HLW := Lib.hid CW2.out.low
        go_wp2_with fail
        have y0 := (Blk.cell HY.out 0).trans (show _ = some (.complex .f64 0 0 : Value) from rfl)
        have y1 := (Blk.cell HY.out 1).trans (show _ = some (.float .f64 0 : Value) from rfl)
        refine bodyPost_ret (v := .tuple #[.agg #[.complex .f64 0 0, .float .f64 0], .int .i64 4]) (by simp [results, Tryz.results8, go_sem, y0, y1]) rfl ⟨by rw [HV.out], ?_⟩
        have hp := below_put2 HLW.out (show w.heap.size ≤ R by have := HR.out; omega) (.complex .f64 0 0) (.float .f64 0)
        exact hp.alloc (by first | exact hp.size | (have := hp.size; simp at this ⊢; omega)) _
     ·have HS : Hid (frS C cs Dy.zero = some n) := Lib.hid (hfr.out.trans (by rw [HCS.out]; rfl))
      have HP := Lib.hid (rtU_pos hno.out (HPOS.out n HS.out))
      have HX := Lib.hid (rdN_le (HPOS.out n HS.out))
      have KR : Hid (∀ u rr W, u < 9218868437227405312 → (rr = true ↔ rtU n ≤ u) → Calls Tryz.prog 32 #[.agg #[.bool n.g, .string (natS n.n), .int .i64 n.x], .int .u64 (u : Nat)] W fun e w' => e = .returned (.bool rr) ∧ Below W.heap.size W w') := Lib.hid (fun u rr W hu hr => rEnough_c u n rr W hu hno.out (hr.trans (rtU_iff hno.out (by omega)).symm))
      have KNE := Lib.hid (fun W (hW : Below w.heap.size w W) => rNear_any n W hno.out (HG.out W hW))
      obtain ⟨p0, p1, p2, p3, p4, p5, p6⟩ := hx.out.cx.bN.facts
      have h31 := Bt.ext_bits
      have h35 := Bt.ext_from
      by_cases hr : rtU n < 9218868437227405312
      ·have HV := Lib.hid (HOA.out n HS.out hr)
       clear HS hfr HFA HNV HOA HPOS
       generalize rtU n = r at *
       obtain ⟨g, hg, hsq⟩ := Sqrt_f HX.out
       have KQ := Lib.hid hsq
       clear hsq HX
       generalize rdN n = nr at *
       obtain ⟨mo, hmo⟩ : ∃ mo : Nat, mo = 9218868437227405311 := ⟨_, rfl⟩
       obtain ⟨m8, hm8⟩ : ∃ m8 : Nat, m8 = 9218868437227405303 := ⟨_, rfl⟩
       have K0 := Lib.hid (fun W => KR.out mo true W (by omega) ⟨fun _ => by omega, fun _ => rfl⟩)
       have HMV := Lib.hid (And.intro hmo hm8)
       have hmi : (mo : Int) = 9218868437227405311 := by omega
       have hmj : ((9218868437227405311 : Nat) : Int) = (mo : Int) := by omega
       have hms : (mo : Int) - 8 = (m8 : Int) := by omega
       have hmb : mo < 9223372036854775808 := by omega
       clear hmo hm8
       go_upto_region 20 with fail
       first
        | rw [← hmi]
        | rw [hmj]
       clear hmi hmj
       go_wp2_with fail
       refine (K0.out _).mono ?_
       rintro e w5 ⟨rfl, hb⟩
       have X5 := Lib.hid (hx.out.step hb)
       clear hb hx p0 p1 p2 p3 p4 p5 p6
       obtain ⟨p0, p1, p2, p3, p4, p5, p6⟩ := X5.out.cx.bN.facts
       go_wp2_with fail
       refine (KNE.out _ X5.out.low).mono ?_
       rintro e w6 ⟨rfl, hb⟩
       have X9 := Lib.hid (X5.out.step hb)
       clear hb X5 p0 p1 p2 p3 p4 p5 p6 KNE K0
       obtain ⟨p0, p1, p2, p3, p4, p5, p6⟩ := X9.out.cx.bN.facts
       go_wp2_with fail
       refine (KQ.out _).mono ?_
       rintro e w7 ⟨rfl, rfl⟩
       clear KQ
       by_cases g1 : 8 < g
       ·obtain ⟨g8, hg8⟩ : ∃ g8, g8 = g - 8 := ⟨_, rfl⟩
        have hi8 : (g : Int) - 8 = (g8 : Int) := by omega
        by_cases g2 : g < m8
        ·obtain ⟨g9, hg9⟩ : ∃ g9, g9 = g + 8 := ⟨_, rfl⟩
         have hi9 : (g : Int) + 8 = (g9 : Int) := by omega
         by_cases g3 : r ≤ g8
         ·have K1 := Lib.hid (fun W => KR.out g8 true W (by have := HMV.out; omega) ⟨fun _ => g3, fun _ => rfl⟩)
          have HL : Hid (0 < r ∧ r ≤ mo ∧ mo < 9218868437227405312) := Lib.hid ⟨HP.out, by have := HMV.out; omega, by have := HMV.out; omega⟩
          clear g3 hg8 hg9
          go_wp2_with fail
          refine (K1.out _).mono ?_
          rintro e w8 ⟨rfl, hb⟩
          have X10 := Lib.hid (X9.out.step hb)
          clear hb X9 p0 p1 p2 p3 p4 p5 p6
          obtain ⟨p0, p1, p2, p3, p4, p5, p6⟩ := X10.out.cx.bN.facts
          go_wp2_with fail
          have X9 := X10
          have CYL := Lib.hid X9.out
          go_loopw [17, 18] (fun vl vh wr => ∃ lo hi : Nat, vl = .int .u64 (lo : Nat) ∧ vh = .int .u64 (hi : Nat) ∧ Hid (lo < r ∧ r ≤ hi) ∧ lo < hi ∧ hi < 9218868437227405312 ∧ Hid (CY w R (sqV l m y) LB (uvV l m U V) CB NB C n wr)) (fun vl vh _ => (intOf vh - intOf vl).toNat)
          case atStart => exact ⟨0, mo, by first | rfl | go_num, by first | rfl | go_num, Lib.hid ⟨HL.out.1, HL.out.2.1⟩, Nat.lt_of_lt_of_le HL.out.1 HL.out.2.1, HL.out.2.2, CYL⟩
          case round =>
           clear HL CYL X9
           obtain ⟨lo, hi, rfl, rfl, hxy, hle, hy, hc⟩ := hrel
           obtain ⟨p0, p1, p2, p3, p4, p5, p6⟩ := hc.out.cx.bN.facts
           by_cases hlt : 1 < hi - lo
           ·obtain ⟨v, hv⟩ : ∃ v, v = (hi - lo) / 2 := ⟨_, rfl⟩
            obtain ⟨z, hz⟩ : ∃ z, z = lo + v := ⟨_, rfl⟩
            have hz1 : lo < z := by omega
            have hz2 : z < hi := by omega
            have hq : ((hi : Int) - (lo : Int)) / 2 = (v : Int) := by omega
            have hzz : (lo : Int) + (v : Int) = (z : Int) := by omega
            have hgt : (1 : Int) < (hi : Int) - (lo : Int) := by omega
            clear hv
            have hz3 : z < 9218868437227405312 := by omega
            by_cases hr : r ≤ z
            ·have K := Lib.hid (KR.out z true wr hz3 ⟨fun _ => hr, fun _ => rfl⟩)
             have HZ := Lib.hid hr
             have HZ2 := Lib.hid (And.intro hz1 hz2)
             clear hr hz
             go_wp2_with fail
             refine K.out.mono ?_
             rintro e w5 ⟨rfl, hb5⟩
             have hc5 := Lib.hid (hc.out.step hb5)
             clear hb5 p0 p1 p2 p3 p4 p5 p6
             go_wp2_with fail
             go_roundw
             case rel => exact ⟨lo, z, rfl, by first | rfl | go_num, Lib.hid ⟨hxy.out.1, HZ.out⟩, HZ2.out.1, hz3, hc5⟩
             case measure => have := HZ2.out.2; simp [intOf]; omega
            ·have K := Lib.hid (KR.out z false wr hz3 ⟨fun h => absurd h (by decide), fun h => absurd h hr⟩)
             have HZ : Hid (z < r) := Lib.hid (Nat.lt_of_not_le hr)
             have HZ2 := Lib.hid (And.intro hz1 hz2)
             clear hr hz
             go_wp2_with fail
             refine K.out.mono ?_
             rintro e w5 ⟨rfl, hb5⟩
             have hc5 := Lib.hid (hc.out.step hb5)
             clear hb5 p0 p1 p2 p3 p4 p5 p6
             go_wp2_with fail
             go_roundw
             case rel => exact ⟨z, hi, by first | rfl | go_num, rfl, Lib.hid ⟨HZ.out, hxy.out.2⟩, HZ2.out.2, hy, hc5⟩
             case measure => have := HZ2.out.1; simp [intOf]; omega
           ·have HVV : Hid (cvA l m y = ((a, b, hi), 0)) := Lib.hid (by rw [HV.out, show r = hi from by have := hxy.out; omega])
            have hgt : ¬ (1 : Int) < (hi : Int) - (lo : Int) := by omega
            have CWf := Lib.hid hc.out.cx.cw
            have HY := Lib.hid ((Blk.put2 CWf.out.bR (.complex .f64 a b) (.float .f64 hi)))
            obtain ⟨qlt, q0, q1, f0, f1⟩ := CWf.out.r
            have HLW := Lib.hid CWf.out.low
            go_wp2_with fail
            have y0 := (Blk.cell HY.out 0).trans (show _ = some (.complex .f64 a b : Value) from rfl)
            have y1 := (Blk.cell HY.out 1).trans (show _ = some (.float .f64 hi : Value) from rfl)
            refine bodyPost_ret (v := .tuple #[.agg #[.complex .f64 a b, .float .f64 hi], .int .i64 0]) (by simp [results, Tryz.results8, go_sem, y0, y1]) rfl ⟨by rw [HVV.out], ?_⟩
            have hp := below_put2 HLW.out (show w.heap.size ≤ R by have := HR.out; omega) (.complex .f64 a b) (.float .f64 hi)
            exact hp
         ·have K1 := Lib.hid (fun W => KR.out g8 false W (by have := HMV.out; omega) ⟨fun h => absurd h (by decide), fun h => absurd h g3⟩)
          by_cases g4 : r ≤ g9
          ·have K2 := Lib.hid (fun W => KR.out g9 true W (by have := HMV.out; omega) ⟨fun _ => g4, fun _ => rfl⟩)
           have HL : Hid (g8 < r ∧ r ≤ g9 ∧ g9 < 9218868437227405312) := Lib.hid ⟨by omega, g4, by have := HMV.out; omega⟩
           clear g3 g4 hg8 hg9
           go_wp2_with fail
           refine (K1.out _).mono ?_
           rintro e w8 ⟨rfl, hb⟩
           have X10 := Lib.hid (X9.out.step hb)
           clear hb X9 p0 p1 p2 p3 p4 p5 p6
           obtain ⟨p0, p1, p2, p3, p4, p5, p6⟩ := X10.out.cx.bN.facts
           go_wp2_with fail
           refine (K2.out _).mono ?_
           rintro e w9 ⟨rfl, hb⟩
           have X11 := Lib.hid (X10.out.step hb)
           clear hb X10 p0 p1 p2 p3 p4 p5 p6
           obtain ⟨p0, p1, p2, p3, p4, p5, p6⟩ := X11.out.cx.bN.facts
           go_wp2_with fail
           have X9 := X11
           have CYL := Lib.hid X9.out
           go_loopw [17, 18] (fun vl vh wr => ∃ lo hi : Nat, vl = .int .u64 (lo : Nat) ∧ vh = .int .u64 (hi : Nat) ∧ Hid (lo < r ∧ r ≤ hi) ∧ lo < hi ∧ hi < 9218868437227405312 ∧ Hid (CY w R (sqV l m y) LB (uvV l m U V) CB NB C n wr)) (fun vl vh _ => (intOf vh - intOf vl).toNat)
           case atStart => exact ⟨g8, g9, by first | rfl | go_num, by first | rfl | go_num, Lib.hid ⟨HL.out.1, HL.out.2.1⟩, Nat.lt_of_lt_of_le HL.out.1 HL.out.2.1, HL.out.2.2, CYL⟩
           case round =>
            clear HL CYL X9
            obtain ⟨lo, hi, rfl, rfl, hxy, hle, hy, hc⟩ := hrel
            obtain ⟨p0, p1, p2, p3, p4, p5, p6⟩ := hc.out.cx.bN.facts
            by_cases hlt : 1 < hi - lo
            ·obtain ⟨v, hv⟩ : ∃ v, v = (hi - lo) / 2 := ⟨_, rfl⟩
             obtain ⟨z, hz⟩ : ∃ z, z = lo + v := ⟨_, rfl⟩
             have hz1 : lo < z := by omega
             have hz2 : z < hi := by omega
             have hq : ((hi : Int) - (lo : Int)) / 2 = (v : Int) := by omega
             have hzz : (lo : Int) + (v : Int) = (z : Int) := by omega
             have hgt : (1 : Int) < (hi : Int) - (lo : Int) := by omega
             clear hv
             have hz3 : z < 9218868437227405312 := by omega
             by_cases hr : r ≤ z
             ·have K := Lib.hid (KR.out z true wr hz3 ⟨fun _ => hr, fun _ => rfl⟩)
              have HZ := Lib.hid hr
              have HZ2 := Lib.hid (And.intro hz1 hz2)
              clear hr hz
              go_wp2_with fail
              refine K.out.mono ?_
              rintro e w5 ⟨rfl, hb5⟩
              have hc5 := Lib.hid (hc.out.step hb5)
              clear hb5 p0 p1 p2 p3 p4 p5 p6
              go_wp2_with fail
              go_roundw
              case rel => exact ⟨lo, z, rfl, by first | rfl | go_num, Lib.hid ⟨hxy.out.1, HZ.out⟩, HZ2.out.1, hz3, hc5⟩
              case measure => have := HZ2.out.2; simp [intOf]; omega
             ·have K := Lib.hid (KR.out z false wr hz3 ⟨fun h => absurd h (by decide), fun h => absurd h hr⟩)
              have HZ : Hid (z < r) := Lib.hid (Nat.lt_of_not_le hr)
              have HZ2 := Lib.hid (And.intro hz1 hz2)
              clear hr hz
              go_wp2_with fail
              refine K.out.mono ?_
              rintro e w5 ⟨rfl, hb5⟩
              have hc5 := Lib.hid (hc.out.step hb5)
              clear hb5 p0 p1 p2 p3 p4 p5 p6
              go_wp2_with fail
              go_roundw
              case rel => exact ⟨z, hi, by first | rfl | go_num, rfl, Lib.hid ⟨HZ.out, hxy.out.2⟩, HZ2.out.2, hy, hc5⟩
              case measure => have := HZ2.out.1; simp [intOf]; omega
            ·have HVV : Hid (cvA l m y = ((a, b, hi), 0)) := Lib.hid (by rw [HV.out, show r = hi from by have := hxy.out; omega])
             have hgt : ¬ (1 : Int) < (hi : Int) - (lo : Int) := by omega
             have CWf := Lib.hid hc.out.cx.cw
             have HY := Lib.hid ((Blk.put2 CWf.out.bR (.complex .f64 a b) (.float .f64 hi)))
             obtain ⟨qlt, q0, q1, f0, f1⟩ := CWf.out.r
             have HLW := Lib.hid CWf.out.low
             go_wp2_with fail
             have y0 := (Blk.cell HY.out 0).trans (show _ = some (.complex .f64 a b : Value) from rfl)
             have y1 := (Blk.cell HY.out 1).trans (show _ = some (.float .f64 hi : Value) from rfl)
             refine bodyPost_ret (v := .tuple #[.agg #[.complex .f64 a b, .float .f64 hi], .int .i64 0]) (by simp [results, Tryz.results8, go_sem, y0, y1]) rfl ⟨by rw [HVV.out], ?_⟩
             have hp := below_put2 HLW.out (show w.heap.size ≤ R by have := HR.out; omega) (.complex .f64 a b) (.float .f64 hi)
             exact hp
          ·have K2 := Lib.hid (fun W => KR.out g9 false W (by have := HMV.out; omega) ⟨fun h => absurd h (by decide), fun h => absurd h g4⟩)
           have HL : Hid (0 < r ∧ r ≤ mo ∧ mo < 9218868437227405312) := Lib.hid ⟨HP.out, by have := HMV.out; omega, by have := HMV.out; omega⟩
           clear g3 g4 hg8 hg9
           go_wp2_with fail
           refine (K1.out _).mono ?_
           rintro e w8 ⟨rfl, hb⟩
           have X10 := Lib.hid (X9.out.step hb)
           clear hb X9 p0 p1 p2 p3 p4 p5 p6
           obtain ⟨p0, p1, p2, p3, p4, p5, p6⟩ := X10.out.cx.bN.facts
           go_wp2_with fail
           refine (K2.out _).mono ?_
           rintro e w9 ⟨rfl, hb⟩
           have X11 := Lib.hid (X10.out.step hb)
           clear hb X10 p0 p1 p2 p3 p4 p5 p6
           obtain ⟨p0, p1, p2, p3, p4, p5, p6⟩ := X11.out.cx.bN.facts
           go_wp2_with fail
           have X9 := X11
           have CYL := Lib.hid X9.out
           go_loopw [17, 18] (fun vl vh wr => ∃ lo hi : Nat, vl = .int .u64 (lo : Nat) ∧ vh = .int .u64 (hi : Nat) ∧ Hid (lo < r ∧ r ≤ hi) ∧ lo < hi ∧ hi < 9218868437227405312 ∧ Hid (CY w R (sqV l m y) LB (uvV l m U V) CB NB C n wr)) (fun vl vh _ => (intOf vh - intOf vl).toNat)
           case atStart => exact ⟨0, mo, by first | rfl | go_num, by first | rfl | go_num, Lib.hid ⟨HL.out.1, HL.out.2.1⟩, Nat.lt_of_lt_of_le HL.out.1 HL.out.2.1, HL.out.2.2, CYL⟩
           case round =>
            clear HL CYL X9
            obtain ⟨lo, hi, rfl, rfl, hxy, hle, hy, hc⟩ := hrel
            obtain ⟨p0, p1, p2, p3, p4, p5, p6⟩ := hc.out.cx.bN.facts
            by_cases hlt : 1 < hi - lo
            ·obtain ⟨v, hv⟩ : ∃ v, v = (hi - lo) / 2 := ⟨_, rfl⟩
             obtain ⟨z, hz⟩ : ∃ z, z = lo + v := ⟨_, rfl⟩
             have hz1 : lo < z := by omega
             have hz2 : z < hi := by omega
             have hq : ((hi : Int) - (lo : Int)) / 2 = (v : Int) := by omega
             have hzz : (lo : Int) + (v : Int) = (z : Int) := by omega
             have hgt : (1 : Int) < (hi : Int) - (lo : Int) := by omega
             clear hv
             have hz3 : z < 9218868437227405312 := by omega
             by_cases hr : r ≤ z
             ·have K := Lib.hid (KR.out z true wr hz3 ⟨fun _ => hr, fun _ => rfl⟩)
              have HZ := Lib.hid hr
              have HZ2 := Lib.hid (And.intro hz1 hz2)
              clear hr hz
              go_wp2_with fail
              refine K.out.mono ?_
              rintro e w5 ⟨rfl, hb5⟩
              have hc5 := Lib.hid (hc.out.step hb5)
              clear hb5 p0 p1 p2 p3 p4 p5 p6
              go_wp2_with fail
              go_roundw
              case rel => exact ⟨lo, z, rfl, by first | rfl | go_num, Lib.hid ⟨hxy.out.1, HZ.out⟩, HZ2.out.1, hz3, hc5⟩
              case measure => have := HZ2.out.2; simp [intOf]; omega
             ·have K := Lib.hid (KR.out z false wr hz3 ⟨fun h => absurd h (by decide), fun h => absurd h hr⟩)
              have HZ : Hid (z < r) := Lib.hid (Nat.lt_of_not_le hr)
              have HZ2 := Lib.hid (And.intro hz1 hz2)
              clear hr hz
              go_wp2_with fail
              refine K.out.mono ?_
              rintro e w5 ⟨rfl, hb5⟩
              have hc5 := Lib.hid (hc.out.step hb5)
              clear hb5 p0 p1 p2 p3 p4 p5 p6
              go_wp2_with fail
              go_roundw
              case rel => exact ⟨z, hi, by first | rfl | go_num, rfl, Lib.hid ⟨HZ.out, hxy.out.2⟩, HZ2.out.2, hy, hc5⟩
              case measure => have := HZ2.out.1; simp [intOf]; omega
            ·have HVV : Hid (cvA l m y = ((a, b, hi), 0)) := Lib.hid (by rw [HV.out, show r = hi from by have := hxy.out; omega])
             have hgt : ¬ (1 : Int) < (hi : Int) - (lo : Int) := by omega
             have CWf := Lib.hid hc.out.cx.cw
             have HY := Lib.hid ((Blk.put2 CWf.out.bR (.complex .f64 a b) (.float .f64 hi)))
             obtain ⟨qlt, q0, q1, f0, f1⟩ := CWf.out.r
             have HLW := Lib.hid CWf.out.low
             go_wp2_with fail
             have y0 := (Blk.cell HY.out 0).trans (show _ = some (.complex .f64 a b : Value) from rfl)
             have y1 := (Blk.cell HY.out 1).trans (show _ = some (.float .f64 hi : Value) from rfl)
             refine bodyPost_ret (v := .tuple #[.agg #[.complex .f64 a b, .float .f64 hi], .int .i64 0]) (by simp [results, Tryz.results8, go_sem, y0, y1]) rfl ⟨by rw [HVV.out], ?_⟩
             have hp := below_put2 HLW.out (show w.heap.size ≤ R by have := HR.out; omega) (.complex .f64 a b) (.float .f64 hi)
             exact hp
        ·have HL : Hid (0 < r ∧ r ≤ mo ∧ mo < 9218868437227405312) := Lib.hid ⟨HP.out, by have := HMV.out; omega, by have := HMV.out; omega⟩
         go_wp2_with fail
         have CYL := Lib.hid X9.out
         go_loopw [17, 18] (fun vl vh wr => ∃ lo hi : Nat, vl = .int .u64 (lo : Nat) ∧ vh = .int .u64 (hi : Nat) ∧ Hid (lo < r ∧ r ≤ hi) ∧ lo < hi ∧ hi < 9218868437227405312 ∧ Hid (CY w R (sqV l m y) LB (uvV l m U V) CB NB C n wr)) (fun vl vh _ => (intOf vh - intOf vl).toNat)
         case atStart => exact ⟨0, mo, by first | rfl | go_num, by first | rfl | go_num, Lib.hid ⟨HL.out.1, HL.out.2.1⟩, Nat.lt_of_lt_of_le HL.out.1 HL.out.2.1, HL.out.2.2, CYL⟩
         case round =>
          clear HL CYL X9
          obtain ⟨lo, hi, rfl, rfl, hxy, hle, hy, hc⟩ := hrel
          obtain ⟨p0, p1, p2, p3, p4, p5, p6⟩ := hc.out.cx.bN.facts
          by_cases hlt : 1 < hi - lo
          ·obtain ⟨v, hv⟩ : ∃ v, v = (hi - lo) / 2 := ⟨_, rfl⟩
           obtain ⟨z, hz⟩ : ∃ z, z = lo + v := ⟨_, rfl⟩
           have hz1 : lo < z := by omega
           have hz2 : z < hi := by omega
           have hq : ((hi : Int) - (lo : Int)) / 2 = (v : Int) := by omega
           have hzz : (lo : Int) + (v : Int) = (z : Int) := by omega
           have hgt : (1 : Int) < (hi : Int) - (lo : Int) := by omega
           clear hv
           have hz3 : z < 9218868437227405312 := by omega
           by_cases hr : r ≤ z
           ·have K := Lib.hid (KR.out z true wr hz3 ⟨fun _ => hr, fun _ => rfl⟩)
            have HZ := Lib.hid hr
            have HZ2 := Lib.hid (And.intro hz1 hz2)
            clear hr hz
            go_wp2_with fail
            refine K.out.mono ?_
            rintro e w5 ⟨rfl, hb5⟩
            have hc5 := Lib.hid (hc.out.step hb5)
            clear hb5 p0 p1 p2 p3 p4 p5 p6
            go_wp2_with fail
            go_roundw
            case rel => exact ⟨lo, z, rfl, by first | rfl | go_num, Lib.hid ⟨hxy.out.1, HZ.out⟩, HZ2.out.1, hz3, hc5⟩
            case measure => have := HZ2.out.2; simp [intOf]; omega
           ·have K := Lib.hid (KR.out z false wr hz3 ⟨fun h => absurd h (by decide), fun h => absurd h hr⟩)
            have HZ : Hid (z < r) := Lib.hid (Nat.lt_of_not_le hr)
            have HZ2 := Lib.hid (And.intro hz1 hz2)
            clear hr hz
            go_wp2_with fail
            refine K.out.mono ?_
            rintro e w5 ⟨rfl, hb5⟩
            have hc5 := Lib.hid (hc.out.step hb5)
            clear hb5 p0 p1 p2 p3 p4 p5 p6
            go_wp2_with fail
            go_roundw
            case rel => exact ⟨z, hi, by first | rfl | go_num, rfl, Lib.hid ⟨HZ.out, hxy.out.2⟩, HZ2.out.2, hy, hc5⟩
            case measure => have := HZ2.out.1; simp [intOf]; omega
          ·have HVV : Hid (cvA l m y = ((a, b, hi), 0)) := Lib.hid (by rw [HV.out, show r = hi from by have := hxy.out; omega])
           have hgt : ¬ (1 : Int) < (hi : Int) - (lo : Int) := by omega
           have CWf := Lib.hid hc.out.cx.cw
           have HY := Lib.hid ((Blk.put2 CWf.out.bR (.complex .f64 a b) (.float .f64 hi)))
           obtain ⟨qlt, q0, q1, f0, f1⟩ := CWf.out.r
           have HLW := Lib.hid CWf.out.low
           go_wp2_with fail
           have y0 := (Blk.cell HY.out 0).trans (show _ = some (.complex .f64 a b : Value) from rfl)
           have y1 := (Blk.cell HY.out 1).trans (show _ = some (.float .f64 hi : Value) from rfl)
           refine bodyPost_ret (v := .tuple #[.agg #[.complex .f64 a b, .float .f64 hi], .int .i64 0]) (by simp [results, Tryz.results8, go_sem, y0, y1]) rfl ⟨by rw [HVV.out], ?_⟩
           have hp := below_put2 HLW.out (show w.heap.size ≤ R by have := HR.out; omega) (.complex .f64 a b) (.float .f64 hi)
           exact hp
       ·have HL : Hid (0 < r ∧ r ≤ mo ∧ mo < 9218868437227405312) := Lib.hid ⟨HP.out, by have := HMV.out; omega, by have := HMV.out; omega⟩
        go_wp2_with fail
        have CYL := Lib.hid X9.out
        go_loopw [17, 18] (fun vl vh wr => ∃ lo hi : Nat, vl = .int .u64 (lo : Nat) ∧ vh = .int .u64 (hi : Nat) ∧ Hid (lo < r ∧ r ≤ hi) ∧ lo < hi ∧ hi < 9218868437227405312 ∧ Hid (CY w R (sqV l m y) LB (uvV l m U V) CB NB C n wr)) (fun vl vh _ => (intOf vh - intOf vl).toNat)
        case atStart => exact ⟨0, mo, by first | rfl | go_num, by first | rfl | go_num, Lib.hid ⟨HL.out.1, HL.out.2.1⟩, Nat.lt_of_lt_of_le HL.out.1 HL.out.2.1, HL.out.2.2, CYL⟩
        case round =>
         clear HL CYL X9
         obtain ⟨lo, hi, rfl, rfl, hxy, hle, hy, hc⟩ := hrel
         obtain ⟨p0, p1, p2, p3, p4, p5, p6⟩ := hc.out.cx.bN.facts
         by_cases hlt : 1 < hi - lo
         ·obtain ⟨v, hv⟩ : ∃ v, v = (hi - lo) / 2 := ⟨_, rfl⟩
          obtain ⟨z, hz⟩ : ∃ z, z = lo + v := ⟨_, rfl⟩
          have hz1 : lo < z := by omega
          have hz2 : z < hi := by omega
          have hq : ((hi : Int) - (lo : Int)) / 2 = (v : Int) := by omega
          have hzz : (lo : Int) + (v : Int) = (z : Int) := by omega
          have hgt : (1 : Int) < (hi : Int) - (lo : Int) := by omega
          clear hv
          have hz3 : z < 9218868437227405312 := by omega
          by_cases hr : r ≤ z
          ·have K := Lib.hid (KR.out z true wr hz3 ⟨fun _ => hr, fun _ => rfl⟩)
           have HZ := Lib.hid hr
           have HZ2 := Lib.hid (And.intro hz1 hz2)
           clear hr hz
           go_wp2_with fail
           refine K.out.mono ?_
           rintro e w5 ⟨rfl, hb5⟩
           have hc5 := Lib.hid (hc.out.step hb5)
           clear hb5 p0 p1 p2 p3 p4 p5 p6
           go_wp2_with fail
           go_roundw
           case rel => exact ⟨lo, z, rfl, by first | rfl | go_num, Lib.hid ⟨hxy.out.1, HZ.out⟩, HZ2.out.1, hz3, hc5⟩
           case measure => have := HZ2.out.2; simp [intOf]; omega
          ·have K := Lib.hid (KR.out z false wr hz3 ⟨fun h => absurd h (by decide), fun h => absurd h hr⟩)
           have HZ : Hid (z < r) := Lib.hid (Nat.lt_of_not_le hr)
           have HZ2 := Lib.hid (And.intro hz1 hz2)
           clear hr hz
           go_wp2_with fail
           refine K.out.mono ?_
           rintro e w5 ⟨rfl, hb5⟩
           have hc5 := Lib.hid (hc.out.step hb5)
           clear hb5 p0 p1 p2 p3 p4 p5 p6
           go_wp2_with fail
           go_roundw
           case rel => exact ⟨z, hi, by first | rfl | go_num, rfl, Lib.hid ⟨HZ.out, hxy.out.2⟩, HZ2.out.2, hy, hc5⟩
           case measure => have := HZ2.out.1; simp [intOf]; omega
         ·have HVV : Hid (cvA l m y = ((a, b, hi), 0)) := Lib.hid (by rw [HV.out, show r = hi from by have := hxy.out; omega])
          have hgt : ¬ (1 : Int) < (hi : Int) - (lo : Int) := by omega
          have CWf := Lib.hid hc.out.cx.cw
          have HY := Lib.hid ((Blk.put2 CWf.out.bR (.complex .f64 a b) (.float .f64 hi)))
          obtain ⟨qlt, q0, q1, f0, f1⟩ := CWf.out.r
          have HLW := Lib.hid CWf.out.low
          go_wp2_with fail
          have y0 := (Blk.cell HY.out 0).trans (show _ = some (.complex .f64 a b : Value) from rfl)
          have y1 := (Blk.cell HY.out 1).trans (show _ = some (.float .f64 hi : Value) from rfl)
          refine bodyPost_ret (v := .tuple #[.agg #[.complex .f64 a b, .float .f64 hi], .int .i64 0]) (by simp [results, Tryz.results8, go_sem, y0, y1]) rfl ⟨by rw [HVV.out], ?_⟩
          have hp := below_put2 HLW.out (show w.heap.size ≤ R by have := HR.out; omega) (.complex .f64 a b) (.float .f64 hi)
          exact hp
      ·have HV := Lib.hid (HFA.out n HS.out hr)
       have K0 := Lib.hid (fun W => KR.out 9218868437227405311 false W (by omega) ⟨fun h => absurd h (by decide), fun h => absurd h (by omega)⟩)
       clear HS hfr HFA HNV HOA HPOS hr KR HX HP KNE
       go_wp2_with fail
       refine (K0.out _).mono ?_
       rintro e w5 ⟨rfl, hb⟩
       have X5 := Lib.hid (hx.out.cx.cw.step hb)
       clear hb hx p0 p1 p2 p3 p4 p5 p6
       have HY := Lib.hid ((Blk.put2 X5.out.bR (.complex .f64 0 0) (.float .f64 0)))
       obtain ⟨qlt, q0, q1, f0, f1⟩ := X5.out.r
       have HLW := Lib.hid X5.out.low
       go_wp2_with fail
       have y0 := (Blk.cell HY.out 0).trans (show _ = some (.complex .f64 0 0 : Value) from rfl)
       have y1 := (Blk.cell HY.out 1).trans (show _ = some (.float .f64 0 : Value) from rfl)
       refine bodyPost_ret (v := .tuple #[.agg #[.complex .f64 0 0, .float .f64 0], .int .i64 5]) (by simp [results, Tryz.results8, go_sem, y0, y1]) rfl ⟨by rw [HV.out], ?_⟩
       have hp := below_put2 HLW.out (show w.heap.size ≤ R by have := HR.out; omega) (.complex .f64 0 0) (.float .f64 0)
       exact hp
   ·have HV : Hid (cvA l m y = ((0, 0, 0), 5)) := Lib.hid (HINF.out hfin)
    refine (rCplx_no a b _ HX64.out.1 HX64.out.2 hfin (HG.out _ C3.out.low)).mono ?_
    rintro e w4 ⟨rfl, hb⟩
    have C4 := Lib.hid (C3.out.step hb)
    clear hb C3 L3 HINF HNV0 HFA0 HOA0 hfin HCQ HX64
    have HY := Lib.hid ((Blk.put2 C4.out.bR (.complex .f64 0 0) (.float .f64 0)).alloc (.cells #[.bool false, .string ⟨#[]⟩, .int .i64 0, .bool false, .string ⟨#[]⟩, .int .i64 0] 40))
    obtain ⟨qlt, q0, q1, f0, f1⟩ := C4.out.r
    have HLW := Lib.hid C4.out.low
    go_wp2_with fail
    have y0 := (Blk.cell HY.out 0).trans (show _ = some (.complex .f64 0 0 : Value) from rfl)
    have y1 := (Blk.cell HY.out 1).trans (show _ = some (.float .f64 0 : Value) from rfl)
    refine bodyPost_ret (v := .tuple #[.agg #[.complex .f64 0 0, .float .f64 0], .int .i64 5]) (by simp [results, Tryz.results8, go_sem, y0, y1]) rfl ⟨by rw [HV.out], ?_⟩
    have hp := below_put2 HLW.out (show w.heap.size ≤ R by have := HR.out; omega) (.complex .f64 0 0) (.float .f64 0)
    exact hp.alloc (by first | exact hp.size | (have := hp.size; simp at this ⊢; omega)) _
  ·have KC := Lib.hid (fun W (hW : Below w.heap.size w W) => rCorn_ok l m y W HL.out HM.out HE.out k1.1 k1.2 (HG.out W hW))
   have KM := Lib.hid (fun W (hW : Below w.heap.size w W) => rMid_no l m y W HL.out HM.out HE.out k2 (HG.out W hW))
   have HV : Hid (cvA l m y = ((0, 0, 0), 4)) := Lib.hid (cvA_long fun c => k2 c.2)
   clear k1 k2
   generalize addD l (pw y) = U at *
   generalize addD m (pw y) = V at *
   go_enter Tryz.func8, Tryz.ntmps8
   go_wp2_with fail
   rw [← HR.out]
   refine (KC.out _ C0.out.low).mono ?_
   rintro e w1 ⟨rfl, hb⟩
   have C1 := Lib.hid ((C0.out.step hb).more (.cells #[.bool l.g, .string (natS l.n), .int .i64 l.x, .bool m.g, .string (natS m.n), .int .i64 m.x, .bool U.g, .string (natS U.n), .int .i64 U.x, .bool m.g, .string (natS m.n), .int .i64 m.x, .bool l.g, .string (natS l.n), .int .i64 l.x, .bool V.g, .string (natS V.n), .int .i64 V.x, .bool U.g, .string (natS U.n), .int .i64 U.x, .bool V.g, .string (natS V.n), .int .i64 V.x] 41))
   clear hb C0 s0 s1 s2 s3 s4 s5 s6 s7
   obtain ⟨s0, s1, s2, s3, s4, s5, s6, s7⟩ := C1.out.s
   go_wp2_with (first | (refine wpList_allocZ rfl 41 rfl #[.bool false, .string ⟨#[]⟩, .int .i64 0, .bool false, .string ⟨#[]⟩, .int .i64 0, .bool false, .string ⟨#[]⟩, .int .i64 0, .bool false, .string ⟨#[]⟩, .int .i64 0, .bool false, .string ⟨#[]⟩, .int .i64 0, .bool false, .string ⟨#[]⟩, .int .i64 0, .bool false, .string ⟨#[]⟩, .int .i64 0, .bool false, .string ⟨#[]⟩, .int .i64 0] hz41 ?_) | (refine wpList_storeNew rfl 41 (Operand.tmp 4) (Operand.tmp 24) rfl w1 #[.bool false, .string ⟨#[]⟩, .int .i64 0, .bool false, .string ⟨#[]⟩, .int .i64 0, .bool false, .string ⟨#[]⟩, .int .i64 0, .bool false, .string ⟨#[]⟩, .int .i64 0, .bool false, .string ⟨#[]⟩, .int .i64 0, .bool false, .string ⟨#[]⟩, .int .i64 0, .bool false, .string ⟨#[]⟩, .int .i64 0, .bool false, .string ⟨#[]⟩, .int .i64 0] #[.bool l.g, .string (natS l.n), .int .i64 l.x, .bool m.g, .string (natS m.n), .int .i64 m.x, .bool U.g, .string (natS U.n), .int .i64 U.x, .bool m.g, .string (natS m.n), .int .i64 m.x, .bool l.g, .string (natS l.n), .int .i64 l.x, .bool V.g, .string (natS V.n), .int .i64 V.x, .bool U.g, .string (natS U.n), .int .i64 U.x, .bool V.g, .string (natS V.n), .int .i64 V.x] ?_ ?_ ?_ ?_ ?_ ?_ ?_; exact rfl; exact rfl; exact rfl; exact HZI.out; exact rfl; exact one24 _ _ _ _ _ _ _ _ _ _ _ _ _ _ _ _ _ _ _ _ _ _ _ _))
   refine (KM.out _ C1.out.low).mono ?_
   rintro e w2 ⟨rfl, hb⟩
   have C2 := Lib.hid (C1.out.step hb)
   clear hb C1 s0 s1 s2 s3 s4 s5 s6 s7
   have HY := Lib.hid ((Blk.put2 C2.out.bR (.complex .f64 0 0) (.float .f64 0)).alloc (.cells #[.bool false, .string ⟨#[]⟩, .int .i64 0, .bool false, .string ⟨#[]⟩, .int .i64 0] 40))
   obtain ⟨qlt, q0, q1, f0, f1⟩ := C2.out.r
   have HLW := Lib.hid C2.out.low
   go_wp2_with fail
   have y0 := (Blk.cell HY.out 0).trans (show _ = some (.complex .f64 0 0 : Value) from rfl)
   have y1 := (Blk.cell HY.out 1).trans (show _ = some (.float .f64 0 : Value) from rfl)
   refine bodyPost_ret (v := .tuple #[.agg #[.complex .f64 0 0, .float .f64 0], .int .i64 4]) (by simp [results, Tryz.results8, go_sem, y0, y1]) rfl ⟨by rw [HV.out], ?_⟩
   have hp := below_put2 HLW.out (show w.heap.size ≤ R by have := HR.out; omega) (.complex .f64 0 0) (.float .f64 0)
   exact hp.alloc (by first | exact hp.size | (have := hp.size; simp at this ⊢; omega)) _
 ·obtain ⟨M, f, KM⟩ : ∃ (M : Gs) (f : Int), Hid (∀ W, Below w.heap.size w W → Calls Tryz.prog 25 #[.agg #[.bool l.g, .string (natS l.n), .int .i64 l.x, .bool m.g, .string (natS m.n), .int .i64 m.x, .int .i64 y]] W fun e w' => e = .returned (.tuple #[.agg #[.bool M.re.g, .string (natS M.re.n), .int .i64 M.re.x, .bool M.im.g, .string (natS M.im.n), .int .i64 M.im.x], .int .i64 f]) ∧ Below W.heap.size W w') := by
   by_cases k2 : addE l (pw (y - 1)) = 0 ∧ addE m (pw (y - 1)) = 0
   ·exact ⟨midG l m y, 0, Lib.hid (fun W hW => rMid_ok l m y W HL.out HM.out HE.out k2.1 k2.2 (HG.out W hW))⟩
   ·refine ⟨Gs.zero, 4, Lib.hid (fun W hW => ?_)⟩
    have h := rMid_no l m y W HL.out HM.out HE.out k2 (HG.out W hW)
    rw [← natS_zero] at h
    exact h
  have KC := Lib.hid (fun W (hW : Below w.heap.size w W) => rCorn_no l m y W HL.out HM.out HE.out k1 (HG.out W hW))
  have HV : Hid (cvA l m y = ((0, 0, 0), 4)) := Lib.hid (cvA_long fun c => k1 c.1)
  clear k1
  go_enter Tryz.func8, Tryz.ntmps8
  go_wp2_with fail
  rw [← HR.out]
  refine (KC.out _ C0.out.low).mono ?_
  rintro e w1 ⟨rfl, hb⟩
  have C1 := Lib.hid ((C0.out.step hb).more (.cells #[.bool false, .string ⟨#[]⟩, .int .i64 0, .bool false, .string ⟨#[]⟩, .int .i64 0, .bool false, .string ⟨#[]⟩, .int .i64 0, .bool false, .string ⟨#[]⟩, .int .i64 0, .bool false, .string ⟨#[]⟩, .int .i64 0, .bool false, .string ⟨#[]⟩, .int .i64 0, .bool false, .string ⟨#[]⟩, .int .i64 0, .bool false, .string ⟨#[]⟩, .int .i64 0] 41))
  clear hb C0 s0 s1 s2 s3 s4 s5 s6 s7
  obtain ⟨s0, s1, s2, s3, s4, s5, s6, s7⟩ := C1.out.s
  go_wp2_with (first | (refine wpList_allocZ rfl 41 rfl #[.bool false, .string ⟨#[]⟩, .int .i64 0, .bool false, .string ⟨#[]⟩, .int .i64 0, .bool false, .string ⟨#[]⟩, .int .i64 0, .bool false, .string ⟨#[]⟩, .int .i64 0, .bool false, .string ⟨#[]⟩, .int .i64 0, .bool false, .string ⟨#[]⟩, .int .i64 0, .bool false, .string ⟨#[]⟩, .int .i64 0, .bool false, .string ⟨#[]⟩, .int .i64 0] hz41 ?_) | (refine wpList_storeNew rfl 41 (Operand.tmp 4) (Operand.tmp 24) rfl w1 #[.bool false, .string ⟨#[]⟩, .int .i64 0, .bool false, .string ⟨#[]⟩, .int .i64 0, .bool false, .string ⟨#[]⟩, .int .i64 0, .bool false, .string ⟨#[]⟩, .int .i64 0, .bool false, .string ⟨#[]⟩, .int .i64 0, .bool false, .string ⟨#[]⟩, .int .i64 0, .bool false, .string ⟨#[]⟩, .int .i64 0, .bool false, .string ⟨#[]⟩, .int .i64 0] #[.bool false, .string ⟨#[]⟩, .int .i64 0, .bool false, .string ⟨#[]⟩, .int .i64 0, .bool false, .string ⟨#[]⟩, .int .i64 0, .bool false, .string ⟨#[]⟩, .int .i64 0, .bool false, .string ⟨#[]⟩, .int .i64 0, .bool false, .string ⟨#[]⟩, .int .i64 0, .bool false, .string ⟨#[]⟩, .int .i64 0, .bool false, .string ⟨#[]⟩, .int .i64 0] ?_ ?_ ?_ ?_ ?_ ?_ ?_; exact rfl; exact rfl; exact rfl; exact HZI.out; exact rfl; exact one24 _ _ _ _ _ _ _ _ _ _ _ _ _ _ _ _ _ _ _ _ _ _ _ _))
  refine (KM.out _ C1.out.low).mono ?_
  rintro e w2 ⟨rfl, hb⟩
  have C2 := Lib.hid (C1.out.step hb)
  clear hb C1 s0 s1 s2 s3 s4 s5 s6 s7
  have HY := Lib.hid ((Blk.put2 C2.out.bR (.complex .f64 0 0) (.float .f64 0)).alloc (.cells #[.bool M.re.g, .string (natS M.re.n), .int .i64 M.re.x, .bool M.im.g, .string (natS M.im.n), .int .i64 M.im.x] 40))
  obtain ⟨qlt, q0, q1, f0, f1⟩ := C2.out.r
  have HLW := Lib.hid C2.out.low
  go_wp2_with fail
  have y0 := (Blk.cell HY.out 0).trans (show _ = some (.complex .f64 0 0 : Value) from rfl)
  have y1 := (Blk.cell HY.out 1).trans (show _ = some (.float .f64 0 : Value) from rfl)
  refine bodyPost_ret (v := .tuple #[.agg #[.complex .f64 0 0, .float .f64 0], .int .i64 4]) (by simp [results, Tryz.results8, go_sem, y0, y1]) rfl ⟨by rw [HV.out], ?_⟩
  have hp := below_put2 HLW.out (show w.heap.size ≤ R by have := HR.out; omega) (.complex .f64 0 0) (.float .f64 0)
  exact hp.alloc (by first | exact hp.size | (have := hp.size; simp at this ⊢; omega)) _
end Go.Proofs.YtmjjodficjjehaaGreatDoor
namespace Go.Proofs.YtmjjodficjjehaaGreatDoor
open Go Go.RowKit Nt
@[reducible] def VCover_w_f : FuncId := 4
@[reducible] def VCover_w_a : List AV := [.agg [.sym 0, .sym 1, .sym 2, .sym 3, .sym 4, .sym 5, .sym 6]]
@[reducible] noncomputable def VCover_w_k : Know := ⟨[],
  [(36, [.agg [.sym 0, .sym 1, .sym 2, .sym 3, .sym 4, .sym 5, .sym 6]], .lit (.int .i64 240))]⟩
theorem VCover_w_r1 : @comes VCover_w_k Tryz.prog glT 3000 VCover_w_f VCover_w_a = some (.lit (.tuple #[.agg #[.complex .f64 0 0, .float .f64 0], .int .i64 240])) := by kernel_rfl
set_option maxRecDepth 100000 in
set_option maxHeartbeats 4000000 in
theorem VCover_w (p q : Dt) (y : Int) (w : World) (hn : True) (HC : ∀ w, Globs glT w → Calls Tryz.prog 36 #[.agg #[.bool p.g, .string p.s, .int .i64 p.x, .bool q.g, .string q.s, .int .i64 q.x, .int .i64 y]] w fun e w' => e = .returned (.int .i64 240) ∧ Below w.heap.size w w') (hG : Globs glT w) : Calls Tryz.prog 4 #[.agg #[.bool p.g, .string p.s, .int .i64 p.x, .bool q.g, .string q.s, .int .i64 q.x, .int .i64 y]] w fun e w' => e = .returned (.tuple #[.agg #[.complex .f64 0 0, .float .f64 0], .int .i64 240]) ∧ Below w.heap.size w w' := by
  letI : Env := mkEnv glT [.bool p.g, .string p.s, .int .i64 p.x, .bool q.g, .string q.s, .int .i64 q.x, .int .i64 y] rfl
  have hops : OpsT Tryz.prog (@Know.ops VCover_w_k) := trivial
  have hcalls : CallsT Tryz.prog (@Know.calls VCover_w_k) := ⟨callt rfl rfl fun w hG => HC w hG,
    trivial⟩
  have fin : ∀ v, @comes VCover_w_k Tryz.prog glT 3000 VCover_w_f VCover_w_a = some v → ground v = true → Ending.returned (gval v) = .returned (.tuple #[.agg #[.complex .f64 0 0, .float .f64 0], .int .i64 240]) → Calls Tryz.prog 4 #[.agg #[.bool p.g, .string p.s, .int .i64 p.x, .bool q.g, .string q.s, .int .i64 q.x, .int .i64 y]] w fun e w' => e = .returned (.tuple #[.agg #[.complex .f64 0 0, .float .f64 0], .int .i64 240]) ∧ Below w.heap.size w w' := fun v h1 h2 h3 => (@sym_ok _ VCover_w_k _ (@KnowOk.of _ VCover_w_k _ hops hcalls) (by kernel_rfl) _ _ _ _ h1 rfl h2 _ hG).mono fun e w' h => ⟨h.1.trans h3, h.2⟩
  clear hops hcalls
  exact fin _ (VCover_w_r1) rfl rfl
end Go.Proofs.YtmjjodficjjehaaGreatDoor
namespace Go.Proofs.YtmjjodficjjehaaGreatDoor
open Go Go.RowKit Nt
attribute [local go_sem] store_cplx store_flt
set_option maxRecDepth 100000 in
set_option maxHeartbeats 4000000 in
theorem VCovers_right (l m : Dy) (y : Int) (w : World) (hl : l.Ok) (hm : m.Ok) (he : -4096 ≤ y ∧ y ≤ 4096) (hG : Globs glT w) : Calls Tryz.prog 3 #[.agg #[.bool l.g, .string (natS l.n), .int .i64 l.x, .bool m.g, .string (natS m.n), .int .i64 m.x, .int .i64 y]] w fun e w' => e = .returned (.bool true) ∧ Below w.heap.size w w' := by
  have H0 : Hid (Below w.heap.size w (w.alloc (.cells #[.bool l.g, .string (natS l.n), .int .i64 l.x, .bool m.g, .string (natS m.n), .int .i64 m.x, .int .i64 y] 26))) := Lib.hid ((Below.refl _ _).alloc (Nat.le_refl _) _)
  have S0 := Lib.hid (Blk.new w 26 #[.bool l.g, .string (natS l.n), .int .i64 l.x, .bool m.g, .string (natS m.n), .int .i64 m.x, .int .i64 y])
  have K1 := Lib.hid (fun W (hW : Below w.heap.size w W) => VCover_c l m y W hl hm he (hG.below hW (Nat.le_refl _)))
  have K2 := Lib.hid (fun W (hW : Below w.heap.size w W) => rRight_ok l m y W hl hm he (hG.below hW (Nat.le_refl _)))
  have K3 := Lib.hid (fun W (hW : Below w.heap.size w W) => rCover_c l m y W hl hm he (hG.below hW (Nat.le_refl _)))
  have K5 := Lib.hid (fun W (hW : Below w.heap.size w W) => awake24_c W (hG.below hW (Nat.le_refl _)))
  have K4 := Lib.hid bits24_c
  unfold CvPost at K1 K3
  clear hl hm he hG
  generalize cvA l m y = an at *
  obtain ⟨⟨a, b, r⟩, ee⟩ := an
  dsimp only at K1 K3
  have s0 := Blk.lt S0.out
  have s1 := (Blk.cell S0.out 0).trans (show _ = some (.bool l.g : Value) from rfl)
  have s2 := (Blk.cell S0.out 1).trans (show _ = some (.string (natS l.n) : Value) from rfl)
  have s3 := (Blk.cell S0.out 2).trans (show _ = some (.int .i64 l.x : Value) from rfl)
  have s4 := (Blk.cell S0.out 3).trans (show _ = some (.bool m.g : Value) from rfl)
  have s5 := (Blk.cell S0.out 4).trans (show _ = some (.string (natS m.n) : Value) from rfl)
  have s6 := (Blk.cell S0.out 5).trans (show _ = some (.int .i64 m.x : Value) from rfl)
  have s7 := (Blk.cell S0.out 6).trans (show _ = some (.int .i64 y : Value) from rfl)
  go_enter Tryz.func3, Tryz.ntmps3
  go_wp2_with fail
  refine (K1.out _ H0.out).mono ?_
  rintro e w1 ⟨rfl, hb⟩
  have H1 := Lib.hid (below_chain H0.out hb)
  have S1 := Lib.hid (Blk.below S0.out hb (Blk.lt S0.out))
  have H1m := Lib.hid (H1.out.alloc H1.out.size (.cells #[.complex .f64 a b, .float .f64 r] 30))
  have S1m := Lib.hid (S1.out.alloc (.cells #[.complex .f64 a b, .float .f64 r] 30))
  have B1m := Lib.hid (Blk.new w1 30 #[.complex .f64 a b, .float .f64 r])
  clear hb s0 s1 s2 s3 s4 s5 s6 s7
  have s0 := Blk.lt S1m.out
  have s1 := (Blk.cell S1m.out 0).trans (show _ = some (.bool l.g : Value) from rfl)
  have s2 := (Blk.cell S1m.out 1).trans (show _ = some (.string (natS l.n) : Value) from rfl)
  have s3 := (Blk.cell S1m.out 2).trans (show _ = some (.int .i64 l.x : Value) from rfl)
  have s4 := (Blk.cell S1m.out 3).trans (show _ = some (.bool m.g : Value) from rfl)
  have s5 := (Blk.cell S1m.out 4).trans (show _ = some (.string (natS m.n) : Value) from rfl)
  have s6 := (Blk.cell S1m.out 5).trans (show _ = some (.int .i64 m.x : Value) from rfl)
  have s7 := (Blk.cell S1m.out 6).trans (show _ = some (.int .i64 y : Value) from rfl)
  have b0 := Blk.lt B1m.out
  have b1 := (Blk.cell B1m.out 0).trans (show _ = some (.complex .f64 a b : Value) from rfl)
  have b2 := (Blk.cell B1m.out 1).trans (show _ = some (.float .f64 r : Value) from rfl)
  go_wp2_with fail
  generalize w1.alloc (.cells #[.complex .f64 a b, .float .f64 r] 30) = W1 at *
  refine (K2.out _ H1m.out).mono ?_
  rintro e w2 ⟨rfl, hb⟩
  have H2 := Lib.hid (below_chain H1m.out hb)
  have S2 := Lib.hid (Blk.below S1m.out hb (Blk.lt S1m.out))
  have B2 := Lib.hid (Blk.below B1m.out hb (Blk.lt B1m.out))
  clear hb s0 s1 s2 s3 s4 s5 s6 s7 b0 b1 b2
  have s0 := Blk.lt S2.out
  have s1 := (Blk.cell S2.out 0).trans (show _ = some (.bool l.g : Value) from rfl)
  have s2 := (Blk.cell S2.out 1).trans (show _ = some (.string (natS l.n) : Value) from rfl)
  have s3 := (Blk.cell S2.out 2).trans (show _ = some (.int .i64 l.x : Value) from rfl)
  have s4 := (Blk.cell S2.out 3).trans (show _ = some (.bool m.g : Value) from rfl)
  have s5 := (Blk.cell S2.out 4).trans (show _ = some (.string (natS m.n) : Value) from rfl)
  have s6 := (Blk.cell S2.out 5).trans (show _ = some (.int .i64 m.x : Value) from rfl)
  have s7 := (Blk.cell S2.out 6).trans (show _ = some (.int .i64 y : Value) from rfl)
  have b0 := Blk.lt B2.out
  have b1 := (Blk.cell B2.out 0).trans (show _ = some (.complex .f64 a b : Value) from rfl)
  have b2 := (Blk.cell B2.out 1).trans (show _ = some (.float .f64 r : Value) from rfl)
  go_wp2_with fail
  refine (K3.out _ H2.out).mono ?_
  rintro e w3 ⟨rfl, hb⟩
  have H3 := Lib.hid (below_chain H2.out hb)
  have B3 := Lib.hid (Blk.below B2.out hb (Blk.lt B2.out))
  have H3m := Lib.hid (H3.out.alloc H3.out.size (.cells #[.complex .f64 a b, .float .f64 r] 30))
  have B3m := Lib.hid (B3.out.alloc (.cells #[.complex .f64 a b, .float .f64 r] 30))
  have C3m := Lib.hid (Blk.new w3 30 #[.complex .f64 a b, .float .f64 r])
  clear hb s0 s1 s2 s3 s4 s5 s6 s7 b0 b1 b2
  have b0 := Blk.lt B3m.out
  have b1 := (Blk.cell B3m.out 0).trans (show _ = some (.complex .f64 a b : Value) from rfl)
  have b2 := (Blk.cell B3m.out 1).trans (show _ = some (.float .f64 r : Value) from rfl)
  have c0 := Blk.lt C3m.out
  have c1 := (Blk.cell C3m.out 0).trans (show _ = some (.complex .f64 a b : Value) from rfl)
  have c2 := (Blk.cell C3m.out 1).trans (show _ = some (.float .f64 r : Value) from rfl)
  go_wp2_with fail
  refine (K4.out a b r _).mono ?_
  rintro e w4 ⟨rfl, hb⟩
  have H4 := Lib.hid (below_chain H3m.out hb)
  clear hb b0 b1 b2 c0 c1 c2
  go_wp2_with fail
  refine (K5.out _ H4.out).mono ?_
  rintro e w5 ⟨rfl, hb⟩
  have H5 := Lib.hid (below_chain H4.out hb)
  clear hb
  go_wp2_with fail
  go_ret
  exact ⟨rfl, H5.out⟩
set_option maxRecDepth 100000 in
set_option maxHeartbeats 4000000 in
theorem VCovers_no (p q : Dt) (y : Int) (w : World) (zp : p.s.size ≤ 9223372036854775807) (zq : q.s.size ≤ 9223372036854775807) (hn : ¬ (p.Ok ∧ q.Ok ∧ -4096 ≤ y ∧ y ≤ 4096)) (hG : Globs glT w) : Calls Tryz.prog 3 #[.agg #[.bool p.g, .string p.s, .int .i64 p.x, .bool q.g, .string q.s, .int .i64 q.x, .int .i64 y]] w fun e w' => e = .returned (.bool true) ∧ Below w.heap.size w w' := by
  have H0 : Hid (Below w.heap.size w (w.alloc (.cells #[.bool p.g, .string p.s, .int .i64 p.x, .bool q.g, .string q.s, .int .i64 q.x, .int .i64 y] 26))) := Lib.hid ((Below.refl _ _).alloc (Nat.le_refl _) _)
  have S0 := Lib.hid (Blk.new w 26 #[.bool p.g, .string p.s, .int .i64 p.x, .bool q.g, .string q.s, .int .i64 q.x, .int .i64 y])
  have HC : ∀ W, Globs glT W → Calls Tryz.prog 36 #[.agg #[.bool p.g, .string p.s, .int .i64 p.x, .bool q.g, .string q.s, .int .i64 q.x, .int .i64 y]] W fun e w' => e = .returned (.int .i64 240) ∧ Below W.heap.size W w' := fun W hG => VRight_no p q y W zp zq hn hG
  have K1 := Lib.hid (fun W (hW : Below w.heap.size w W) => VCover_w p q y W trivial HC (hG.below hW (Nat.le_refl _)))
  have K2 := Lib.hid (fun W (hW : Below w.heap.size w W) => rRight_no p q y W zp zq hn (hG.below hW (Nat.le_refl _)))
  have K5 := Lib.hid (fun W (hW : Below w.heap.size w W) => awake24_c W (hG.below hW (Nat.le_refl _)))
  have K4 := Lib.hid bits24_c
  clear zp zq hn hG HC
  have s0 := Blk.lt S0.out
  have s1 := (Blk.cell S0.out 0).trans (show _ = some (.bool p.g : Value) from rfl)
  have s2 := (Blk.cell S0.out 1).trans (show _ = some (.string p.s : Value) from rfl)
  have s3 := (Blk.cell S0.out 2).trans (show _ = some (.int .i64 p.x : Value) from rfl)
  have s4 := (Blk.cell S0.out 3).trans (show _ = some (.bool q.g : Value) from rfl)
  have s5 := (Blk.cell S0.out 4).trans (show _ = some (.string q.s : Value) from rfl)
  have s6 := (Blk.cell S0.out 5).trans (show _ = some (.int .i64 q.x : Value) from rfl)
  have s7 := (Blk.cell S0.out 6).trans (show _ = some (.int .i64 y : Value) from rfl)
  go_enter Tryz.func3, Tryz.ntmps3
  go_wp2_with fail
  refine (K1.out _ H0.out).mono ?_
  rintro e w1 ⟨rfl, hb⟩
  have H1 := Lib.hid (below_chain H0.out hb)
  have S1 := Lib.hid (Blk.below S0.out hb (Blk.lt S0.out))
  have H1m := Lib.hid (H1.out.alloc H1.out.size (.cells #[.complex .f64 0 0, .float .f64 0] 30))
  have S1m := Lib.hid (S1.out.alloc (.cells #[.complex .f64 0 0, .float .f64 0] 30))
  have B1m := Lib.hid (Blk.new w1 30 #[.complex .f64 0 0, .float .f64 0])
  clear hb s0 s1 s2 s3 s4 s5 s6 s7
  have s0 := Blk.lt S1m.out
  have s1 := (Blk.cell S1m.out 0).trans (show _ = some (.bool p.g : Value) from rfl)
  have s2 := (Blk.cell S1m.out 1).trans (show _ = some (.string p.s : Value) from rfl)
  have s3 := (Blk.cell S1m.out 2).trans (show _ = some (.int .i64 p.x : Value) from rfl)
  have s4 := (Blk.cell S1m.out 3).trans (show _ = some (.bool q.g : Value) from rfl)
  have s5 := (Blk.cell S1m.out 4).trans (show _ = some (.string q.s : Value) from rfl)
  have s6 := (Blk.cell S1m.out 5).trans (show _ = some (.int .i64 q.x : Value) from rfl)
  have s7 := (Blk.cell S1m.out 6).trans (show _ = some (.int .i64 y : Value) from rfl)
  have b0 := Blk.lt B1m.out
  have b1 := (Blk.cell B1m.out 0).trans (show _ = some (.complex .f64 0 0 : Value) from rfl)
  have b2 := (Blk.cell B1m.out 1).trans (show _ = some (.float .f64 0 : Value) from rfl)
  go_wp2_with fail
  generalize w1.alloc (.cells #[.complex .f64 0 0, .float .f64 0] 30) = W1 at *
  refine (K2.out _ H1m.out).mono ?_
  rintro e w2 ⟨rfl, hb⟩
  have H2 := Lib.hid (below_chain H1m.out hb)
  have B2 := Lib.hid (Blk.below B1m.out hb (Blk.lt B1m.out))
  clear hb s0 s1 s2 s3 s4 s5 s6 s7 b0 b1 b2
  have b0 := Blk.lt B2.out
  have b1 := (Blk.cell B2.out 0).trans (show _ = some (.complex .f64 0 0 : Value) from rfl)
  have b2 := (Blk.cell B2.out 1).trans (show _ = some (.float .f64 0 : Value) from rfl)
  go_wp2_with fail
  refine (K4.out 0 0 0 _).mono ?_
  rintro e w4 ⟨rfl, hb⟩
  have H4 := Lib.hid (below_chain H2.out hb)
  clear hb b0 b1 b2
  go_wp2_with fail
  refine (K5.out _ H4.out).mono ?_
  rintro e w5 ⟨rfl, hb⟩
  have H5 := Lib.hid (below_chain H4.out hb)
  clear hb
  go_wp2_with fail
  go_ret
  exact ⟨rfl, H5.out⟩
theorem ViewCovers_law (p q : Dt) (y : Int) (w : World) (zp : p.s.size ≤ 9223372036854775807) (zq : q.s.size ≤ 9223372036854775807) (hG : Globs glT w) : Calls Tryz.prog 3 #[.agg #[.bool p.g, .string p.s, .int .i64 p.x, .bool q.g, .string q.s, .int .i64 q.x, .int .i64 y]] w fun e w' => e = .returned (.bool true) ∧ Below w.heap.size w w' := by
  by_cases hw : p.Ok ∧ q.Ok ∧ -4096 ≤ y ∧ y ≤ 4096
  · obtain ⟨p1, q1, e1, e2⟩ := hw
    obtain ⟨p, hp, rfl⟩ := Dt.dy p1
    obtain ⟨q, hq, rfl⟩ := Dt.dy q1
    exact VCovers_right p q y w hp hq ⟨e1, e2⟩ hG
  · exact VCovers_no p q y w zp zq hw hG
end Go.Proofs.YtmjjodficjjehaaGreatDoor
namespace Go.Proofs.YtmjjodficjjehaaGreatDoor
open Go Go.RowKit Go.WideShapes Go.ChangeShapes
variable {H : Type} {enc : TypeId × Value → H} {P : Program}
theorem postBelow {f : Func} {s : ChangeSpec} {apart fresh handsOn again : Bool} {W W' : World} {args : Array Value} {v : Value} {ds gs : List (DataW H)} {places pa pv : List MemPlace}
    (whole : DataW.Whole enc P f.params.toList s.vars apart W args.toList ds gs places)
    (res : ∀ (b : Nat) (sp : Nat → Bool) (hd : Bool), DataW.TrodAll enc P W' b sp hd f.resultTypes.toList (v.resultList f.resultTypes.size) (s.fn H (ds ++ gs)).results [])
    (left : ∀ sp : Nat → Bool, (∀ p ∈ places, sp p.block = true) → DataW.TrodAll enc P W' 0 sp true f.params.toList args.toList (s.fn H (ds ++ gs)).args pa)
    (vars : ∀ sp : Nat → Bool, (∀ p ∈ places, sp p.block = true) → DataW.TrodVars enc P W' sp s.vars (s.fn H (ds ++ gs)).vars pv)
    (split : places = pa ++ pv) (below : Below W.heap.size W W')
    (ok : ∀ (j : Nat) (t : TypeId) (r : Value), f.resultTypes[j]? = some t → (v.resultList f.resultTypes.size)[j]? = some r → Value.okWide P W' .any 0 t r) :
    s.post enc P f apart fresh handsOn again W args v W' := by
  have old : ∀ p ∈ places, p.block < W.heap.size := fun p hp => whole.lt p hp
  have same : ∀ p ∈ places, (fun b => decide (b < W.heap.size)) p.block = true := fun p hp => decide_eq_true (old p hp)
  have kept : W.keptBut W' (fun p => p ∈ places ∧ p ∈ pa ++ pv) :=
    World.keptBut_mono (fun p hp => ⟨hp, split ▸ hp⟩) (below.frame (· ∈ places))
  have free : ∀ b off, MemPlace.cell b off ∈ pa ++ pv → W'.frozen? ⟨b, off, none⟩ = false := fun b off hp => by
    have hin : MemPlace.cell b off ∈ places := split ▸ hp
    rw [below.frozen (p := ⟨b, off, none⟩) (old _ hin)]
    obtain ⟨_, _, _, _, _, hz, _⟩ := whole
    exact hz b off hin
  have apartNow : apart = true → (pa ++ pv).Nodup := fun ha => by
    obtain ⟨_, _, _, _, _, _, hn⟩ := whole
    exact split ▸ hn ha
  refine ⟨ds, gs, places, [], pa, pv, whole, res _ _ _, left _ same, vars _ same, ?_, fun _ => ⟨ok, _, _, ([] ++ pa) ++ pv, ⟨[] ++ pa, pv, trodAll_append (left _ (fun _ _ => rfl)) (res _ _ _), vars _ (fun _ _ => rfl), rfl, ?_, ?_⟩, ?_⟩⟩
  · exact World.keptBut_mono (fun p hp => ⟨hp.1, Or.inr (List.mem_append.1 hp.2)⟩) kept
  · intro b off hp; exact free b off (by simpa using hp)
  · intro ha; simpa using apartNow ha
  · intro p hp _; rw [split]; simpa using hp
end Go.Proofs.YtmjjodficjjehaaGreatDoor
namespace Go.Proofs.YtmjjodficjjehaaGreatDoor
open Go.ChangeShapes Go.WideShapes Go.ChangeAt Go.RowKit Go.Joins
variable {H : Type} {enc : TypeId × Value → H}
def dyadD (H : Type) (g : Bool) (s : ByteArray) (x : Int) : DataW H := .agg [.lit (.bool g), .lit (.string s.data.toList), .lit (.int .i64 x)]
end Go.Proofs.YtmjjodficjjehaaGreatDoor
namespace Go.Proofs.YtmjjodficjjehaaGreatDoor
open Go.ChangeShapes Go.WideShapes Go.ChangeAt Go.RowKit Go.Joins Go.Deep Go.ChangeMaps
variable {H : Type} {enc : TypeId × Value → H}
theorem cDyad : Tryz.prog.cellsOf 24 = 3 := by kernel_rfl
theorem cBool1 : Tryz.prog.cellsOf 4 = 1 := by kernel_rfl
theorem cNat1 : Tryz.prog.cellsOf 22 = 1 := by kernel_rfl
theorem cInt1 : Tryz.prog.cellsOf 3 = 1 := by kernel_rfl
set_option maxRecDepth 100000 in
theorem trod_dyad {w : World} {base : Nat} {spare : Nat → Bool} {held : Bool} {n : Nat} {c0 c1 c2 : Value} {y : DataW H × List MemPlace} (h : DataW.trod enc Tryz.prog w base spare held n 24 [c0, c1, c2] = some y) :
    ∃ (g : Bool) (s : ByteArray) (x : Int), c0 = .bool g ∧ c1 = .string s ∧ c2 = .int .i64 x ∧ y = (dyadD H g s x, []) ∧ s.size ≤ maxLen ∧ (Lit.int .i64 x).wf = true := by
  obtain ⟨y0, y1, y2, m, rfl, _, h0, h1, h2⟩ := trod_struct3 Tryz.underlying24 h
  simp only [cBool1, cNat1, cInt1, List.drop_zero, List.take_succ_cons, List.take_zero, List.drop_succ_cons] at h0 h1 h2
  obtain ⟨g, e0, rfl⟩ := DataW.trod_bool Tryz.underlying4 h0
  obtain ⟨s, e1, rfl, hs⟩ := DataW.trod_string Tryz.underlying22 h1
  obtain ⟨x, e2, rfl, wx⟩ := DataW.trod_int Tryz.underlying3 h2
  simp at e0 e1 e2
  subst e0 e1 e2
  exact ⟨g, s, x, rfl, rfl, rfl, rfl, hs, wx⟩
theorem shut_trod_dyad {W' : World} {b : Nat} {sp : Nat → Bool} {hd : Bool} {g : Bool} {s : ByteArray} {x : Int} (hs : s.size ≤ maxLen) (wx : (Lit.int .i64 x).wf = true) (n : Nat) :
    DataW.trod enc Tryz.prog W' b sp hd (n + 2) 24 [.bool g, .string s, .int .i64 x] = some (dyadD H g s x, []) := by
  have := trod_struct3_mk (enc := enc) (w := W') (base := b) (spare := sp) (held := hd) (n := n + 1) (cs := [.bool g, .string s, .int .i64 x]) (y0 := (.lit (.bool g), [])) (y1 := (.lit (.string s.data.toList), [])) (y2 := (.lit (.int .i64 x), [])) Tryz.underlying24 (by rw [cDyad]; rfl)
    (by simp [cBool1, DataW.trod, Tryz.underlying4]) (by simp [cNat1, DataW.trod, Tryz.underlying22, hs]) (by simp [cInt1, DataW.trod, Tryz.underlying3, wx])
  simpa [dyadD] using this
end Go.Proofs.YtmjjodficjjehaaGreatDoor
namespace Go.Proofs.YtmjjodficjjehaaGreatDoor
open Go.ChangeShapes Go.WideShapes Go.ChangeAt Go.RowKit Go.Joins Go.Deep Go.ChangeMaps
variable {H : Type} {enc : TypeId × Value → H}
def squareD (H : Type) (g : Bool) (s : ByteArray) (x : Int) (k : Bool) (r : ByteArray) (y : Int) (e : Int) : DataW H := .agg [dyadD H g s x, dyadD H k r y, .lit (.int .i64 e)]
theorem array7 {α : Type} {cs : Array α} (h : cs.size = 7) : ∃ c0 c1 c2 c3 c4 c5 c6, cs = #[c0, c1, c2, c3, c4, c5, c6] := by
  obtain ⟨l⟩ := cs
  match l, h with
  | [c0, c1, c2, c3, c4, c5, c6], _ => exact ⟨c0, c1, c2, c3, c4, c5, c6, rfl⟩
theorem cSquare : Tryz.prog.cellsOf 26 = 7 := by kernel_rfl
set_option maxRecDepth 100000 in
theorem open_square {w : World} {base : Nat} {spare : Nat → Bool} {held : Bool} {r : Go.Reach} {b0 : Nat} {v : Value} {d : DataW H} {p : List MemPlace}
    (hv : Value.okWide Tryz.prog w r b0 26 v) (h : DataW.Trod enc Tryz.prog w base spare held 26 v d p) :
    ∃ (g : Bool) (s : ByteArray) (x : Int) (k : Bool) (q : ByteArray) (y : Int) (e : Int), v = .agg #[.bool g, .string s, .int .i64 x, .bool k, .string q, .int .i64 y, .int .i64 e] ∧ d = squareD H g s x k q y e ∧ p = [] ∧ (s.size ≤ maxLen ∧ (Lit.int .i64 x).wf = true) ∧ (q.size ≤ maxLen ∧ (Lit.int .i64 y).wf = true) ∧ (Lit.int .i64 e).wf = true := by
  obtain ⟨cs, rfl, hsz⟩ := okWide_struct Tryz.underlying26 hv
  obtain ⟨c0, c1, c2, c3, c4, c5, c6, rfl⟩ := array7 (hsz.trans cSquare)
  obtain ⟨fuel, hf⟩ := h
  obtain ⟨y0, y1, y2, n, hx, _, h0, h1, h2⟩ := trod_struct3 Tryz.underlying26 hf
  simp only [Value.cells, cDyad, cInt1, List.drop_zero, List.take_succ_cons, List.take_zero, List.drop_succ_cons] at h0 h1 h2
  obtain ⟨g, s, x, rfl, rfl, rfl, rfl, hs, wx⟩ := trod_dyad h0
  obtain ⟨k, q, y, rfl, rfl, rfl, rfl, hq, wy⟩ := trod_dyad h1
  obtain ⟨e, e2, rfl, we⟩ := DataW.trod_int Tryz.underlying3 h2
  simp at e2
  subst e2
  simp only [Prod.mk.injEq] at hx
  obtain ⟨hd, hp⟩ := hx
  exact ⟨g, s, x, k, q, y, e, rfl, hd, hp, ⟨hs, wx⟩, ⟨hq, wy⟩, we⟩
set_option maxRecDepth 100000 in
theorem shut_square {W' : World} {b : Nat} {sp : Nat → Bool} {hd : Bool} {g : Bool} {s : ByteArray} {x : Int} {k : Bool} {q : ByteArray} {y : Int} {e : Int} (h1 : s.size ≤ maxLen ∧ (Lit.int .i64 x).wf = true) (h2 : q.size ≤ maxLen ∧ (Lit.int .i64 y).wf = true) (we : (Lit.int .i64 e).wf = true) :
    DataW.Trod enc Tryz.prog W' b sp hd 26 (.agg #[.bool g, .string s, .int .i64 x, .bool k, .string q, .int .i64 y, .int .i64 e]) (squareD H g s x k q y e) [] := by
  refine ⟨3, ?_⟩
  have := trod_struct3_mk (enc := enc) (w := W') (base := b) (spare := sp) (held := hd) (n := 2) (cs := [.bool g, .string s, .int .i64 x, .bool k, .string q, .int .i64 y, .int .i64 e]) (y0 := (dyadD H g s x, [])) (y1 := (dyadD H k q y, [])) (y2 := (.lit (.int .i64 e), [])) Tryz.underlying26 (by rw [cSquare]; rfl)
    (by simp only [cDyad, List.drop_zero, List.take_succ_cons, List.take_zero, List.drop_succ_cons]; exact shut_trod_dyad h1.1 h1.2 0) (by simp only [cDyad, List.drop_zero, List.take_succ_cons, List.take_zero, List.drop_succ_cons]; exact shut_trod_dyad h2.1 h2.2 0) (by simp [cInt1, DataW.trod, Tryz.underlying3, we])
  simpa [squareD, Value.cells] using this
end Go.Proofs.YtmjjodficjjehaaGreatDoor
