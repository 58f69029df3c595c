/- Contracts of the document: Sub, Sum. -/
import Derived.Test.YtjcicbnjoffbhaaN44p
set_option linter.unusedSimpArgs false
set_option linter.unusedVariables false
namespace Go.Proofs.Ytjcicbnjoffbhaa
open Go Go.RowKit Nt

set_option maxRecDepth 100000 in
theorem rSub_lt (x y : Nat) (w : World) (hx : fits x) (hy : fits y) (h : x < y) :
    Calls Try.prog 38 #[.string (natS x), .string (natS y)] w (StrPost ⟨#[]⟩ 20 w) := by
  have KC := Lib.hid (fun w => rCmp_c x y w hx hy)
  rw [cmpN_lt h] at KC
  clear hx hy h
  go_enter Try.func38, Try.ntmps38
  go_wp2_with fail
  refine (KC.out _).mono ?_
  rintro e w1 ⟨rfl, hd⟩
  have hb1 := drawn_below hd
  clear hd
  go_wp2_with fail
  go_ret2
  exact ⟨rfl, hb1⟩
set_option maxRecDepth 100000 in
set_option maxHeartbeats 1000000 in
theorem rSub_ge (x y : Nat) (w : World) (hx : fits x) (hy : fits y) (h : y ≤ x) :
    Calls Try.prog 38 #[.string (natS x), .string (natS y)] w (StrPost (natS (x - y)) 0 w) := by
  obtain ⟨i0, hi0, hz0, hj1, hj2⟩ := info_parts (P := Try.prog) (e := 3) (z := .int .i64 0) (size := 1) (bytes := 8) (by kernel_rfl)
  have KC := Lib.hid (fun w => rCmp_c x y w hx hy)
  obtain ⟨cc, hcc, hcc0⟩ : ∃ cc : Int, cmpN x y = cc ∧ ¬ cc < 0 := by
    rcases Nat.lt_or_ge y x with c | c
    · exact ⟨1, cmpN_gt c, by omega⟩
    · obtain rfl : x = y := by omega
      exact ⟨0, cmpN_eq _, by omega⟩
  rw [hcc] at KC
  have hxn : nd 256 x ≤ 16384 := hx
  have hyn : nd 256 y ≤ 16384 := hy
  have KX := Lib.hid (fun w => rDigits_c x w (by omega))
  have KY := Lib.hid (fun w => rDigits_c y w (by omega))
  obtain ⟨X, hX⟩ : ∃ X, X = nd 256 x := ⟨_, rfl⟩
  obtain ⟨Y, hY⟩ : ∃ Y, Y = nd 256 y := ⟨_, rfl⟩
  have hEnd := sub_end h
  rw [← hX] at KX hxn hEnd
  rw [← hY] at KY hyn
  have HX := Lib.hid hX
  have HY := Lib.hid hY
  have HEND := Lib.hid hEnd
  have HLE := Lib.hid h
  clear hX hY hx hy hcc h hEnd
  go_enter Try.func38, Try.ntmps38
  go_wp2_with fail
  refine (KC.out _).mono ?_
  rintro e w0 ⟨rfl, hd0⟩
  have hb0 := drawn_below hd0
  clear hd0
  go_wp2_with fail
  refine (KX.out _).mono ?_
  rintro e w1 ⟨v1, rfl, ho1, hb1⟩
  obtain ⟨A1, c1, rfl, hc1⟩ := ho1.len
  rw [dl_length] at ho1 hc1 ⊢
  have HO1 := Lib.hid ho1
  clear ho1 hc1
  go_wp2_with fail
  refine (KY.out _).mono ?_
  rintro e w2 ⟨v2, rfl, ho2, hb2⟩
  obtain ⟨A2, c2, rfl, hc2⟩ := ho2.len
  rw [dl_length] at ho2 hc2 ⊢
  have HO2 := Lib.hid ho2
  have HO3 := Lib.hid (HO1.out.whole hb2)
  have hb12 := below_chain hb0 (below_chain hb1 hb2)
  clear ho2 hc2 HO1 hb1 hb0
  go_wp2_with fail
  go_loopw [8, 9, 10] (fun v m i wr => ∃ (k q : Nat), k ≤ X ∧ i = .int .i64 k ∧ m = .int .i64 q ∧ Hid (q = bor 256 x y k) ∧ Hid (Own wr w2.heap.size 3 .i64 v (dl 256 (x - y) k)) ∧ Below w2.heap.size w2 wr) (fun _ _ i _ => X - (intOf i).toNat)
  case atStart => exact ⟨0, 0, by omega, rfl, rfl, Lib.hid (bor_zero _ _ _).symm, Lib.hid (Own.nil _ _ _ _), Below.refl _ _⟩
  case round =>
    obtain ⟨k, q, hk, rfl, rfl, hq, hown, hb⟩ := hrel
    by_cases hlt : k < X
    · obtain ⟨d, hd⟩ : ∃ d, d = dgt 256 (x - y) k := ⟨_, rfl⟩
      obtain ⟨st1, st2⟩ := sub_step x y k HLE.out
      rw [← hq.out, ← hd] at st1 st2
      have ha := dgt_lt (b := 256) (by omega) x k
      have hb' := dgt_lt (b := 256) (by omega) y k
      have hd2 := dgt_lt (b := 256) (by omega) (x - y) k
      have hq1 := bor_le 256 x y k
      rw [← hd] at hd2
      rw [← hq.out] at hq1
      obtain ⟨g, cap, e1, _, hg, hcell, hfz⟩ := (HO3.out.whole hb).cell (j := k) (by rw [dl_length]; exact hlt)
      injection e1 with e1 e2 e3
      subst e1
      rw [dl_get] at hcell
      have K2 := fun m => rAt_c y Y k _ A2 c2 (wr.drewN m) (by have := HY.out; omega) (by omega) (by omega) ((HO2.out.whole hb).drewN m)
      generalize dgt 256 x k = a at *
      generalize dgt 256 y k = b at *
      have H2 := Lib.hid K2
      have HD := Lib.hid hd
      have hlen : Hid ((dl 256 (x - y) k).length + 1 ≤ 17592186044416) := Lib.hid (by rw [dl_length]; omega)
      have hw1 : IntKind.i64.wrap ((a : Int) - (b : Int)) = (a : Int) - (b : Int) := IntWalk.i64_in _ (by omega)
      have hw2 : IntKind.i64.wrap ((a : Int) - (b : Int) - (q : Int)) = (a : Int) - (b : Int) - (q : Int) := IntWalk.i64_in _ (by omega)
      clear K2 hd hfz e2 e3
      have hkb : k ≤ 20000 := by omega
      have HKX := Lib.hid hlt
      have HST1 := Lib.hid st1
      have HST2 := Lib.hid st2
      clear st1 st2 hk
      by_cases hc : a < b + q
      · obtain ⟨s1, s2⟩ := HST1.out hc
        have HB := Lib.hid s2.symm
        have hdd : (a : Int) - (b : Int) - (q : Int) + 256 = (d : Int) := by omega
        have hneg : (a : Int) - (b : Int) - (q : Int) < 0 := by omega
        clear s1 s2 hc
        go_wp2_with fail
        go_quiet ((go_at_call 74; exact Calls.quiet_of_same ((H2.out _).mono fun _ _ h => ⟨h.1, h.2.symm⟩)))
        rename_i nq
        have hbq := below_drewN hb nq
        have hownq := Lib.hid (hown.out.drewN nq)
        generalize wr.drewN nq = wq at *
        go_wp2_with (at_builtin; go_loud (refine wpList_app1 wq rfl (.tmp 40) (.tmp 42) _ rfl w2.heap.size 3 3 i0 .i64 8 Try.underlying80 hi0 hz0 hj1 hj2 (by omega) _ (dl 256 (x - y) k) d rfl rfl hownq.out hlen.out hbq.size ?_); intro v5 w5 hown5 hb5 hfr5 hnw5)
        rw [HD.out, ← dl_succ] at hown5
        have HO5 := Lib.hid hown5
        clear hown5 hfr5 hnw5
        go_roundw
        case rel => exact ⟨k + 1, 1, by have := HKX.out; omega, by go_num, rfl, HB, HO5, hbq.trans hb5⟩
        case measure =>
          have := HKX.out
          clear hw1 hw2 hdd hneg
          simp [intOf]; omega
      · obtain ⟨s1, s2⟩ := HST2.out hc
        have HB := Lib.hid s2.symm
        have hdz : (a : Int) - (b : Int) - (q : Int) = (d : Int) := by omega
        have hd0 : ¬ (d : Int) < 0 := by omega
        clear s1 s2 hc
        go_wp2_with fail
        go_quiet ((go_at_call 74; exact Calls.quiet_of_same ((H2.out _).mono fun _ _ h => ⟨h.1, h.2.symm⟩)))
        rename_i nq
        have hbq := below_drewN hb nq
        have hownq := Lib.hid (hown.out.drewN nq)
        generalize wr.drewN nq = wq at *
        go_wp2_with (at_builtin; go_loud (refine wpList_app1 wq rfl (.tmp 40) (.tmp 42) _ rfl w2.heap.size 3 3 i0 .i64 8 Try.underlying80 hi0 hz0 hj1 hj2 (by omega) _ (dl 256 (x - y) k) d rfl rfl hownq.out hlen.out hbq.size ?_); intro v5 w5 hown5 hb5 hfr5 hnw5)
        rw [HD.out, ← dl_succ] at hown5
        have HO5 := Lib.hid hown5
        clear hown5 hfr5 hnw5
        go_roundw
        case rel => exact ⟨k + 1, 0, by have := HKX.out; omega, by go_num, rfl, HB, HO5, hbq.trans hb5⟩
        case measure =>
          have := HKX.out
          clear hw1 hw2 hdz
          simp [intOf]; omega
    · obtain rfl : k = X := by omega
      have HL : Hid ((dl 256 (x - y) k).length ≤ 1000000000) := Lib.hid (by rw [dl_length]; omega)
      go_wp2_with fail
      refine (rMade_c _ _ _ _ (dl_lt256 (x - y) k) HL.out hown.out).mono ?_
      rintro e w' ⟨rfl, hb'⟩
      go_wp2_with fail
      go_ret2
      exact ⟨by rw [HEND.out]; rfl, below_chain hb12 (below_chain hb hb')⟩
set_option maxRecDepth 100000 in
set_option maxHeartbeats 400000 in
theorem rSum_c (A : Option Addr) (c : Nat) (l : List Nat) (w : World) (hl : l.length ≤ 140737488355328) (hf : ∀ n ∈ l, fits n) (h : Strs w A (l.map natS)) (hA : ∀ ad, A = some ad → ad.block < w.heap.size) :
    Calls Try.prog 40 #[.slice A l.length c] w (StrPost (resS l.sum) (resE l.sum) w) := by
  have HS := Lib.hid h
  have HF := Lib.hid hf
  have HA := Lib.hid hA
  have hnd : ∀ k, nd 256 (l.take k).sum ≤ 17000 := fun k => by
    have h1 := sum_nd (l.take k) (fun n hn => hf n (mem_take hn)) (by rw [List.length_take]; omega)
    have h2 := (nd_pow (b := 256) (c := W) (e := 8) (by omega) (by omega) W_256 (l.take k).sum 2049).2 h1
    omega
  have HND := Lib.hid hnd
  clear h hf hA hnd
  go_enter Try.func40, Try.ntmps40
  go_wp2_with fail
  go_loopw [4, 5] (fun x i wr => ∃ k : Nat, k ≤ l.length ∧ i = .int .i64 k ∧ x = .string (natS (l.take k).sum) ∧ Below w.heap.size w wr) (fun _ i _ => l.length - (intOf i).toNat)
  case atStart => exact ⟨0, Nat.zero_le _, rfl, by rw [List.take_zero, List.sum_nil, natS_zero], Below.refl _ _⟩
  case round =>
    obtain ⟨k, hk, rfl, rfl, hb⟩ := hrel
    by_cases hlt : k < l.length
    · obtain ⟨ad, rfl, hcell⟩ := HS.out.at_ (k := k) (by rw [List.length_map]; exact hlt)
      rw [List.getElem_map] at hcell
      have hc2 := (hb.cell (p := ad.add k) (by rw [block_of_add']; exact HA.out ad rfl)).trans hcell
      have hfk := HF.out l[k] (List.getElem_mem hlt)
      have hst := sum_take l k hlt
      have h1 := HND.out k
      have K := Lib.hid (fun w => rPlus_c (l.take k).sum l[k] w (by omega) (by unfold fits at hfk; omega))
      rw [← hst] at K
      clear hst hcell hfk h1
      go_wp2_with fail
      refine (K.out _).mono ?_
      rintro e w' ⟨rfl, hb'⟩
      go_wp2_with fail
      go_roundw
      case rel => exact ⟨k + 1, by omega, by go_num, rfl, hb.trans (hb'.mono hb.size)⟩
      case measure => simp [intOf]; omega
    · obtain rfl : k = l.length := by omega
      have h1 := HND.out l.length
      rw [List.take_length] at h1 ⊢
      have K := Lib.hid (fun w => rEnded_c l.sum w (by omega))
      clear h1
      go_wp2_with fail
      refine (K.out _).mono ?_
      rintro e w' ⟨rfl, rfl⟩
      go_wp2_with fail
      go_ret2
      exact ⟨rfl, hb⟩
end Go.Proofs.Ytjcicbnjoffbhaa
