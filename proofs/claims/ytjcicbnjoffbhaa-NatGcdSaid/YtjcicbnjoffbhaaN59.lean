/- Contract of package limb: Div by two words or more. -/
import Derived.Test.YtjcicbnjoffbhaaN58
import Derived.Test.YtjcicbnjoffbhaaN24
import Derived.Laws.CopyOwn
set_option linter.unusedSimpArgs false
set_option linter.unusedVariables false
namespace Go.Proofs.Ytjcicbnjoffbhaa
open Go Go.RowKit Nt

theorem wcells_splice (U L l : Nat) (hU : U < W ^ l) (hl : l ≤ L) :
    (splice ((dl W 0 L).map (fun (x : Nat) => Value.int .u64 (x : Int))) 0 ((dl W U l).map (fun (x : Nat) => Value.int .u64 (x : Int)))).toArray = wcells U L := by
  unfold wcells splice
  congr 1
  apply List.ext_getElem?
  intro j
  rw [List.take_zero, List.nil_append, List.length_map, dl_length, Nat.zero_add]
  by_cases h : j < l
  · rw [List.getElem?_append_left (by rw [List.length_map, dl_length]; exact h), List.getElem?_map, List.getElem?_map, dl_get? _ _ _ _ h, dl_get? _ _ _ _ (by omega)]
  · rw [List.getElem?_append_right (by rw [List.length_map, dl_length]; omega), List.length_map, dl_length, List.getElem?_drop, List.getElem?_map, List.getElem?_map, show l + (j - l) = j by omega]
    by_cases h2 : j < L
    · rw [dl_get? _ _ _ _ h2, dl_get? _ _ _ _ h2, dgt_of_lt W2 hU (by omega)]
      rw [dgt_def, Nat.zero_div, Nat.zero_mod]
    · rw [List.getElem?_eq_none (by rw [dl_length]; omega), List.getElem?_eq_none (by rw [dl_length]; omega)]
theorem quo_put {k Q v M : Nat} (hv : v < W) (h : W ^ (k + 1) * Q < W ^ M) (hk : k < M) : put W (W ^ (k + 1) * Q) k v = W ^ k * (v + W * Q) ∧ W ^ k * (v + W * Q) < W ^ M := by
  have hd : dgt W (W ^ (k + 1) * Q) k = 0 := by
    rw [dgt_def, Nat.pow_succ, Nat.mul_assoc, Nat.mul_div_cancel_left _ (Nat.pow_pos W0), Nat.mul_mod_right]
  have h1 := put_eq (b := W) (W ^ (k + 1) * Q) k v W0
  rw [hd, Nat.mul_zero, Nat.add_zero] at h1
  have e : put W (W ^ (k + 1) * Q) k v = W ^ k * (v + W * Q) := by
    rw [h1, Nat.mul_add, Nat.pow_succ, Nat.mul_assoc]; omega
  exact ⟨e, by rw [← e]; exact put_lt W2 hv h hk⟩
theorem made_wc (L : Nat) : madeCells (Value.cells (.int .u64 0)) (L * 1) = wcells 0 L := by rw [Nat.mul_one]; exact wcells_made L
/-- The numbers at the start. -/
theorem div_start {a b s n la M : Nat} (hn : nd W b = n + 1) (hla : nd W a = la) (hs : nd 2 (dgt W b n) + s = 64) (hM : M + n = la) :
    divI (a * 2 ^ s) (b * 2 ^ s) 0 (a * 2 ^ s) M ∧ nd W (a * 2 ^ s) ≤ la + 1 ∧ nd W (b * 2 ^ s) = n + 1 := by
  obtain ⟨h1, h2⟩ := normed hn hs
  have ht0 : dgt W b n ≠ 0 := by
    have := dgt_top (b := W) (n := b) W2 (fun c => by rw [c, nd_zero] at hn; omega)
    rwa [hn, Nat.add_sub_cancel] at this
  have hnz : nd 2 (dgt W b n) ≠ 0 := fun c => ht0 ((nd_eq_zero (by omega)).1 c)
  have hp : 2 * 2 ^ s ≤ W := by
    rw [← Nat.pow_succ', W_eq, show (18446744073709551616 : Nat) = 2 ^ 64 by rfl]
    exact Nat.pow_le_pow_right (by omega) (by omega)
  have ha : a < W ^ la := by rw [← hla]; exact lt_nd W2
  have h3 : 2 * (a * 2 ^ s) < W ^ (la + 1) := by
    have e : 2 * (a * 2 ^ s) = a * (2 * 2 ^ s) := by rw [Nat.mul_left_comm]
    rw [e, Nat.pow_succ]
    exact Nat.lt_of_lt_of_le ((Nat.mul_lt_mul_right (by have := Nat.two_pow_pos s; omega)).2 ha) (Nat.mul_le_mul_left _ hp)
  refine ⟨⟨by rw [Nat.mul_zero, Nat.mul_zero, Nat.add_zero], ?_⟩, nd_le W2 (by omega), ?_⟩
  · have h4 : W ^ M * W ^ (n + 1) ≤ W ^ M * (2 * (b * 2 ^ s)) := Nat.mul_le_mul_left _ h2
    rw [← Nat.pow_add, show M + (n + 1) = la + 1 by omega, Nat.mul_left_comm] at h4
    omega
  · refine nd_unique W2 ?_ h1
    have h5 : W ^ n * 2 ≤ W ^ n * W := Nat.mul_le_mul_left _ W2
    rw [Nat.pow_succ] at h2
    omega
set_option maxRecDepth 100000 in
set_option maxHeartbeats 4000000 in
theorem Div_big (A A' : Option Addr) (c c' a b m la M : Nat) (w : World) (hn : nd W b = m + 2) (hab : b ≤ a) (hla : nd W a = la) (hM : M + (m + 1) = la) (hL : la ≤ 100000000) (hr : Row w w.heap.size A a la) (hr' : Row w w.heap.size A' b (m + 2)) :
    Calls Try.prog 78 #[.slice A la c, .slice A' (m + 2) c'] w (DivPost (a / b) (a % b) w) := by
  obtain ⟨i0, hi0, hz0, hz1, hz2⟩ := info_parts (P := Try.prog) (e := 23) (z := .int .u64 0) (size := 1) (bytes := 8) (by kernel_rfl)
  have hcmp := cmp_pos hab
  have hcm := Cmp_c A A' c c' a b w.heap.size w (by omega) (by omega) (by rw [hla]; exact hr) (by rw [hn]; exact hr')
  rw [hla, hn] at hcm
  have HCM := Lib.hid hcm
  obtain ⟨t, ht⟩ : ∃ t, t = dgt W b (m + 1) := ⟨_, rfl⟩
  have htw : t < 18446744073709551616 := by rw [ht]; exact wd_lt _ _
  have ht64 : nd 2 t ≤ 64 := nd_le (by omega) (by rw [show (2 : Nat) ^ 64 = 18446744073709551616 by rfl]; exact htw)
  obtain ⟨s, hs⟩ : ∃ s, nd 2 t + s = 64 := ⟨64 - nd 2 t, by omega⟩
  have KLZ : Hid (∀ w, Calls Try.prog 98 #[.int .u64 (t : Nat)] w fun e w' => e = .returned (.int .i64 (s : Nat)) ∧ w = w') := Lib.hid (fun w => by
    refine (Try.bits_LeadingZeros64 _ _ (by omega) (by omega)).mono ?_
    rintro e w' ⟨rfl, rfl⟩
    refine ⟨ret_int ?_, rfl⟩
    rw [Int.toNat_natCast, bitLen_nd htw]; omega)
  obtain ⟨hst, hla2, hnV⟩ := div_start (a := a) (b := b) (s := s) (n := m + 1) (la := la) (M := M) (by omega) hla (by rw [← ht]; exact hs) hM
  obtain ⟨hV1, hV2⟩ := normed (b := b) (n := m + 1) (s := s) (by omega) (by rw [← ht]; exact hs)
  have hsl : s / 64 ≤ 1 := by omega
  have hmla : m + 2 ≤ la := by rw [← hla, ← hn]; exact nd_mono W2 hab
  have KS1 : Hid (∀ (w : World), Row w w.heap.size A' b (m + 2) → Calls Try.prog 81 #[.slice A' (m + 2) c', .int .i64 (s : Nat)] w (NumPost (b * 2 ^ s) w)) := Lib.hid (fun w h => by
    have := Shl_c A' c' b s w.heap.size w (by omega) (by rw [hn]; exact h) (Nat.le_refl _)
    rwa [hn] at this)
  have KS2 : Hid (∀ (w : World), Row w w.heap.size A a la → Calls Try.prog 81 #[.slice A la c, .int .i64 (s : Nat)] w (NumPost (a * 2 ^ s) w)) := Lib.hid (fun w h => by
    have := Shl_c A c a s w.heap.size w (by omega) (by rw [hla]; exact h) (Nat.le_refl _)
    rwa [hla] at this)
  have hb0 : 0 < b := by
    rcases Nat.eq_zero_or_pos b with e | e
    · rw [e, nd_zero] at hn; omega
    · exact e
  have HEND : Hid (∀ Q U, divI (a * 2 ^ s) (b * 2 ^ s) Q U 0 → Q = a / b ∧ U / 2 ^ s = a % b) := Lib.hid (fun Q U h => divI_end h rfl rfl hb0)
  have hV0 : 0 < b * 2 ^ s := Nat.mul_pos hb0 (Nat.two_pow_pos s)
  have hU0 : a * 2 ^ s < W ^ nd W (a * 2 ^ s) := lt_nd W2
  obtain ⟨V, hV⟩ : ∃ V, V = b * 2 ^ s := ⟨_, rfl⟩
  obtain ⟨Ua, hUa⟩ : ∃ Ua, Ua = a * 2 ^ s := ⟨_, rfl⟩
  rw [← hV] at hst hnV hV1 hV2 KS1 HEND hV0
  rw [← hUa] at hst hla2 KS2 HEND hU0
  obtain ⟨l2, hl2⟩ : ∃ l2, l2 = nd W Ua := ⟨_, rfl⟩
  rw [← hl2] at hla2 hU0
  have hcb : Hid (∀ w' : World, (∀ p : Addr, p.block < w.heap.size → w'.cell? p = w.cell? p) → ∃ gb, A' = some ⟨gb, 0, none⟩ ∧ w'.cell? ⟨gb, m + 1, none⟩ = some (.int .u64 (t : Nat))) := Lib.hid (fun w' h => by
    obtain ⟨gb, e, hg, hc⟩ := hr'.at_ (k := m + 1) (by omega)
    exact ⟨gb, e, by rw [h _ hg, hc, ht]⟩)
  obtain ⟨n, hnn⟩ : ∃ n, n = m + 2 := ⟨_, rfl⟩
  obtain ⟨n1, hn1⟩ : ∃ n1, n1 = m + 1 := ⟨_, rfl⟩
  obtain ⟨L, hLL⟩ : ∃ L, L = la + 1 := ⟨_, rfl⟩
  rw [← hnn] at HCM KS1 ⊢
  rw [← hn1] at hcb
  have hn1I : (n : Int) - 1 = (n1 : Int) := by omega
  have hLI : (la : Int) + 1 = (L : Int) := by omega
  have hMI : (la : Int) - (n : Int) + 1 = (M : Int) := by omega
  have hne1 : ¬ n = 1 := by omega
  have hne : ((n : Int) == 1) = false := by rw [beq_eq_false_iff_ne]; omega
  have hn8 : n ≤ 100000000 := by omega
  have hM8 : M ≤ 100000000 := by omega
  have hL8 : L ≤ 100000001 := by omega
  have hn1lt : n1 < n := by omega
  have HR := Lib.hid hr
  have HR' := Lib.hid (show Row w w.heap.size A' b n by rw [hnn]; exact hr')
  have HNN := Lib.hid hnn
  have HN1 := Lib.hid hn1
  have HLL := Lib.hid hLL
  have HST := Lib.hid hst
  have HL2 := Lib.hid (show l2 ≤ L by omega)
  have HNV := Lib.hid hnV
  have HV1 := Lib.hid hV1
  have HV2 := Lib.hid hV2
  have HV0 := Lib.hid hV0
  have HU0 := Lib.hid hU0
  have HL2E := Lib.hid hl2
  have HMM := Lib.hid hM
  have hs64 : s ≤ 64 := by omega
  clear hcm hr hr' hla hn hM ht ht64 hs hst hla2 hnV hV1 hV2 hV0 hU0 hb0 hV hUa hl2 hnn hn1 hLL hsl htw hab hmla
  go_enter Try.func78, Try.ntmps78
  go_wp2
  go_step3
  go_wp2_with fail
  refine HCM.out.mono ?_
  rintro e w1 ⟨rfl, nn, rfl⟩
  have hd1 : ∀ p : Addr, p.block < w.heap.size → (w.drewN nn).cell? p = w.cell? p := fun _ _ => rfl
  obtain ⟨gb, rfl, hcell⟩ := hcb.out (w.drewN nn) hd1
  have hR1 := HR.out.drewN nn
  have hR2 := HR'.out.drewN nn
  have hbw1 : Below w.heap.size w (w.drewN nn) := below_drewN (Below.refl _ _) nn
  have hsz1 : (w.drewN nn).heap.size = w.heap.size := rfl
  rw [← hsz1] at hR1 hR2
  generalize w.drewN nn = w1 at *
  have HR1 := Lib.hid hR1
  have HR2 := Lib.hid hR2
  have HSZ1 := Lib.hid hsz1
  clear hR1 hR2 hsz1 hd1
  go_wp2_with fail
  refine (KLZ.out _).mono ?_
  rintro e w2 ⟨rfl, rfl⟩
  go_wp2_with fail
  refine (KS1.out _ HR2.out).mono ?_
  intro e w2 hp
  obtain ⟨A1, c1, rfl, hc1, hr1, hb1⟩ := hp.get
  rw [HNV.out, show m + 1 + 1 = n from HNN.out.symm] at hc1 hr1 ⊢
  have HRV := Lib.hid hr1
  have HRA := Lib.hid ((HR1.out.below hb1).more hb1.size)
  have hbw2 : Below w.heap.size w w2 := below_chain hbw1 hb1
  clear hr1 hp hcell
  obtain ⟨g, hg⟩ : ∃ g, g = w2.heap.size := ⟨_, rfl⟩
  have HG := Lib.hid hg
  go_wp2_with (at_make; (refine wpList_make_zero _ rfl _ _ _ rfl 23 i0 _ Try.underlying86 hi0 hz0 hz1 .i64 .i64 _ _ L rfl rfl (by omega) (by omega) (by rw [hz2]; omega) (by unfold maxLen; omega) ?_); rw [made_wc]; have HB0 := Lib.hid (Blk.new w2 23 (wcells 0 L)); have hbl : Below w2.heap.size w2 (w2.alloc (.cells (wcells 0 L) 23)) := (Below.refl _ _).alloc (Nat.le_refl _) _; generalize w2.alloc (.cells (wcells 0 L) 23) = w3 at *; rw [← hg] at HB0 hbl ⊢; clear hg)
  have HRA3 := Lib.hid ((HRA.out.below (by rw [← HG.out]; exact hbl)).more (by have := hbl.size; rw [← HG.out] at *; exact this))
  refine (KS2.out _ HRA3.out).mono ?_
  intro e w4 hp
  obtain ⟨A2, c2, rfl, hc2, hr2, hb2⟩ := hp.get
  rw [← HL2E.out] at hc2 hr2 ⊢
  have HRU := Lib.hid hr2
  have HB4 := Lib.hid (HB0.out.below hb2 HB0.out.lt)
  have hbg4 : Below g w2 w4 := hbl.trans (hb2.mono (by have := HB0.out.lt; omega))
  clear hr2 hp hbl hb2
  have hcur : ∃ cur : List Value, cur = (dl W 0 L).map (fun (x : Nat) => Value.int .u64 (x : Int)) ∧ cur.length = L := ⟨_, rfl, by rw [List.length_map, dl_length]⟩
  obtain ⟨cur, hcur, hcurl⟩ := hcur
  have hcs : ∃ cs : List Value, cs = (dl W Ua l2).map (fun (x : Nat) => Value.int .u64 (x : Int)) ∧ cs.length = l2 := ⟨_, rfl, by rw [List.length_map, dl_length]⟩
  obtain ⟨cs, hcs, hcsl⟩ := hcs
  have hblk : w4.heap[g]? = some (.cells cur.toArray 23 (0, 0)) := by rw [hcur]; exact HB4.out
  have hsplice : (splice cur 0 cs).toArray = wcells Ua L := by rw [hcur, hcs]; exact wcells_splice Ua L l2 HU0.out HL2.out
  have hone : ∀ v ∈ cs, v.oneCell' = true := fun v hv => by
    rw [hcs] at hv
    obtain ⟨y, _, rfl⟩ := List.mem_map.1 hv
    rfl
  have hpos : 0 < cs.length → ∃ ad, A2 = some ad ∧ ∀ j v, cs[j]? = some v → w4.cell? (ad.add j) = some v := fun hp => by
    obtain ⟨ga, e, hga, hc⟩ := HRU.out (by omega)
    refine ⟨⟨ga, 0, none⟩, e, fun j v hj => ?_⟩
    have hjl : j < l2 := by
      rcases Nat.lt_or_ge j l2 with h | h
      · exact h
      · rw [List.getElem?_eq_none (by omega)] at hj; cases hj
    rw [hcs, List.getElem?_map, dl_get? _ _ _ _ hjl] at hj
    rw [add_plain0, hc j hjl]; exact hj
  have HCUR := Lib.hid hcurl
  have HCS := Lib.hid hcsl
  have HBL := Lib.hid hblk
  have HSP := Lib.hid hsplice
  have HON := Lib.hid hone
  have HPO := Lib.hid hpos
  have hmin : Hid (cs.length = Nat.min l2 L) := Lib.hid (by rw [hcsl]; exact (Nat.min_eq_left HL2.out).symm)
  have hfit : Hid (0 + cs.length ≤ cur.length) := Lib.hid (by rw [hcsl, hcurl]; have := HL2.out; omega)
  clear hcur hcs hblk hsplice hone hpos hcurl hcsl
  have hsz4 : g ≤ w4.heap.size := by rw [HG.out]; exact hbg4.size
  go_upto_region 10 with (refine wpList_copy_splice (o := ⟨some 54, _, _, _, _, _⟩) rfl (.tmp 50) (.tmp 53) _ _ rfl 23 Try.underlying86 (by kernel_rfl) (some ⟨g, 0, none⟩) A2 L L l2 c2 rfl rfl g 0 cur 23 HBL.out cs hmin.out (fun hp => ⟨rfl, HPO.out hp⟩) hfit.out HON.out g w2 hbg4 (Nat.le_refl _) ?_; intro w5 hblk5 hbg5; have HB5 : Hid (Blk w5 g 23 (wcells Ua L)) := Lib.hid (by have h := hblk5.out; rw [HSP.out] at h; exact h); clear hblk5)
  go_wp2_with (at_make; (refine wpList_make_zero _ rfl _ _ _ rfl 23 i0 _ Try.underlying86 hi0 hz0 hz1 .i64 .i64 _ _ M rfl rfl (by omega) (by omega) (by rw [hz2]; omega) (by unfold maxLen; omega) ?_); rw [made_wc]; have HQ0 := Lib.hid (Blk.new w5 23 (wcells 0 M)); have HB6 := Lib.hid (HB5.out.alloc (.cells (wcells 0 M) 23)); have hbg6 : Below g w2 (w5.alloc (.cells (wcells 0 M) 23)) := hbg5.alloc (Nat.le_of_lt HB5.out.lt) _; obtain ⟨g2, hg2⟩ : ∃ g2, g2 = w5.heap.size := ⟨_, rfl⟩; have HGG : Hid (g < g2) := Lib.hid (by rw [hg2]; exact HB5.out.lt); rw [← hg2] at HQ0 ⊢; generalize w5.alloc (.cells (wcells 0 M) 23) = w6 at *; clear hg2)
  go_step3
  go_wp2_with fail
  go_loopw [12] (fun kk wr => ∃ (K U Q : Nat) (z : Int), K ≤ M ∧ kk = .int .i64 z ∧ Hid (z = (K : Int) - 1) ∧ Hid (divI Ua V Q U K) ∧ Hid (W ^ K * Q < W ^ M) ∧ Hid (Blk wr g 23 (wcells U L)) ∧ Hid (Blk wr g2 23 (wcells (W ^ K * Q) M)) ∧ Below g w2 wr) (fun kk _ => (intOf kk + 1).toNat)
  case atStart => exact ⟨M, Ua, 0, _, Nat.le_refl _, rfl, Lib.hid (by first | rfl | omega | go_num), HST, Lib.hid (by rw [Nat.mul_zero]; exact Nat.pow_pos W0), HB6, by rw [Nat.mul_zero]; exact HQ0, hbg6⟩
  case round =>
    obtain ⟨K, U, Q, z, hK, rfl, hz, hdi, hQM, hbu, hbq, hbw⟩ := hrel
    by_cases h0 : K = 0
    · subst h0
      obtain rfl : z = -1 := by have := hz.out; omega
      have hq1 := hbq.out
      have hq2 := hQM.out
      rw [Nat.pow_zero, Nat.one_mul] at hq1 hq2
      obtain ⟨e1, e2⟩ := HEND.out Q U hdi.out
      have hUV := hdi.out.2
      rw [Nat.pow_zero, Nat.one_mul] at hUV
      have hUL : U < W ^ L := Nat.lt_of_lt_of_le (Nat.lt_trans hUV HV1.out) (Nat.pow_le_pow_right W0 (by have := HLL.out; have := HMM.out; omega))
      have hndU := nd_le W2 hUL
      have hndQ := nd_le W2 hq2
      have KC1 := Lib.hid (Cut_c (some ⟨g2, 0, none⟩) M M Q (g2 + 1) wr hq2 (Nat.le_refl _) (by omega) (Row.of_blk hq1 (by omega)))
      have KC2 := Lib.hid (Cut_c (some ⟨g, 0, none⟩) L L U (g + 1) wr hUL (Nat.le_refl _) (by omega) (Row.of_blk hbu.out (by omega)))
      have hrU : Row wr wr.heap.size (some ⟨g, 0, none⟩) U (nd W U) := (Row.of_blk hbu.out hbu.out.lt).less hndU
      have KS3 := Lib.hid (Shr_c (some ⟨g, 0, none⟩) L U s wr.heap.size wr (by omega) (by omega) hrU (Nat.le_refl _))
      rw [e2] at KS3
      subst e1
      have HQ1 := Lib.hid hq1
      have HNQ := Lib.hid hndQ
      have HBW := Lib.hid (below_chain hbw2 (by have h := hbw; rw [HG.out] at h; exact h))
      clear hq1 hq2 hUV hUL hndU hrU hndQ
      go_wp2_with fail
      refine KC1.out.mono ?_
      rintro e w7 ⟨rfl, rfl⟩
      go_wp2_with fail
      refine KC2.out.mono ?_
      rintro e w7 ⟨rfl, rfl⟩
      go_wp2_with fail
      refine KS3.out.mono ?_
      intro e w8 hp
      obtain ⟨A8, c8, rfl, hc8, hr8, hb8⟩ := hp.get
      have HR8 := Lib.hid hr8
      clear hp hr8
      go_wp2_with fail
      rw [Exit.noGoto_ret]
      go_ret2
      exact ⟨_, _, _, _, rfl, HNQ.out, hc8, ((Row.of_blk HQ1.out HQ1.out.lt).less HNQ.out).below hb8 |>.more hb8.size, HR8.out, below_chain HBW.out hb8⟩
    · obtain ⟨k, rfl⟩ : ∃ k, K = k + 1 := ⟨K - 1, by omega⟩
      obtain rfl : z = (k : Int) := by have := hz.out; omega
      have hlt := divI_lt hdi.out
      have hV1 := HV1.out
      have hV2 := HV2.out
      have hgok := guess_ok (U := U) (v := V) (k := k) (m := m) hV1 hV2 hlt
      obtain ⟨p2, hp2⟩ : ∃ p2, p2 = k + m + 2 := ⟨_, rfl⟩
      obtain ⟨p1, hp1⟩ : ∃ p1, p1 = k + m + 1 := ⟨_, rfl⟩
      obtain ⟨p0, hp0⟩ : ∃ p0, p0 = k + m := ⟨_, rfl⟩
      rw [← hp2, ← hp1, ← hp0, ← HN1.out] at hgok
      have hnm := HNN.out
      have hn1m := HN1.out
      have hlL := HLL.out
      have hmM := HMM.out
      have hUW : U < W ^ (k + n + 1) := by
        refine Nat.lt_trans hlt ?_
        have e : W ^ (k + n + 1) = W * (W ^ k * W ^ n) := by rw [← Nat.pow_add, ← Nat.pow_succ']
        rw [e, hnm]
        exact (Nat.mul_lt_mul_left W0).2 ((Nat.mul_lt_mul_left (Nat.pow_pos W0)).2 hV1)
      have hu2 := hbu.out.cell p2
      have hu1 := hbu.out.cell p1
      have hu0 := hbu.out.cell p0
      rw [wcells_get _ _ _ (by omega)] at hu2 hu1 hu0
      obtain ⟨gv, e1, hgv, hv1⟩ := HRV.out.at_ (k := n1) (by omega)
      obtain ⟨gv', e1', hgv', hv0⟩ := HRV.out.at_ (k := m) (by omega)
      have hee : gv' = gv := by rw [e1] at e1'; injection e1' with h; injection h with h; exact h.symm
      subst hee
      subst e1
      have hv1' := (hbw.cell (p := ⟨gv', n1, none⟩) (by rw [HG.out]; exact hgv)).trans hv1
      have hv0' := (hbw.cell (p := ⟨gv', m, none⟩) (by rw [HG.out]; exact hgv)).trans hv0
      have KDG := fun w => Digit_all (dgt W U p2) (dgt W U p1) (dgt W U p0) (dgt W V n1) (dgt W V m) w (wd_lt _ _) (wd_lt _ _) (wd_lt _ _) (wd_lt _ _)
      obtain ⟨G, hG⟩ : ∃ G, G = guessN (dgt W U p2) (dgt W U p1) (dgt W U p0) (dgt W V n1) (dgt W V m) := ⟨_, rfl⟩
      rw [← hG] at hgok KDG
      obtain ⟨hGW, hGq⟩ := hgok
      have HGQ := Lib.hid hGq
      have HGW := Lib.hid hGW
      have hG64 : G < 18446744073709551616 := by rw [← W_eq]; exact hGW
      have KD := Lib.hid KDG
      have i2 : (k : Int) + (n : Int) = (p2 : Int) := by omega
      have i1 : (p2 : Int) - 1 = (p1 : Int) := by omega
      have i0 : (p2 : Int) - 2 = (p0 : Int) := by omega
      have in2 : (n : Int) - 2 = (m : Int) := by omega
      have hw2 : IntKind.i64.wrap ((k : Int) + (n : Int)) = (p2 : Int) := by rw [IntWalk.i64_in _ (by omega)]; exact i2
      have hw1 : IntKind.i64.wrap ((p2 : Int) - 1) = (p1 : Int) := by rw [IntWalk.i64_in _ (by omega)]; exact i1
      have hw0 : IntKind.i64.wrap ((p2 : Int) - 2) = (p0 : Int) := by rw [IntWalk.i64_in _ (by omega)]; exact i0
      have hwn1 : IntKind.i64.wrap ((n : Int) - 1) = (n1 : Int) := by rw [IntWalk.i64_in _ (by omega)]; exact hn1I
      have hwn2 : IntKind.i64.wrap ((n : Int) - 2) = (m : Int) := by rw [IntWalk.i64_in _ (by omega)]; exact in2
      have b2 : p2 < L := by omega
      have b1 : p1 < L := by omega
      have b0 : p0 < L := by omega
      have bn1 : n1 < n := by omega
      have bn0 : m < n := by omega
      have HUW := Lib.hid hUW
      have HKM := Lib.hid (show k < M by omega)
      have HP2 := Lib.hid (show p2 = k + n by omega)
      generalize dgt W U p2 = d2 at *
      generalize dgt W U p1 = d1 at *
      generalize dgt W U p0 = d0 at *
      generalize dgt W V n1 = x1 at *
      generalize dgt W V m = x0 at *
      have hk8 : k ≤ 100000000 := by omega
      clear hlt hV1 hV2 hp2 hp1 hp0 hnm hn1m hlL hmM hUW hgv hv1 hv0 e1' hgv' KDG hG hGW hGq hK h0
      go_wp2_with fail
      go_quiet ((go_at_call 99; exact Calls.quiet_of ((KD.out _).mono fun _ _ h => ⟨h.1, h.2⟩)))
      have hbwq := below_drewN hbw nq
      have hbuq := Lib.hid (hbu.out.drewN nq)
      have hbqq := Lib.hid (hbq.out.drewN nq)
      clear hu2 hu1 hu0 hv1' hv0' hbu hbq hbw
      generalize wr.drewN nq = wq at *
      by_cases hG0 : G = 0
      · subst hG0
        have hq0 : U / (W ^ k * V) = 0 := by
          rcases HGQ.out with h | h
          · exact h
          · exact absurd h (Nat.succ_ne_zero _)
        have hst := divI_step hdi.out hq0.symm HV0.out
        have hUm : U % (W ^ k * V) = U := by
          refine Nat.mod_eq_of_lt ?_
          have h1 := Nat.lt_div_mul_add (a := U) (Nat.mul_pos (Nat.pow_pos (n := k) W0) HV0.out)
          rw [hq0, Nat.zero_mul, Nat.zero_add] at h1
          exact h1
        rw [hUm] at hst
        have he : W ^ (k + 1) * Q = W ^ k * (0 + W * Q) := by rw [Nat.zero_add, Nat.pow_succ, Nat.mul_assoc]
        rw [he] at hQM hbqq
        have HSTN := Lib.hid hst
        have HKM2 := HKM
        clear hq0 hst hUm he
        go_wp2_with fail
        go_roundw
        case rel => exact ⟨k, U, _, (k : Int) - 1, by have := HKM.out; omega, by first | rfl | go_num, Lib.hid rfl, HSTN, hQM, hbuq, hbqq, hbwq⟩
        case measure => simp [intOf]; try omega
      · have hGz : ((G : Int) == 0) = false := by rw [beq_eq_false_iff_ne]; omega
        have hkn : ((p2 : Int) + 1) ≤ (L : Int) := by omega
        have hkL : ¬ L = k := by have := HP2.out; omega
        have hsub : p2 + 1 - k = n + 1 := by have := HP2.out; omega
        have hsub2 : k + n + 1 - k = n + 1 := by omega
        have hVn : V < W ^ n := by rw [HNN.out]; exact HV1.out
        have hkL2 : k + n + 1 ≤ L := by have := HP2.out; omega
        have hRVq : Row wq g (some ⟨gv', 0, none⟩) V n := by
          have h := HRV.out
          rw [← HG.out] at h
          exact h.below hbwq
        have KL := Lib.hid (Less_c g k n L U V G (L - k) c1 (some ⟨gv', 0, none⟩) wq hbuq.out hkL2 (by omega) hRVq hVn hG64 HUW.out (by omega))
        have KB := Lib.hid (fun Z w7 h1 h2 h3 => Back_c g k n L Z V (L - k) c1 (some ⟨gv', 0, none⟩) w7 h1 hkL2 (by omega) h2 hVn h3 (by omega))
        have HRVQ := Lib.hid hRVq
        have HVN := Lib.hid hVn
        have hkM := HKM.out
        clear hRVq hVn hkL2 i2 i1 i0 hw2 hw1 hw0 hwn1 hwn2
        go_wp2_with fail
        (with_reducible refine KL.out.mono ?_)
        rintro e w7 ⟨Z, bo, bb, rfl, hbb, hbo, hblk7, hon7, hb7, hZ7, heq7⟩
        have HQ7 := Lib.hid (hon7.blk (Nat.ne_of_gt HGG.out) hbqq.out)
        have HB7 := Lib.hid hblk7
        have HEQ7 := Lib.hid heq7
        have HZ7 := Lib.hid hZ7
        have hbw7 : Below g w2 w7 := hbwq.trans hb7
        have hRV7 := Lib.hid (HRVQ.out.below hb7)
        clear hblk7 hon7 hZ7 heq7 hb7 hbwq
        by_cases hb0 : bo = 0
        · subst hb0
          obtain rfl : bb = false := by rw [hbb]; rfl
          obtain ⟨hqG, hZe⟩ := step_fine (n := n) (Z := Z) HGQ.out rfl HV0.out (by have := HEQ7.out; rwa [Nat.mul_zero, Nat.add_zero] at this)
          have hst := divI_step hdi.out hqG.symm HV0.out
          rw [← hZe] at hst
          obtain ⟨hq1, hq2⟩ := quo_put (k := k) (Q := Q) (v := G) (M := M) HGW.out hQM.out hkM
          have hcq := HQ7.out.cell k
          rw [wcells_get _ _ _ hkM] at hcq
          have hfq := HQ7.out.frozen k
          have HQ8 := HQ7.out.set_ k (.int .u64 (G : Nat))
          rw [wcells_set _ _ _ _ hG64, hq1] at HQ8
          have HQ9 := Lib.hid HQ8
          have HB8 := Lib.hid (HB7.out.far (p := ⟨g2, k, none⟩) (Nat.ne_of_lt HGG.out) (.int .u64 (G : Nat)))
          have hb8 := hbw7.setCell (p := ⟨g2, k, none⟩) (Nat.le_of_lt HGG.out) (.int .u64 (G : Nat))
          have HSTN := Lib.hid hst
          have HQB := Lib.hid hq2
          clear hbb hbo hqG hZe hst hq1 hq2 HQ8
          go_wp2_with fail
          go_roundw
          case rel => exact ⟨k, Z, _, (k : Int) - 1, by have := HKM.out; omega, by first | rfl | go_num, Lib.hid rfl, HSTN, HQB, HB8, HQ9, hb8⟩
          case measure => simp [intOf]; try omega
        · obtain rfl : bo = 1 := by omega
          obtain rfl : bb = true := by rw [hbb]; rfl
          obtain ⟨x, rfl⟩ : ∃ x, G = x + 1 := ⟨G - 1, by omega⟩
          have hwx : IntKind.u64.wrap ((x : Int) + 1 - 1) = (x : Int) := by rw [IntKind.wrap_u64]; omega
          have hwx2 : IntKind.u64.wrap (x : Int) = (x : Int) := by rw [IntKind.wrap_u64]; omega
          have hx64 : x < 18446744073709551616 := by omega
          have hxI : ((x + 1 : Nat) : Int) - 1 = (x : Int) := by omega
          clear hbb hbo hb0
          go_wp2_with fail
          refine (KB.out Z w7 HB7.out hRV7.out HZ7.out).mono ?_
          rintro e w8 ⟨Z2, cc, rfl, hcc, hblk8, hon8, hb8, hZ8, heq8⟩
          obtain ⟨hqG, hZe⟩ := step_back (n := n) (Z := Z) (Z' := Z2) (c := cc) HGQ.out rfl HV0.out HVN.out HUW.out HZ7.out hZ8 hcc (by have := HEQ7.out; rwa [Nat.mul_one] at this) heq8
          have hst := divI_step (q := x) hdi.out (Nat.succ.inj hqG).symm HV0.out
          rw [← hZe] at hst
          obtain ⟨hq1, hq2⟩ := quo_put (k := k) (Q := Q) (v := x) (M := M) (Nat.lt_of_succ_lt HGW.out) hQM.out hkM
          have HQ8 := hon8.blk (Nat.ne_of_gt HGG.out) HQ7.out
          have hcq := HQ8.cell k
          rw [wcells_get _ _ _ hkM] at hcq
          have hfq := HQ8.frozen k
          have HQ9 := HQ8.set_ k (.int .u64 (x : Nat))
          rw [wcells_set _ _ _ _ hx64, hq1] at HQ9
          have HQ10 := Lib.hid HQ9
          have HB9 := Lib.hid (hblk8.far (p := ⟨g2, k, none⟩) (Nat.ne_of_lt HGG.out) (.int .u64 (x : Nat)))
          have hb9 := (hbw7.trans hb8).setCell (p := ⟨g2, k, none⟩) (Nat.le_of_lt HGG.out) (.int .u64 (x : Nat))
          have HSTN := Lib.hid hst
          have HQB := Lib.hid hq2
          clear hqG hZe hst hq1 hq2 HQ8 HQ9 hblk8 hon8 hZ8 heq8 hcc hb8
          go_wp2_with fail
          go_roundw
          case rel => exact ⟨k, Z2, _, (k : Int) - 1, by have := HKM.out; omega, by first | rfl | go_num, Lib.hid rfl, HSTN, HQB, HB9, HQ10, hb9⟩
          case measure => simp [intOf]; try omega
end Go.Proofs.Ytjcicbnjoffbhaa
