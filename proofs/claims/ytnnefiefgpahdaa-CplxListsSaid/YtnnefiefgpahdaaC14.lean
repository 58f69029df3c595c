/- The law CplxLists: its walk. -/
import Derived.Test.YtnnefiefgpahdaaC13
import Derived.Deep.CutBlock
import Derived.Deep.DeepCutAuto
import Derived.Deep.RegionLaw
set_option linter.unusedSimpArgs false
set_option linter.unusedVariables false
namespace Go.Proofs.Ytnnefiefgpahdaa
open Go Go.RowKit Ff

/-- The numbers that lie at this slice, as pairs of words. -/
def Pts (w : World) (A : Option Addr) (l : List (Nat × Nat)) : Prop := 0 < l.length → ∃ ad, A = some ad ∧ ∀ j (h : j < l.length), w.cell? (ad.add (j * 2)) = some (.int .u64 l[j].1) ∧ w.cell? ((ad.add (j * 2)).add 1) = some (.int .u64 l[j].2)

theorem block_of_add' (a : Addr) (n : Nat) : (a.add n).block = a.block := by unfold Addr.add; split <;> rfl
theorem step_appC1 {P : Program} (W : World) {ops : Array Oper} {o : Oper} {a : Act} {K : Act → World → Prop} {Q : Exit → Act → World → Prop} {E : Prop} (hgd : o.guard = none) (s x : Operand) (t : TypeId)
    (ho : o.op = .call { callee := .builtin .append, args := #[s, x], argTypes := #[t, t] })
    (B : Nat) (e : TypeId) (i : TypeInfo) (ht : P.underlying t = some (.slice e)) (hi : P.info? e = some i) (hz : i.zero = some (.complex .f64 0 0))
    (hsize : i.size = 1) (hby : i.bytes = 16)
    (v : Value) (l : List (Nat × Nat)) (p q : Nat) (ad : Addr) (hs : a.eval s = v) (hx : a.eval x = .slice (some ad) 1 1) (hcx : W.cell? ad = some (.complex .f64 p q)) (hown : OwnC W B e v l)
    (hn : (l.length + 1) * 16 ≤ 140737488355328) (hB : B ≤ W.heap.size)
    (h : ∀ v' w', OwnC w' B e v' (l ++ [(p, q)]) → Below B W w' → K (a.put o.dst v') w') :
    if Region.wanted o (yielded ops a.tmps) = true then Oper.wp P o a W K Q else E := by
  have hw : Region.wanted o (yielded ops a.tmps) = true := by simp [Region.wanted, hgd]
  rw [if_pos hw]
  obtain ⟨v', w', hrun, h2, hg, _, h5⟩ := run_append_own_at (P := P) W B t o.type e i (.complex .f64 0 0) 1 16 ht hi hz hsize hby rfl (by omega) v l.length (l.map cv) hown
    ad 1 1 [.complex .f64 p q] rfl (by
      intro j u hu
      have hj : j = 0 := by
        rcases Nat.lt_or_ge j 1 with h | h
        · omega
        · rw [List.getElem?_eq_none (by simpa using h)] at hu; cases hu
      subst hj
      have e0 : ad.add 0 = ad := by unfold Addr.add; simp
      rw [e0, hcx]
      exact hu) (by
      intro u hu
      rw [List.mem_singleton.1 hu]; rfl) (by simp [maxLen]; omega) hn hB
  unfold Oper.wp execOp
  simp only [ho, resolve, invoke, builtin, Sem.run_bind, Sem.run_pure, Result.andThen_ok, List.map_toArray, List.map_cons, List.map_nil, hs, hx, hrun]
  refine h v' w' ?_ ?_
  · unfold OwnC
    simpa [cv] using h2
  · exact Below.grown (Below.refl _ _) hg hB (fun g e => (World.ownsRow.lt hown g e).1)
theorem same_two {a b c d x y : Nat} (h1 : likeB a x = true) (h2 : likeB b y = true) (h3 : likeB c x = true) (h4 : likeB d y = true) : sameB a b c d = true :=
  same_of (like_trans h1 (like_symm h3)) (like_trans h2 (like_symm h4))
theorem like_two {a b x : Nat} (h1 : likeB a x = true) (h2 : likeB b x = true) : likeB a b = true := like_trans h1 (like_symm h2)
theorem rLike_5 (a b : Nat) (w : World) : Calls Try.prog 24 #[.float .f64 a, .float .f64 b] w fun e w' => e = .returned (.bool (likeB a b)) ∧ w = w' := rLike5_c a b w
theorem below_last {w w1 w' : World} (h : Below w.heap.size w w1) (hb : Below w1.heap.size w1 w') : Below w.heap.size w w' := h.trans (hb.mono h.size)
theorem add_plain0 (g j : Nat) : (⟨g, 0, none⟩ : Addr).add j = ⟨g, j, none⟩ := by
  unfold Addr.add
  split
  · next h => subst h; rfl
  · simp
theorem below_chain {a b c : World} (h1 : Below a.heap.size a b) (h2 : Below b.heap.size b c) : Below a.heap.size a c := h1.trans (h2.mono h1.size)
/-- 'append(s, x)' of one number: another row of the call's own stays. -/
theorem wpList_appC2 {P : Program} (w0 : World) {ops : Array Oper} {rest : List Oper} {o : Oper} {a : Act} {Q : Exit → Act → World → Prop} (hgd : o.guard = none) (s x : Operand) (t : TypeId)
    (ho : o.op = .call { callee := .builtin .append, args := #[s, x], argTypes := #[t, t] })
    (B : Nat) (e U : TypeId) (i : TypeInfo) (ht : P.underlying t = some (.slice e)) (hi : P.info? e = some i) (hz : i.zero = some (.complex .f64 0 0))
    (hsize : i.size = 1) (hby : i.bytes = 16)
    (v : Value) (l : List (Nat × Nat)) (p q : Nat) (hs : a.eval s = v) (hx : a.eval x = .slice (some ⟨w0.heap.size, 0, none⟩) 1 1) (hown : OwnC w0 B e v l)
    (hn : (l.length + 1) * 16 ≤ 140737488355328) (hB : B ≤ w0.heap.size)
    (h : ∀ v' w', OwnC w' B e v' (l ++ [(p, q)]) → Below B w0 w' → (∀ g, g < w0.heap.size → v.ownBlock ≠ some g → w'.heap[g]? = w0.heap[g]?) → (v'.ownBlock = v.ownBlock ∨ ∀ g, v'.ownBlock = some g → w0.heap.size ≤ g) → w0.heap.size ≤ w'.heap.size → wpList P ops Q rest (a.put o.dst v') w') :
    wpList P ops Q (o :: rest) a (w0.alloc (.cells #[.complex .f64 p q] U)) := by
  have hown1 : (w0.alloc (.cells #[.complex .f64 p q] U)).ownsRow B e 1 v l.length (l.map cv) := World.ownsRow.alloc hown _
  refine wpList_plain hgd fun _ hK => ?_
  obtain ⟨v', w', hrun, h2, hg, _, h5⟩ := run_append_own_at (P := P) (w0.alloc (.cells #[.complex .f64 p q] U)) B t o.type e i (.complex .f64 0 0) 1 16 ht hi hz hsize hby rfl (by omega) v l.length (l.map cv) hown1
    ⟨w0.heap.size, 0, none⟩ 1 1 [.complex .f64 p q] rfl (cell_one_new _ _ _) (by
      intro u hu
      rw [List.mem_singleton.1 hu]; rfl) (by simp [maxLen]; omega) hn (by simp; omega)
  unfold Oper.wp execOp
  simp only [ho, resolve, invoke, builtin, Sem.run_bind, Sem.run_pure, Result.andThen_ok, List.map_toArray, List.map_cons, List.map_nil, hs, hx, hrun]
  have hsz : (w0.alloc (.cells #[.complex .f64 p q] U)).heap.size = w0.heap.size + 1 := by simp
  refine hK _ _ (h v' w' ?_ ?_ ?_ ?_ ?_)
  · unfold OwnC
    simpa [cv] using h2
  · exact Below.grown ((Below.refl _ _).alloc hB _) hg (by simp; omega) (fun g e => (World.ownsRow.lt hown g e).1)
  · intro g hlt hne
    rw [hg.block g (by rw [hsz]; omega) (fun e => hne e.symm)]
    first | exact heap_alloc_old w0 _ hlt | exact heap_alloc_old w0 hlt | (simp [World.alloc, hlt]; done)
  · rcases h5 with h5 | h5
    · exact Or.inl h5
    · refine Or.inr fun g e => ?_
      rw [h5, hsz] at e
      cases e; omega
  · have := hg.size
    rw [hsz] at this; omega
theorem OwnC.kept {w w' : World} {B : Nat} {T : TypeId} {v : Value} {l : List (Nat × Nat)} (h : OwnC w B T v l) (hs : w.heap.size ≤ w'.heap.size) (hb : ∀ g, v.ownBlock = some g → w'.heap[g]? = w.heap[g]?) : OwnC w' B T v l := by
  rcases h.2 with ⟨rfl, h0⟩ | ⟨g, cap, cur, rfl, hB1, hh, hn, hm, hs, ht⟩
  · exact ⟨h.1, Or.inl ⟨rfl, h0⟩⟩
  · exact ⟨h.1, Or.inr ⟨g, cap, cur, rfl, hB1, (hb g rfl).trans hh, hn, hm, hs, ht⟩⟩
set_option maxRecDepth 1000000 in
set_option maxHeartbeats 4000000 in
theorem lists_walk (l m : List (Nat × Nat)) (A B : Option Addr) (c d n k : Nat) (w : World) (hn : n = l.length) (hk : k = m.length)
    (hn2 : n ≤ 8796093022080) (hk2 : k ≤ 8796093022080) (hl : Pts w A l) (hm : Pts w B m) (hA : 0 < l.length → ∀ ad, A = some ad → ad.block < w.heap.size) (hB : 0 < m.length → ∀ ad, B = some ad → ad.block < w.heap.size) :
    Calls Try.prog 3 #[.slice A n c, .slice B k d] w fun e w' => e = .returned (.bool true) ∧ Below w.heap.size w w' := by
  obtain ⟨i0, hi0, hz0, hj1, hj2⟩ := info_parts (P := Try.prog) (e := 24) (z := .complex .f64 0 0) (size := 1) (bytes := 16) (by kernel_rfl)
  have HL := Lib.hid hl
  have HM := Lib.hid hm
  have HA := Lib.hid hA
  have HB := Lib.hid hB
  have HN := Lib.hid hn
  have HK := Lib.hid hk
  have hn3 : n ≤ 9223372036854775807 := by omega
  have hk3 : k ≤ 9223372036854775807 := by omega
  clear hl hm hA hB hn hk
  go_enter Try.func3, Try.ntmps3
  go_wp2_with fail
  go_loopw [5, 7] (fun v i wr => ∃ j : Nat, j ≤ n ∧ i = .int .i64 j ∧ Hid (OwnC wr w.heap.size 24 v (l.take j)) ∧ Below w.heap.size w wr) (fun _ i _ => n - (intOf i).toNat)
  case atStart => exact ⟨0, Nat.zero_le _, rfl, Lib.hid (OwnC.nil _ _ _), Below.refl _ _⟩
  case round =>
    obtain ⟨j, hj, rfl, hown, hb⟩ := hrel
    by_cases hlt : j < n
    · have hjl : j < l.length := by have := HN.out; omega
      obtain ⟨ad, rfl, hcl⟩ := HL.out (by omega)
      obtain ⟨hc1, hc2⟩ := hcl j hjl
      have hblk := HA.out (by omega) ad rfl
      have hd1 := (hb.cell (p := ad.add (j * 2)) (by rw [block_of_add']; exact hblk)).trans hc1
      have hd2 : wr.cell? ⟨(ad.add (j * 2)).block, (ad.add (j * 2)).off + 1, none⟩ = _ := (hb.cell (p := (ad.add (j * 2)).add 1) (by rw [block_of_add', block_of_add']; exact hblk)).trans hc2
      have htk : l.take (j + 1) = l.take j ++ [l[j]] := List.take_succ_eq_append_getElem hjl
      have HL18 : Hid (((l.take j).length + 1) * 16 ≤ 140737488355328) := Lib.hid (by rw [List.length_take]; omega)
      have HTK := Lib.hid htk
      clear hcl hc1 hc2 htk
      generalize l[j] = s0 at *
      obtain ⟨x0, y0⟩ := s0
      clear hjl
      have HNEW : Hid (((wr.alloc (.cells #[.complex .f64 x0 y0] 24)).drew).cell? ⟨wr.heap.size, 0, none⟩ = some (.complex .f64 x0 y0)) := Lib.hid (show (wr.alloc (.cells #[.complex .f64 x0 y0] 24)).cell? ⟨wr.heap.size, 0, none⟩ = _ from (World.cell?_alloc_at _ _ _ _ rfl).trans rfl)
      have HOWN : Hid (OwnC ((wr.alloc (.cells #[.complex .f64 x0 y0] 24)).drew) w.heap.size 24 u5 (l.take j)) := Lib.hid (World.ownsRow.alloc hown.out _)
      have HSZ : Hid (w.heap.size ≤ ((wr.alloc (.cells #[.complex .f64 x0 y0] 24)).drew).heap.size) := Lib.hid (Nat.le_trans hb.size (by show wr.heap.size ≤ (wr.alloc _).heap.size; simp))
      have HBW : Hid (Below w.heap.size w ((wr.alloc (.cells #[.complex .f64 x0 y0] 24)).drew)) := Lib.hid ((hb.alloc hb.size _).drew)
      have HLT := Lib.hid hlt
      clear hlt
      go_wp2_with fail
      go_region_law (first
        | (go_loud (refine step_appC1 ((wr.alloc (.cells #[.complex .f64 x0 y0] 24)).drew) rfl (.tmp 21) (.tmp 33) _ rfl w.heap.size 24 i0 Try.underlying23 hi0 hz0 hj1 hj2 _ (l.take j) x0 y0 ⟨wr.heap.size, 0, none⟩ (by simp [Act.eval, Act.put]) (by simp [Act.eval, Act.put]) HNEW.out HOWN.out HL18.out HSZ.out ?_); intro v5 w5 hown5 hb5)
        | (go_simp; go_at_call 4; refine (of_c _ _ _).mono ?_; rintro e w' ⟨rfl, rfl⟩))
      all_goals
        rw [← HTK.out] at hown5
        have HO5 := Lib.hid hown5
        have hbf := HBW.out.trans hb5
        clear hown5 hb5 HNEW HOWN HSZ HBW
        go_wp2_with fail
        go_roundw
        case rel => exact ⟨j + 1, by have := HLT.out; omega, by go_num, HO5, hbf⟩
        case measure =>
          have := HLT.out
          simp [intOf]; omega
    · obtain rfl : n = j := by omega
      have hown1 := hown.out
      rw [List.take_of_length_le (by have := HN.out; omega)] at hown1
      obtain ⟨w1, rfl⟩ : ∃ x, x = wr := ⟨_, rfl⟩
      have HO1 := Lib.hid hown1
      clear hown hown1 hlt hj
      go_wp2_with fail
      go_loopw [6, 8] (fun v i wr2 => ∃ q : Nat, q ≤ k ∧ i = .int .i64 q ∧ Hid (OwnC wr2 w1.heap.size 24 v (m.take q)) ∧ Below w1.heap.size w1 wr2) (fun _ i _ => k - (intOf i).toNat)
      case atStart => exact ⟨0, Nat.zero_le _, rfl, Lib.hid (OwnC.nil _ _ _), Below.refl _ _⟩
      case round =>
        obtain ⟨j, hj, rfl, hown, hb2⟩ := hrel
        by_cases hlt : j < k
        · have hbW := below_chain hb hb2
          have hjl : j < m.length := by have := HK.out; omega
          obtain ⟨ad, rfl, hcl⟩ := HM.out (by omega)
          obtain ⟨hc1, hc2⟩ := hcl j hjl
          have hblk := HB.out (by omega) ad rfl
          have hd1 := (hbW.cell (p := ad.add (j * 2)) (by rw [block_of_add']; exact hblk)).trans hc1
          have hd2 : wr.cell? ⟨(ad.add (j * 2)).block, (ad.add (j * 2)).off + 1, none⟩ = _ := (hbW.cell (p := (ad.add (j * 2)).add 1) (by rw [block_of_add', block_of_add']; exact hblk)).trans hc2
          have htk : m.take (j + 1) = m.take j ++ [m[j]] := List.take_succ_eq_append_getElem hjl
          have HL18 : Hid (((m.take j).length + 1) * 16 ≤ 140737488355328) := Lib.hid (by rw [List.length_take]; omega)
          have HTK := Lib.hid htk
          clear hcl hc1 hc2 htk hbW
          generalize m[j] = s0 at *
          obtain ⟨x0, y0⟩ := s0
          clear hjl
          have HNEW : Hid (((wr.alloc (.cells #[.complex .f64 x0 y0] 24)).drew).cell? ⟨wr.heap.size, 0, none⟩ = some (.complex .f64 x0 y0)) := Lib.hid (show (wr.alloc (.cells #[.complex .f64 x0 y0] 24)).cell? ⟨wr.heap.size, 0, none⟩ = _ from (World.cell?_alloc_at _ _ _ _ rfl).trans rfl)
          have HOWN : Hid (OwnC ((wr.alloc (.cells #[.complex .f64 x0 y0] 24)).drew) w1.heap.size 24 u6 (m.take j)) := Lib.hid (World.ownsRow.alloc hown.out _)
          have HSZ : Hid (w1.heap.size ≤ ((wr.alloc (.cells #[.complex .f64 x0 y0] 24)).drew).heap.size) := Lib.hid (Nat.le_trans hb2.size (by show wr.heap.size ≤ (wr.alloc _).heap.size; simp))
          have HBW : Hid (Below w1.heap.size w1 ((wr.alloc (.cells #[.complex .f64 x0 y0] 24)).drew)) := Lib.hid ((hb2.alloc hb2.size _).drew)
          have HLT := Lib.hid hlt
          clear hlt
          go_wp2_with fail
          go_region_law (first
            | (go_loud (refine step_appC1 ((wr.alloc (.cells #[.complex .f64 x0 y0] 24)).drew) rfl (.tmp 41) (.tmp 53) _ rfl w1.heap.size 24 i0 Try.underlying23 hi0 hz0 hj1 hj2 _ (m.take j) x0 y0 ⟨wr.heap.size, 0, none⟩ (by simp [Act.eval, Act.put]) (by simp [Act.eval, Act.put]) HNEW.out HOWN.out HL18.out HSZ.out ?_); intro v5 w5 hown5 hb5)
            | (go_simp; go_at_call 4; refine (of_c _ _ _).mono ?_; rintro e w' ⟨rfl, rfl⟩))
          all_goals
            rw [← HTK.out] at hown5
            have HO5 := Lib.hid hown5
            have hbf := HBW.out.trans hb5
            clear hown5 hb5 HNEW HOWN HSZ HBW
            go_wp2_with fail
            go_roundw
            case rel => exact ⟨j + 1, by have := HLT.out; omega, by go_num, HO5, hbf⟩
            case measure =>
              have := HLT.out
              simp [intOf]; omega
        · obtain rfl : k = j := by omega
          have hown2 := hown.out
          rw [List.take_of_length_le (by have := HK.out; omega)] at hown2
          obtain ⟨w2, rfl⟩ : ∃ x, x = wr := ⟨_, rfl⟩
          have HA2 := Lib.hid (HO1.out.whole hb2)
          have HO2 := Lib.hid hown2
          have hsep := fun g (e : u5.ownBlock = some g) => (HO1.out.lt g e).2
          have HSEP := Lib.hid hsep
          have hbW := below_chain hb hb2
          clear hown hown2 hlt hj HO1 hsep
          have HLa : Hid ((l.length + 1) * 16 ≤ 140737488355328) := Lib.hid (by have := HN.out; omega)
          have HLb : Hid ((m.length + 1) * 16 ≤ 140737488355328) := Lib.hid (by have := HK.out; omega)
          go_wp2_with (at_builtin; first
            | (refine wpList_appC2 w2 rfl (.tmp 55) (.tmp 56) _ rfl w.heap.size 24 _ i0 Try.underlying23 hi0 hz0 hj1 hj2 _ l 4635118810238550016 0 rfl rfl HA2.out HLa.out hbW.size ?_
               intro va w3 ho3 hb3 hk3 hd3 hs3
               have HO3 := Lib.hid ho3
               have HK3 := Lib.hid hk3
               have HD3 := Lib.hid hd3
               have hob := HO2.out.kept hs3 (fun g e => hk3 g (HO2.out.lt g e).2 (fun e5 => by have := HSEP.out g e5; have := (HO2.out.lt g e).1; omega))
               have HB3 := Lib.hid hob
               clear ho3 hk3 hd3 hob)
            | (refine wpList_appC2 w3 rfl (.tmp 58) (.tmp 59) _ rfl w1.heap.size 24 _ i0 Try.underlying23 hi0 hz0 hj1 hj2 _ m 4635189178982727680 0 rfl rfl HB3.out HLb.out (Nat.le_trans hb2.size hs3) ?_
               intro vb w4 ho4 hb4 hk4 hd4 hs4
               have hoa := HO3.out.kept hs4 (fun g e => hk4 g (HO3.out.lt g e).2 (fun e6 => by
                 have h1 := (HO2.out.lt g e6)
                 rcases HD3.out with h | h
                 · rw [h] at e
                   have := HSEP.out g e; omega
                 · have := h g e; omega))
               obtain ⟨gb, cb, rfl, hcb, hcb2, hgb, hgb2, hcellb, hlastb⟩ := ho4.full
               obtain ⟨ga, ca, rfl, hca, hca2, hga, hga2, hcella, hlasta⟩ := hoa.full
               have HCA := Lib.hid hcella
               have HCB := Lib.hid hcellb
               clear ho4 hk4 hd4 hoa hcella hcellb))
          have hbT := (hbW.trans hb3).trans (hb4.mono hb.size)
          have en := HN.out
          have ek := HK.out
          simp only [← en, ← ek] at hca hcb hlasta hlastb ⊢
          have hCA : ∀ wx, Below w4.heap.size w4 wx → ∀ (j : Nat) (h : j < l.length), wx.cell? ((⟨ga, 0, none⟩ : Addr).add j) = some (.complex .f64 l[j].1 l[j].2) := fun wx hx j h => by
            rw [add_plain0]; exact (hx.cell (p := ⟨ga, j, none⟩) hga2).trans (HCA.out j h)
          have hCB : ∀ wx, Below w4.heap.size w4 wx → ∀ (j : Nat) (h : j < m.length), wx.cell? ((⟨gb, 0, none⟩ : Addr).add j) = some (.complex .f64 m[j].1 m[j].2) := fun wx hx j h => by
            rw [add_plain0]; exact (hx.cell (p := ⟨gb, j, none⟩) hgb2).trans (HCB.out j h)
          have KSa := Lib.hid (fun wx hx => Sum_c l ⟨ga, 0, none⟩ ca wx (by unfold maxLen; omega) (hCA wx hx))
          have KSr := Lib.hid (fun wx hx => rSum_c l ⟨ga, 0, none⟩ ca wx (by unfold maxLen; omega) (hCA wx hx))
          have KDa := Lib.hid (fun (he : m.length = l.length) wx hx => Dot_c l m ⟨ga, 0, none⟩ ⟨gb, 0, none⟩ ca cb wx (by unfold maxLen; omega) he (hCA wx hx) (hCB wx hx))
          have KDr := Lib.hid (fun (he : m.length = l.length) wx hx => rDot_c l m ⟨ga, 0, none⟩ ⟨gb, 0, none⟩ ca cb wx (by unfold maxLen; omega) he (hCA wx hx) (hCB wx hx))
          have KN := Lib.hid (fun (hne : n ≠ k) wx => Dot_no n k (some ⟨ga, 0, none⟩) (some ⟨gb, 0, none⟩) ca cb wx hne)
          simp only [← en] at KSa KSr KDa KDr
          have HSS := fun x y => same_of (like_refl x) (like_refl y)
          have HT := Lib.hid hbT
          have HLA := Lib.hid hlasta
          have HLB := Lib.hid hlastb
          clear en ek hCA hCB hbT hlasta hlastb HK3 HD3 HO3 HB3 HSEP HO2 HA2 hs3 hs4 hb3 hb4 hb2 hbW
          go_quiet (fail)
          have hq : Below w4.heap.size w4 (w4.drewN nq) := below_drewN (Below.refl _ _) nq
          generalize w4.drewN nq = wq at *
          by_cases hnk : n = k
          · have KD1 := KDa.out (HK.out.symm.trans hnk.symm)
            have KD2 := KDr.out (HK.out.symm.trans hnk.symm)
            rw [show (Value.slice (some (⟨gb, 0, none⟩ : Addr)) n cb) = .slice (some ⟨gb, 0, none⟩) k cb from by rw [hnk]] at KD1 KD2
            have KE1 := Lib.hid KD1
            have KE2 := Lib.hid KD2
            have hbe : ((n : Int) != (k : Int)) = false := by simp [hnk]
            clear KDa KDr KN KD1 KD2 hnk
            go_wp2_with (first
              | (go_at_call 6; refine (KSa.out _ hq).mono ?_; rintro e w' ⟨a1, b1, n1, rfl, h1, h2, rfl⟩)
              | (go_at_call 7; refine (KSr.out _ (below_drewN hq _)).mono ?_; rintro e w' ⟨a2, b2, n2, rfl, h3, h4, rfl⟩; have hs := same_two h1 h2 h3 h4; clear h1 h2 h3 h4)
              | (go_at_call 5; refine (like5_c _ _ _ _ _).mono ?_; rintro e w' ⟨rfl, rfl⟩)
              | (go_at_call 8; refine (KE1.out _ (by first | exact below_drewN hq _ | exact below_drewN (below_drewN hq _) _)).mono ?_; rintro e w' ⟨a3, b3, n3, rfl, h5, h6, rfl⟩)
              | (go_at_call 9; refine (KE2.out _ (by first | exact below_drewN hq _ | exact below_drewN (below_drewN hq _) _ | exact below_drewN (below_drewN (below_drewN hq _) _) _)).mono ?_; rintro e w' ⟨a4, b4, n4, rfl, h7, h8, rfl⟩; have hs2 := same_two h5 h6 h7 h8; clear h5 h6 h7 h8))
            have hz : Below w4.heap.size w4 (wq.drewN (n1 + n2 + n3 + n4)) := below_drewN hq _
            generalize wq.drewN (n1 + n2 + n3 + n4) = wz at *
            clear KSa KSr KE1 KE2 hq hs hs2 hbe
            go_loopw [13] (fun i wr => ∃ j : Nat, j ≤ n ∧ i = .int .i64 j ∧ Below w4.heap.size w4 wr) (fun i _ => n - (intOf i).toNat)
            case atStart => exact ⟨0, Nat.zero_le _, rfl, hz⟩
            case round =>
              obtain ⟨j, hj, rfl, hb6⟩ := hrel
              by_cases hlt : j < n
              · have hbW := below_chain HT.out hb6
                have hjl : j < l.length := by have := HN.out; omega
                obtain ⟨ad, rfl, hcl⟩ := HL.out (by omega)
                obtain ⟨hc1, hc2⟩ := hcl j hjl
                have hblk := HA.out (by omega) ad rfl
                have hd1 := (hbW.cell (p := ad.add (j * 2)) (by rw [block_of_add']; exact hblk)).trans hc1
                have hd2 : wr.cell? ⟨(ad.add (j * 2)).block, (ad.add (j * 2)).off + 1, none⟩ = _ := (hbW.cell (p := (ad.add (j * 2)).add 1) (by rw [block_of_add', block_of_add']; exact hblk)).trans hc2
                have hd3 := (hb6.cell (p := ⟨ga, j, none⟩) hga2).trans (HCA.out j hjl)
                have hja : j < n + 1 := by omega
                clear hcl hc1 hc2 hbW
                generalize l[j] = s0 at *
                obtain ⟨x0, y0⟩ := s0
                have hss := HSS x0 y0
                clear hjl
                go_wp2_with fail
                go_quiet ((first
                  | (go_at_call 4; exact Calls.quiet_of_same ((of_c _ _ _).mono fun _ _ h => ⟨h.1, h.2.symm⟩))
                  | (go_at_call 5; exact Calls.quiet_of_same ((like5_c _ _ _ _ _).mono fun _ _ h => ⟨h.1, h.2.symm⟩))))
                go_wp2_with fail
                go_roundw
                case rel => exact ⟨j + 1, by omega, by go_num, below_drewN hb6 _⟩
                case measure => simp [intOf]; omega
              · obtain rfl : n = j := by omega
                obtain ⟨w5, rfl⟩ : ∃ x, x = wr := ⟨_, rfl⟩
                clear hlt hj hz
                go_wp2_with fail
                go_loopw [14] (fun i wr => ∃ j : Nat, j ≤ k ∧ i = .int .i64 j ∧ Below w4.heap.size w4 wr) (fun i _ => k - (intOf i).toNat)
                case atStart => exact ⟨0, Nat.zero_le _, rfl, hb6⟩
                case round =>
                  obtain ⟨j, hj, rfl, hb7⟩ := hrel
                  by_cases hlt : j < k
                  · have hbW := below_chain HT.out hb7
                    have hjl : j < m.length := by have := HK.out; omega
                    obtain ⟨ad, rfl, hcl⟩ := HM.out (by omega)
                    obtain ⟨hc1, hc2⟩ := hcl j hjl
                    have hblk := HB.out (by omega) ad rfl
                    have hd1 := (hbW.cell (p := ad.add (j * 2)) (by rw [block_of_add']; exact hblk)).trans hc1
                    have hd2 : wr.cell? ⟨(ad.add (j * 2)).block, (ad.add (j * 2)).off + 1, none⟩ = _ := (hbW.cell (p := (ad.add (j * 2)).add 1) (by rw [block_of_add', block_of_add']; exact hblk)).trans hc2
                    have hd3 := (hb7.cell (p := ⟨gb, j, none⟩) hgb2).trans (HCB.out j hjl)
                    have hja : j < k + 1 := by omega
                    clear hcl hc1 hc2 hbW
                    generalize m[j] = s0 at *
                    obtain ⟨x0, y0⟩ := s0
                    have hss := HSS x0 y0
                    clear hjl
                    go_wp2_with fail
                    go_quiet ((first
                      | (go_at_call 4; exact Calls.quiet_of_same ((of_c _ _ _).mono fun _ _ h => ⟨h.1, h.2.symm⟩))
                      | (go_at_call 5; exact Calls.quiet_of_same ((like5_c _ _ _ _ _).mono fun _ _ h => ⟨h.1, h.2.symm⟩))))
                    go_wp2_with fail
                    go_roundw
                    case rel => exact ⟨j + 1, by omega, by go_num, below_drewN hb7 _⟩
                    case measure => simp [intOf]; omega
                  · obtain rfl : k = j := by omega
                    obtain ⟨w6, rfl⟩ : ∃ x, x = wr := ⟨_, rfl⟩
                    have hla := (hb7.cell (p := ⟨ga, n, none⟩) hga2).trans HLA.out
                    have hlb := (hb7.cell (p := ⟨gb, k, none⟩) hgb2).trans HLB.out
                    clear hlt hj
                    go_wp2_with (go_at_call 10; refine (awake_c _).mono ?_; rintro e w' ⟨rfl, hb8⟩)
                    all_goals go_ret
                    all_goals exact ⟨rfl, below_last (below_last HT.out hb7) hb8⟩
          · have KE1 := Lib.hid (KN.out hnk)
            have hbe : ((n : Int) != (k : Int)) = true := by rw [bne_iff_ne]; omega
            have hs2 := HSS 0 0
            clear KDa KDr KN hnk
            go_wp2_with (first
              | (go_at_call 6; refine (KSa.out _ hq).mono ?_; rintro e w' ⟨a1, b1, n1, rfl, h1, h2, rfl⟩)
              | (go_at_call 7; refine (KSr.out _ (below_drewN hq _)).mono ?_; rintro e w' ⟨a2, b2, n2, rfl, h3, h4, rfl⟩; have hs := same_two h1 h2 h3 h4; clear h1 h2 h3 h4)
              | (go_at_call 5; refine (like5_c _ _ _ _ _).mono ?_; rintro e w' ⟨rfl, rfl⟩)
              | (go_at_call 8; refine (KE1.out _).mono ?_; rintro e w' ⟨rfl, rfl⟩))
            have hz : Below w4.heap.size w4 (wq.drewN (n1 + n2)) := below_drewN hq _
            generalize wq.drewN (n1 + n2) = wz at *
            clear KSa KSr KE1 hq hs hs2 hbe
            go_loopw [13] (fun i wr => ∃ j : Nat, j ≤ n ∧ i = .int .i64 j ∧ Below w4.heap.size w4 wr) (fun i _ => n - (intOf i).toNat)
            case atStart => exact ⟨0, Nat.zero_le _, rfl, hz⟩
            case round =>
              obtain ⟨j, hj, rfl, hb6⟩ := hrel
              by_cases hlt : j < n
              · have hbW := below_chain HT.out hb6
                have hjl : j < l.length := by have := HN.out; omega
                obtain ⟨ad, rfl, hcl⟩ := HL.out (by omega)
                obtain ⟨hc1, hc2⟩ := hcl j hjl
                have hblk := HA.out (by omega) ad rfl
                have hd1 := (hbW.cell (p := ad.add (j * 2)) (by rw [block_of_add']; exact hblk)).trans hc1
                have hd2 : wr.cell? ⟨(ad.add (j * 2)).block, (ad.add (j * 2)).off + 1, none⟩ = _ := (hbW.cell (p := (ad.add (j * 2)).add 1) (by rw [block_of_add', block_of_add']; exact hblk)).trans hc2
                have hd3 := (hb6.cell (p := ⟨ga, j, none⟩) hga2).trans (HCA.out j hjl)
                have hja : j < n + 1 := by omega
                clear hcl hc1 hc2 hbW
                generalize l[j] = s0 at *
                obtain ⟨x0, y0⟩ := s0
                have hss := HSS x0 y0
                clear hjl
                go_wp2_with fail
                go_quiet ((first
                  | (go_at_call 4; exact Calls.quiet_of_same ((of_c _ _ _).mono fun _ _ h => ⟨h.1, h.2.symm⟩))
                  | (go_at_call 5; exact Calls.quiet_of_same ((like5_c _ _ _ _ _).mono fun _ _ h => ⟨h.1, h.2.symm⟩))))
                go_wp2_with fail
                go_roundw
                case rel => exact ⟨j + 1, by omega, by go_num, below_drewN hb6 _⟩
                case measure => simp [intOf]; omega
              · obtain rfl : n = j := by omega
                obtain ⟨w5, rfl⟩ : ∃ x, x = wr := ⟨_, rfl⟩
                clear hlt hj hz
                go_wp2_with fail
                go_loopw [14] (fun i wr => ∃ j : Nat, j ≤ k ∧ i = .int .i64 j ∧ Below w4.heap.size w4 wr) (fun i _ => k - (intOf i).toNat)
                case atStart => exact ⟨0, Nat.zero_le _, rfl, hb6⟩
                case round =>
                  obtain ⟨j, hj, rfl, hb7⟩ := hrel
                  by_cases hlt : j < k
                  · have hbW := below_chain HT.out hb7
                    have hjl : j < m.length := by have := HK.out; omega
                    obtain ⟨ad, rfl, hcl⟩ := HM.out (by omega)
                    obtain ⟨hc1, hc2⟩ := hcl j hjl
                    have hblk := HB.out (by omega) ad rfl
                    have hd1 := (hbW.cell (p := ad.add (j * 2)) (by rw [block_of_add']; exact hblk)).trans hc1
                    have hd2 : wr.cell? ⟨(ad.add (j * 2)).block, (ad.add (j * 2)).off + 1, none⟩ = _ := (hbW.cell (p := (ad.add (j * 2)).add 1) (by rw [block_of_add', block_of_add']; exact hblk)).trans hc2
                    have hd3 := (hb7.cell (p := ⟨gb, j, none⟩) hgb2).trans (HCB.out j hjl)
                    have hja : j < k + 1 := by omega
                    clear hcl hc1 hc2 hbW
                    generalize m[j] = s0 at *
                    obtain ⟨x0, y0⟩ := s0
                    have hss := HSS x0 y0
                    clear hjl
                    go_wp2_with fail
                    go_quiet ((first
                      | (go_at_call 4; exact Calls.quiet_of_same ((of_c _ _ _).mono fun _ _ h => ⟨h.1, h.2.symm⟩))
                      | (go_at_call 5; exact Calls.quiet_of_same ((like5_c _ _ _ _ _).mono fun _ _ h => ⟨h.1, h.2.symm⟩))))
                    go_wp2_with fail
                    go_roundw
                    case rel => exact ⟨j + 1, by omega, by go_num, below_drewN hb7 _⟩
                    case measure => simp [intOf]; omega
                  · obtain rfl : k = j := by omega
                    obtain ⟨w6, rfl⟩ : ∃ x, x = wr := ⟨_, rfl⟩
                    have hla := (hb7.cell (p := ⟨ga, n, none⟩) hga2).trans HLA.out
                    have hlb := (hb7.cell (p := ⟨gb, k, none⟩) hgb2).trans HLB.out
                    clear hlt hj
                    go_wp2_with (go_at_call 10; refine (awake_c _).mono ?_; rintro e w' ⟨rfl, hb8⟩)
                    all_goals go_ret
                    all_goals exact ⟨rfl, below_last (below_last HT.out hb7) hb8⟩
end Go.Proofs.Ytnnefiefgpahdaa
