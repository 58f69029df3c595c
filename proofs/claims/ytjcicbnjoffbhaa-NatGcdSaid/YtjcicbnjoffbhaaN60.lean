/- Contract of package limb: Div by anything that is not nought; of package nat: Div. -/
import Derived.Test.YtjcicbnjoffbhaaN59
import Derived.Laws.AppendOwnNone
set_option linter.unusedSimpArgs false
set_option linter.unusedVariables false
namespace Go.Proofs.Ytjcicbnjoffbhaa
open Go Go.RowKit Nt

theorem run_append_none {P : Program} (w : World) (t ty e : TypeId) (i : TypeInfo) (ht : P.underlying t = some (.slice e)) (hi : P.info? e = some i) (A : Option Addr) (c : Nat) :
    (Builtin.append_ #[t, t] ty #[.slice none 0 0, .slice A 0 c]).run P w = .ok (.slice none 0 0) w := by
  cases A <;> simp [Builtin.append_, run_underlying ht, sizeOf, typeInfo, hi, Builtin.lenOf, Builtin.firstCells, loadCells, loadCellsFrom]
/-- 'append([]uint64(nil), x...)'. -/
theorem wpList_appWl {P : Program} (w0 : World) {ops : Array Oper} {rest : List Oper} {o : Oper} {a : Act} {Q : Exit → Act → World → Prop} (hgd : o.guard = none) (s x : Operand) (t : TypeId)
    (ho : o.op = .call { callee := .builtin .append, args := #[s, x], argTypes := #[t, t] })
    (e : TypeId) (i : TypeInfo) (ht : P.underlying t = some (.slice e)) (hi : P.info? e = some i) (hz : i.zero = some (.int .u64 0))
    (hsize : i.size = 1) (hby : i.bytes = 8)
    (n : Nat) (A : Option Addr) (L c B : Nat) (hs : a.eval s = .slice none 0 0) (hx : a.eval x = .slice A L c) (hr : Row w0 B A n L)
    (hn : L ≤ 1000000000)
    (h : ∀ A' c' w', L ≤ c' → c' ≤ 9223372036854775807 → Row w' w'.heap.size A' n L → Below w0.heap.size w0 w' → wpList P ops Q rest (a.put o.dst (.slice A' L c')) w') :
    wpList P ops Q (o :: rest) a w0 := by
  by_cases h0 : L = 0
  · subst h0
    refine wpList_plain hgd fun K hK => ?_
    have hrun := run_append_none (P := P) w0 t o.type e i ht hi A c
    unfold Oper.wp execOp
    simp only [ho, resolve, invoke, builtin, Sem.run_bind, Sem.run_pure, Result.andThen_ok, List.map_toArray, List.map_cons, List.map_nil, hs, hx, hrun]
    exact hK _ _ (h none 0 w0 (Nat.le_refl _) (by omega) Row.none_ (Below.refl _ _))
  · obtain ⟨g, rfl, hg, hc⟩ := hr (by omega)
    refine wpList_append_own_at w0 hgd s x t ho w0.heap.size e i (.int .u64 0) 1 8 ht hi hz hsize hby rfl (by omega) (.slice none 0 0) 0 [] hs (World.ownsRow_nil _ _ _ _) ⟨g, 0, none⟩ L c ((dl W n L).map (fun (x : Nat) => Value.int .u64 (x : Int))) hx (by rw [List.length_map, dl_length, Nat.mul_one]) ?_ ?_ (by simp [maxLen]; omega) (by omega) (Nat.le_refl _) ?_
    · intro j u hu
      have hj : j < L := by
        rcases Nat.lt_or_ge j L with h | h
        · exact h
        · rw [List.getElem?_eq_none (by rw [List.length_map, dl_length]; exact h)] at hu; cases hu
      rw [List.getElem?_map, dl_get? _ _ _ _ hj] at hu
      rw [add_plain0, hc j hj]; exact hu
    · intro u hu
      obtain ⟨y, _, rfl⟩ := List.mem_map.1 hu
      rfl
    · intro v' w' hown hgw _ _
      rw [Nat.zero_add, List.nil_append] at hown
      obtain ⟨_, hform⟩ := hown
      rcases hform with ⟨_, h2⟩ | ⟨g', cap, cur, rfl, hB, hh, h3, h4, h5, h6⟩
      · exact absurd h2 h0
      · refine h _ _ _ h3 (by simpa [maxLen] using h4) (fun _ => ⟨g', rfl, Blk.lt (cs := cur) (t := e) hh, fun j hj => ?_⟩) (Below.grown (Below.refl _ _) hgw (Nat.le_refl _) (fun g e => by simp [Value.ownBlock] at e))
        rw [Blk.cell (cs := cur) (t := e) hh j]
        have ee := congrArg (fun x => x[j]?) h6
        simp only [Nat.mul_one] at ee
        rw [List.getElem?_take, if_pos hj, List.getElem?_map, dl_get? _ _ _ _ hj] at ee
        rw [← Array.getElem?_toList]; exact ee
set_option maxRecDepth 100000 in
set_option maxHeartbeats 1000000 in
theorem Div_less (A A' : Option Addr) (c c' a b : Nat) (w : World) (hab : a < b) (hL : nd W a ≤ 100000000) (hL' : nd W b ≤ 100000000) (hr : Row w w.heap.size A a (nd W a)) (hr' : Row w w.heap.size A' b (nd W b)) :
    Calls Try.prog 78 #[.slice A (nd W a) c, .slice A' (nd W b) c'] w (DivPost (a / b) (a % b) w) := by
  obtain ⟨i0, hi0, hz0, hz1, hz2⟩ := info_parts (P := Try.prog) (e := 23) (z := .int .u64 0) (size := 1) (bytes := 8) (by kernel_rfl)
  rw [Nat.div_eq_of_lt hab, Nat.mod_eq_of_lt hab]
  have hcm := Cmp_c A A' c c' a b w.heap.size w (by omega) (by omega) hr hr'
  rw [cmpN_lt hab] at hcm
  have HCM := Lib.hid hcm
  have HR := Lib.hid hr
  have hlt : a < W ^ nd W a := lt_nd W2
  obtain ⟨la, hla⟩ : ∃ la, la = nd W a := ⟨_, rfl⟩
  rw [← hla] at HCM HR hL hlt ⊢
  have HLA := Lib.hid hla
  have HLT := Lib.hid hlt
  clear hcm hr hr' hab hla hlt
  go_enter Try.func78, Try.ntmps78
  go_wp2
  go_step3
  go_wp2_with fail
  refine HCM.out.mono ?_
  rintro e w1 ⟨rfl, nn, rfl⟩
  have hR1 := Lib.hid (HR.out.drewN nn)
  have hbw1 : Below w.heap.size w (w.drewN nn) := below_drewN (Below.refl _ _) nn
  generalize w.drewN nn = w1 at *
  go_wp2_with (at_builtin; go_loud (refine wpList_appWl w1 rfl (.const (.slice none 0 0)) (.tmp 19) _ rfl 23 i0 Try.underlying86 hi0 hz0 hz1 hz2 a A la c w.heap.size rfl rfl hR1.out (by omega) ?_); intro A2 c2 w2 hc2 hc22 hr2 hb2; have HR2 := Lib.hid hr2; clear hr2)
  refine (Cut_c A2 la c2 a w2.heap.size w2 HLT.out hc2 hc22 HR2.out).mono ?_
  rintro e w3 ⟨rfl, rfl⟩
  go_wp2_with fail
  rw [Exit.noGoto_ret]
  go_ret2
  have e0 : nd W 0 = 0 := nd_zero _
  refine ⟨none, 0, A2, c2, ?_, by rw [e0]; exact Nat.le_refl _, by rw [← HLA.out]; exact hc2, by rw [e0]; exact Row.none_, by rw [← HLA.out]; exact HR2.out, below_chain hbw1 hb2⟩
  rw [e0]; rfl
theorem Div_all (A A' : Option Addr) (c c' a b : Nat) (w : World) (hb : b ≠ 0) (hL : nd W a ≤ 100000000) (hL' : nd W b ≤ 100000000) (hr : Row w w.heap.size A a (nd W a)) (hr' : Row w w.heap.size A' b (nd W b)) :
    Calls Try.prog 78 #[.slice A (nd W a) c, .slice A' (nd W b) c'] w (DivPost (a / b) (a % b) w) := by
  by_cases hab : a < b
  · exact Div_less A A' c c' a b w hab hL hL' hr hr'
  · have hle : b ≤ a := by omega
    have hn0 : nd W b ≠ 0 := fun e => hb ((nd_eq_zero W2).1 e)
    by_cases h1 : nd W b = 1
    · exact Div_one A A' c c' a b w h1 hle (by omega) hr hr'
    · obtain ⟨m, hm⟩ : ∃ m, nd W b = m + 2 := ⟨nd W b - 2, by omega⟩
      have hmn := nd_mono (b := W) W2 hle
      obtain ⟨M, hM⟩ : ∃ M, M + (m + 1) = nd W a := ⟨nd W a - (m + 1), by omega⟩
      have h := Div_big A A' c c' a b m (nd W a) M w hm hle rfl hM hL hr (by rw [← hm]; exact hr')
      rw [← hm] at h
      exact h
theorem NDiv_c (a b : Nat) (w : World) (ha : fits a) (hb : fits b) (hb0 : b ≠ 0) :
    Calls Try.prog 43 #[.string (natS a), .string (natS b)] w (Str2Post (natS (a / b)) (natS (a % b)) 0 w) :=
  NDiv_of a b w ha hb hb0 (fun A A' c c' w hr hr' => Div_all A A' c c' a b w hb0 (by have := fits_words ha; omega) (by have := fits_words hb; omega) hr hr')
end Go.Proofs.Ytjcicbnjoffbhaa
