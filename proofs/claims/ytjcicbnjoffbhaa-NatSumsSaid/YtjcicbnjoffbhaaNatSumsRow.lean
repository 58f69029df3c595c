/- The row of NatSums: for every input the law returns true; each argument reads behind the call as it read before. -/
import Derived.Test.YtjcicbnjoffbhaaNP
import Derived.Test.YtjcicbnjoffbhaaN53
import Derived.SizedLaws
import Derived.SliceStrings
import Derived.Carry
set_option linter.unusedVariables false
namespace Go.Proofs.Ytjcicbnjoffbhaa
open Go.ChangeShapes Go.WideShapes Go.ChangeAt Go.RowKit Go.Joins Go.ChangeMaps

theorem laidOutN : laidOutB Try.prog = true := by kernel_rfl
theorem cellsNat : Try.prog.cellsOf 22 = 1 := by kernel_rfl
theorem bytesNat : Try.prog.bytesOf 22 = 16 := by kernel_rfl
set_option maxRecDepth 100000 in
theorem natSums_lifted (os : Os) (started : os.Started) (H : Type) (enc : TypeId × Value → H) :
    ReturnsInHanded {} Try.checked os 5 .any (Rows.natSumsSpec.pre6 enc Try.prog Try.f5 Rows.natSumsRow.domain false) (Rows.natSumsSpec.post enc Try.prog Try.f5 false true false false) := by
  refine returnsInHanded_of_change_sized (C := Try.checked) ownN started (by kernel_rfl) Try.func5
    (ChangeSpec.witness6 (enc := enc) (C := Try.checked) false ⟨#[], #[.string ⟨#[]⟩, .string ⟨#[]⟩, .slice none 0 0], []⟩ 8 (by kernel_rfl) (by kernel_rfl) (by kernel_rfl) (by kernel_rfl)) ?_
  intro W base args ds gs before hval0 hW hcnd hsz0 _
  have hsz : (DataW.weightsEach Try.prog (Try.f5.params.toList ++ Rows.natSumsSpec.plain.varTypes Try.prog) (ds ++ gs)).all (· ≤ reachBytes) = true := hsz0
  have hval : ∀ (j : Nat) t v, Try.f5.params[j]? = some t → args[j]? = some v → Value.okWide Try.prog W .any base t v := hval0
  have hW' := hW
  obtain ⟨p, q, hA0, hV, rfl, hfz, hnd⟩ := hW
  have hA : DataW.TrodAll enc Try.prog W 0 (fun _ => true) true Try.f5.params.toList args.toList ds p := hA0
  rw [Try.params5] at hA hval hsz
  obtain ⟨v0, vs0, d0, ds0, p0, q0, hargs, rfl, rfl, h0, r0⟩ := trodAll_cons hA
  obtain ⟨v1, vs1, d1, ds1, p1, q1, e1, rfl, rfl, h1, r1⟩ := trodAll_cons r0
  obtain ⟨v2, vs2, d2, ds2, p2, q2, e2, rfl, rfl, h2, r2⟩ := trodAll_cons r1
  obtain ⟨e3, rfl, rfl⟩ := trodAll_nil r2
  obtain rfl : args = #[v0, v1, v2] := by cases args; simp_all
  obtain ⟨rfl, rfl⟩ := trodVars_none hV
  obtain ⟨s0, rfl, rfl, rfl, ws0⟩ := open_string Try.underlying22 (hval 0 22 v0 rfl rfl) h0
  obtain ⟨s1, rfl, rfl, rfl, ws1⟩ := open_string Try.underlying22 (hval 1 22 v1 rfl rfl) h1
  obtain ⟨a2, len, cap, rfl⟩ := okWide_slice Try.underlying43 (hval 2 43 v2 rfl rfl)
  clear hA0 hval0 hsz0
  simp only [List.append_nil, List.nil_append] at hW' hsz
  have h2k := h2
  have hlt : ∀ x ∈ p2, x.block < W.heap.size := fun x hx => by simpa using hW'.lt x (by simpa using hx)
  have fin : ∀ W', Below W.heap.size W W' → Rows.natSumsSpec.post enc Try.prog Try.f5 false true false false W #[.string s0, .string s1, .slice a2 len cap] (.bool true) W' := fun W' hb =>
    postBelow (pa := p2) (pv := []) hW' (fun _ _ _ => (trodAll_cons_mk (shut_bool Try.underlying4 _) trodAll_mk0))
      (fun sp hsp => by
        have h3 : DataW.TrodAll enc Try.prog W' 0 sp true [22, 22, 43] [Value.string s0, Value.string s1, Value.slice a2 len cap] [DataW.lit (Lit.string s0.data.toList), DataW.lit (Lit.string s1.data.toList), d2] ([] ++ ([] ++ (p2 ++ []))) :=
          trodAll_cons_mk (shut_string Try.underlying22 ws0) (trodAll_cons_mk (shut_string Try.underlying22 ws1) (trodAll_cons_mk
          (WideElems.Trod_stays laidOutN (by kernel_rfl) (of_decide_eq_true (by kernel_rfl)) h2k (fun x hx => hb.same (hlt x hx)) (fun x hx => hsp x (by simpa using hx))) trodAll_mk0))
        simp only [List.nil_append, List.append_nil] at h3
        exact h3)
      (fun _ _ => rfl) (by simp) hb (ok_one (by kernel_rfl) rfl (okWide_bool_mk Try.underlying4 _))
  obtain ⟨fuel, hf⟩ := h2
  rcases open_strings Try.underlying43 Try.underlying22 cellsNat hf with ⟨hcs, hx⟩ | ⟨a, len', cap', ss, hcs, _, hl, hm, hz, hx, hcell, hws⟩
  · simp [Value.cells] at hcs
    obtain ⟨rfl, rfl, rfl⟩ := hcs
    refine (NatSums_law s0 s1 [] none 0 0 ws0 ws1 rfl (by omega) (fun _ => ⟨rfl, rfl⟩) W (fun h => absurd h (by simp)) (fun h => absurd h (by simp)) (by simp)).mono fun e W' ⟨he, hb⟩ => ?_
    subst he
    exact ⟨_, rfl, fin W' hb⟩
  · simp [Value.cells] at hcs
    obtain ⟨rfl, rfl, rfl⟩ := hcs
    simp only [Prod.mk.injEq] at hx
    obtain ⟨rfl, rfl⟩ := hx
    simp only [if_true] at hz
    have hreach : len * 16 ≤ 140737488351232 := by
      have := sized_slice hsz (j := 2) (t := 43) (e := 22) rfl rfl Try.underlying43
      rw [bytesNat] at this
      simp only [strs, List.length_map, List.length_take, List.length_drop, reachBytes] at this
      omega
    have hlen : len = (ss.take len).length := by rw [List.length_take]; omega
    by_cases hc0 : cap = 0
    · have hl0 : len = 0 := by omega
      subst hl0
      refine (NatSums_law s0 s1 [] (some a) cap 0 ws0 ws1 rfl (by omega) (fun e => by cases e) W (fun h => absurd h (by simp)) (fun h => absurd h (by simp)) (by simp)).mono fun e W' ⟨he, hb⟩ => ?_
      subst he
      exact ⟨_, rfl, fin W' hb⟩
    · have hbW : a.block < W.heap.size := by
        have hc := hcell 0 (by omega)
        rw [show a.add 0 = a by unfold Addr.add; rw [if_pos rfl]] at hc
        exact World.block_lt_of_cell? W a hc
      refine (NatSums_law s0 s1 (ss.take len) (some a) cap len ws0 ws1 hlen (by omega) (fun e => by cases e) W (fun _ => ⟨a, rfl, fun j hj => ?_⟩) (fun _ ad e => by cases e; exact hbW) (fun s hs => hws s (List.mem_of_mem_take hs))).mono fun e W' ⟨he, hb⟩ => ?_
      · have hj2 : j < ss.length := by rw [List.length_take] at hj; omega
        have hg : ss.getD j ByteArray.empty = ss[j] := by simp [List.getD, List.getElem?_eq_getElem hj2]
        rw [hcell j hj2, hg, List.getElem_take]
      · subst he
        exact ⟨_, rfl, fin W' hb⟩

theorem natSums_proved : Rows.NatSumsSaid :=
  OpenClaim.holds_of_wide 5 Try.f5 rfl rfl rfl rfl rfl rfl rfl ⟨rfl, rfl, rfl, rfl, rfl⟩ rfl rfl rfl rfl rfl (by kernel_rfl) Try.func5 (by kernel_rfl)
    (of_decide_eq_true (by kernel_rfl)) (by unfold Func.isWrapper; first | (rw [if_pos (by decide +kernel)]; kernel_rfl) | (rw [if_neg (by decide +kernel)]; exact ⟨rfl, rfl⟩))
    (fun os started H enc _ => natSums_lifted os started H enc)
end Go.Proofs.Ytjcicbnjoffbhaa
