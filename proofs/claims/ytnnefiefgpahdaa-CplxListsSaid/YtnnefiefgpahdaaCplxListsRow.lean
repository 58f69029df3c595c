/- The row of CplxLists: for every input the law returns true; each argument reads behind the call as it read before. -/
import Derived.Test.YtnnefiefgpahdaaRows
import Derived.Test.YtnnefiefgpahdaaPost
import Derived.Test.YtnnefiefgpahdaaC14
import Derived.ProofKit
import Derived.Lib.SmallJoins
import Derived.SizedLaws
import Derived.Carry
import Derived.Deep.Slices
import Derived.ChangeSame
set_option linter.unusedVariables false
namespace Go.Proofs.Ytnnefiefgpahdaa
open Go.ChangeShapes Go.WideShapes Go.ChangeAt Go.RowKit Go.Joins Go.ChangeMaps

theorem ownL : ownKnob Try.prog.godebug = none := by kernel_rfl
theorem laidOutL : laidOutB Try.prog = true := by kernel_rfl
theorem cellsParts : Try.prog.cellsOf 28 = 2 := by kernel_rfl
theorem cellsWord : Try.prog.cellsOf 26 = 1 := by kernel_rfl
theorem bytesParts : Try.prog.bytesOf 28 = 16 := by kernel_rfl
theorem word_nat {n : Int} (h : (Lit.int .u64 n).wf = true) : ∃ k : Nat, n = k := by
  have hx : 0 ≤ n ∧ n ≤ 18446744073709551615 := by simpa [Lit.wf, IntKind.min, IntKind.max, IntKind.signed, IntKind.bits] using h
  exact ⟨n.toNat, by omega⟩
theorem add_nought (x : Addr) : x.add 0 = x := by
  unfold Addr.add
  exact if_pos rfl
/-- What holds at each place holds of a list. -/
theorem list_of {α : Type} {R : Nat → α → Prop} : ∀ n, (∀ i, i < n → ∃ x, R i x) → ∃ l : List α, l.length = n ∧ ∀ j (h : j < l.length), R j l[j]
  | 0, _ => ⟨[], rfl, fun j h => absurd h (by simp)⟩
  | n + 1, h => by
    obtain ⟨l, hl, hr⟩ := list_of n (fun i hi => h i (by omega))
    obtain ⟨x, hx⟩ := h n (by omega)
    refine ⟨l ++ [x], by simp [hl], fun j hj => ?_⟩
    rcases Nat.lt_or_ge j l.length with h1 | h1
    · rw [List.getElem_append_left h1]; exact hr j h1
    · have : j = l.length := by rw [List.length_append, List.length_singleton] at hj; omega
      subst this
      rw [List.getElem_append_right (Nat.le_refl _)]
      simpa [hl] using hx
section
variable {H : Type} {enc : TypeId × Value → H}
theorem open_list {W : World} {a2 : Option Addr} {len cap : Nat} {d : DataW H} {p : List MemPlace} {spare : Nat → Bool} {held : Bool}
    (h : DataW.Trod enc Try.prog W 0 spare held 22 (.slice a2 len cap) d p) :
    ∃ l : List (Nat × Nat), len = l.length ∧ Pts W a2 l ∧ (0 < l.length → ∀ ad, a2 = some ad → ad.block < W.heap.size) ∧ (len = 0 ∨ ∃ D E, d = .slice D E ∧ D.length = len) := by
  obtain ⟨fuel, hf⟩ := h
  rcases Go.Deep.open_slice Try.underlying22 hf with ⟨hcs, hx⟩ | ⟨a, len', cap', m, n, D, Pl, hcs, _, hl, hm, hmm, hx, hi⟩
  · simp [Value.cells] at hcs
    obtain ⟨rfl, rfl, rfl⟩ := hcs
    exact ⟨[], rfl, fun h => absurd h (by simp), fun h => absurd h (by simp), Or.inl rfl⟩
  · simp [Value.cells] at hcs
    obtain ⟨rfl, rfl, rfl⟩ := hcs
    have hle : len ≤ m := by rw [hmm]; split <;> omega
    obtain ⟨l, hll, hr⟩ := list_of (R := fun i (x : Nat × Nat) => W.cell? (a.add (i * 2)) = some (.int .u64 x.1) ∧ W.cell? ((a.add (i * 2)).add 1) = some (.int .u64 x.2)) len (fun i hlt => by
      obtain ⟨cs', hc, ht⟩ := hi i (by omega)
      rw [cellsParts] at hc
      obtain ⟨_, hcl, hat⟩ := World.cells?_some hc
      obtain ⟨y0, y1, k, _, _, h0, h1⟩ := trod_struct2 Try.underlying28 ht
      rw [cellsWord] at h0 h1
      obtain ⟨u, v, rfl⟩ : ∃ u v, cs' = [u, v] := by
        match cs', hcl with
        | [u, v], _ => exact ⟨u, v, rfl⟩
      obtain ⟨x, e0, _, wx⟩ := DataW.trod_int Try.underlying26 h0
      obtain ⟨y, e1, _, wy⟩ := DataW.trod_int Try.underlying26 h1
      simp at e0 e1
      subst e0 e1
      obtain ⟨x', rfl⟩ := word_nat wx
      obtain ⟨y', rfl⟩ := word_nat wy
      have c0 := hat 0 (by omega)
      have c1 := hat 1 (by omega)
      rw [add_nought] at c0
      exact ⟨(x', y'), c0, c1⟩)
    refine ⟨l, hll.symm, fun _ => ⟨a, rfl, hr⟩, fun h ad e => ?_, Or.inr ⟨_, _, (Prod.mk.injEq .. ▸ hx).1, by simp⟩⟩
    cases e
    have := World.block_lt_of_cell? W _ (hr 0 h).1
    rwa [block_of_add'] at this
end
set_option maxRecDepth 100000 in
theorem cplxLists_lifted (os : Os) (started : os.Started) (H : Type) (enc : TypeId × Value → H) :
    ReturnsInHanded {} Try.checked os 3 .any (Rows.cplxListsSpec.pre6 enc Try.prog Try.f3 Rows.cplxListsRow.domain false) (Rows.cplxListsSpec.post enc Try.prog Try.f3 false true false false) := by
  refine returnsInHanded_of_change_sized (C := Try.checked) ownL started (by kernel_rfl) Try.func3
    (ChangeSpec.witness6 (enc := enc) (C := Try.checked) false ⟨#[], #[.slice none 0 0, .slice none 0 0], []⟩ 8 (by kernel_rfl) (by kernel_rfl) (by kernel_rfl) (by kernel_rfl)) ?_
  intro W base args ds gs before hval0 hW hcnd hsz0 _
  have hsz : (DataW.weightsEach Try.prog (Try.f3.params.toList ++ Rows.cplxListsSpec.plain.varTypes Try.prog) (ds ++ gs)).all (· ≤ reachBytes) = true := hsz0
  have hval : ∀ (j : Nat) t v, Try.f3.params[j]? = some t → args[j]? = some v → Value.okWide Try.prog W .any base t v := hval0
  have hW' := hW
  obtain ⟨p, q, hA0, hV, rfl, hfz, hnd⟩ := hW
  have hA : DataW.TrodAll enc Try.prog W 0 (fun _ => true) true Try.f3.params.toList args.toList ds p := hA0
  rw [Try.params3] at hA hval hsz
  obtain ⟨v0, vs0, d0, ds0, p0, q0, hargs, rfl, rfl, h0, r0⟩ := trodAll_cons hA
  obtain ⟨v1, vs1, d1, ds1, p1, q1, e1, rfl, rfl, h1, r1⟩ := trodAll_cons r0
  obtain ⟨e3, rfl, rfl⟩ := trodAll_nil r1
  obtain rfl : args = #[v0, v1] := by cases args; simp_all
  obtain ⟨rfl, rfl⟩ := trodVars_none hV
  obtain ⟨a0, len0, cap0, rfl⟩ := okWide_slice Try.underlying22 (hval 0 22 v0 rfl rfl)
  obtain ⟨a1, len1, cap1, rfl⟩ := okWide_slice Try.underlying22 (hval 1 22 v1 rfl rfl)
  clear hA0 hval0 hsz0
  simp only [List.append_nil] at hW' hsz
  have hlt : ∀ x ∈ p0 ++ p1, x.block < W.heap.size := fun x hx => by simpa using hW'.lt x (by simpa using hx)
  have fin : ∀ W', Below W.heap.size W W' → Rows.cplxListsSpec.post enc Try.prog Try.f3 false true false false W #[.slice a0 len0 cap0, .slice a1 len1 cap1] (.bool true) W' := fun W' hb =>
    postBelow (pa := p0 ++ p1) (pv := []) hW' (fun _ _ _ => (trodAll_cons_mk (shut_bool Try.underlying4 _) trodAll_mk0))
      (fun sp hsp => by
        have h3 : DataW.TrodAll enc Try.prog W' 0 sp true [22, 22] [Value.slice a0 len0 cap0, Value.slice a1 len1 cap1] [d0, d1] (p0 ++ (p1 ++ [])) :=
          trodAll_cons_mk (WideElems.Trod_stays laidOutL (by kernel_rfl) (of_decide_eq_true (by kernel_rfl)) h0 (fun x hx => hb.same (hlt x (List.mem_append_left _ hx))) (fun x hx => hsp x (by simp [hx])))
          (trodAll_cons_mk (WideElems.Trod_stays laidOutL (by kernel_rfl) (of_decide_eq_true (by kernel_rfl)) h1 (fun x hx => hb.same (hlt x (List.mem_append_right _ hx))) (fun x hx => hsp x (by simp [hx]))) trodAll_mk0)
        simp only [List.append_nil] at h3
        exact h3)
      (fun _ _ => rfl) (by simp) hb (ok_one (by kernel_rfl) rfl (okWide_bool_mk Try.underlying4 _))
  obtain ⟨l, hl, hP, hPA, hD⟩ := open_list h0
  obtain ⟨m, hm, hQ, hQA, hE⟩ := open_list h1
  have hl2 : len0 ≤ 8796093022080 := by
    rcases hD with h | ⟨D, E, rfl, hlen⟩
    · omega
    · have := sized_slice hsz (j := 0) (t := 22) (e := 28) rfl rfl Try.underlying22
      rw [bytesParts] at this
      simp only [reachBytes] at this
      omega
  have hm2 : len1 ≤ 8796093022080 := by
    rcases hE with h | ⟨D, E, rfl, hlen⟩
    · omega
    · have := sized_slice hsz (j := 1) (t := 22) (e := 28) rfl rfl Try.underlying22
      rw [bytesParts] at this
      simp only [reachBytes] at this
      omega
  refine (lists_walk l m a0 a1 cap0 cap1 len0 len1 W hl hm hl2 hm2 hP hQ hPA hQA).mono fun e W' ⟨he, hb⟩ => ?_
  subst he
  exact ⟨_, rfl, fin W' hb⟩

theorem cplxLists_proved : Rows.CplxListsSaid :=
  OpenClaim.holds_of_wide 3 Try.f3 rfl rfl rfl rfl rfl rfl rfl ⟨rfl, rfl, rfl, rfl, rfl⟩ rfl rfl rfl rfl rfl (by kernel_rfl) Try.func3 (by kernel_rfl)
    (of_decide_eq_true (by kernel_rfl)) (by unfold Func.isWrapper; first | (rw [if_pos (by decide +kernel)]; kernel_rfl) | (rw [if_neg (by decide +kernel)]; exact ⟨rfl, rfl⟩))
    (fun os started H enc _ => cplxLists_lifted os started H enc)
end Go.Proofs.Ytnnefiefgpahdaa
