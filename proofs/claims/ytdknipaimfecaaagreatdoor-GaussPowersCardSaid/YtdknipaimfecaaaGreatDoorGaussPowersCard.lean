/- The card of GaussPowers: for every input the law returns true and leaves its arguments as they were, where the listed tables of the library hold what the program's text lays. -/
import Derived.Test.YtdknipaimfecaaaGreatDoorU5
import Derived.Deep.Strs
import Derived.Deep.Slices
import Derived.SizedLaws
import Derived.ChangeSame
import Derived.Test.YtdknipaimfecaaaGreatDoorCards
import Derived.Test.YtdknipaimfecaaaGreatDoorTie
import Derived.WalkKit
import Derived.ProofKit
import Derived.OpenShut
import Derived.ShutString
import Derived.Deep.DeepWitnessRowRef
import Derived.Lay
import Derived.LaidSub
import Derived.Lib.LaidTab
import Derived.Laws.Cover2
import Derived.ChangeMaps5
set_option linter.unusedSimpArgs false
set_option linter.unusedVariables false
namespace Go.Proofs.YtdknipaimfecaaaGreatDoor.gaussPowers
open Go Go.ChangeShapes Go.WideShapes Go.ChangeAt Go.RowKit Go.Joins

theorem laidOutL : laidOutB Tryz.prog = true := by kernel_rfl
theorem cellsGauss : Tryz.prog.cellsOf 26 = 6 := by kernel_rfl
theorem cellsDyad : Tryz.prog.cellsOf 24 = 3 := by kernel_rfl
theorem cellsB : Tryz.prog.cellsOf 4 = 1 := by kernel_rfl
theorem cellsS : Tryz.prog.cellsOf 22 = 1 := by kernel_rfl
theorem cellsI : Tryz.prog.cellsOf 3 = 1 := by kernel_rfl
theorem bytesGauss : Tryz.prog.bytesOf 26 = 64 := by kernel_rfl
theorem add_nought (x : Addr) : x.add 0 = x := by
  unfold Addr.add
  exact if_pos rfl
/-- What holds at each place holds of a list. -/
theorem list_of {α : Type} {R : Nat → α → Prop} : ∀ n, (∀ i, i < n → ∃ x, R i x) → ∃ l : List α, l.length = n ∧ ∀ j (h : j < l.length), R j l[j]
  | 0, _ => ⟨[], rfl, fun j h => absurd h (by simp)⟩
  | n + 1, h => by
    obtain ⟨l, hl, hr⟩ := list_of n (fun i hi => h i (by omega))
    obtain ⟨x, hx⟩ := h n (by omega)
    refine ⟨l ++ [x], by simp [hl], fun j hj => ?_⟩
    rcases Nat.lt_or_ge j l.length with h1 | h1
    · rw [List.getElem_append_left h1]; exact hr j h1
    · have : j = l.length := by rw [List.length_append, List.length_singleton] at hj; omega
      subst this
      rw [List.getElem_append_right (Nat.le_refl _)]
      simpa [hl] using hx
section
variable {H : Type} {enc : TypeId × Value → H}
theorem open_list {W : World} {a2 : Option Addr} {len cap : Nat} {d : DataW H} {p : List MemPlace} {spare : Nat → Bool} {held : Bool}
    (h : DataW.Trod enc Tryz.prog W 0 spare held 27 (.slice a2 len cap) d p) :
    ∃ l : List Gt, len = l.length ∧ Gts W a2 l ∧ (∀ t ∈ l, t.re.s.size ≤ maxLen ∧ t.im.s.size ≤ maxLen) ∧ (len = 0 ∨ ∃ D E, d = .slice D E ∧ D.length = len) := by
  obtain ⟨fuel, hf⟩ := h
  rcases Go.Deep.open_slice Tryz.underlying27 hf with ⟨hcs, hx⟩ | ⟨a, len', cap', m, n, D, Pl, hcs, _, hl, hm, hmm, hx, hi⟩
  · simp [Value.cells] at hcs
    obtain ⟨rfl, rfl, rfl⟩ := hcs
    exact ⟨[], rfl, fun h => absurd h (by simp), fun t ht => by (cases ht), Or.inl rfl⟩
  · simp [Value.cells] at hcs
    obtain ⟨rfl, rfl, rfl⟩ := hcs
    have hle : len ≤ m := by rw [hmm]; split <;> omega
    obtain ⟨l, hll, hr⟩ := list_of (R := fun i (x : Gt) => (W.cell? (a.add (i * 6)) = some (.bool x.re.g) ∧ W.cell? ((a.add (i * 6)).add 1) = some (.string x.re.s) ∧ W.cell? ((a.add (i * 6)).add 2) = some (.int .i64 x.re.x) ∧ W.cell? ((a.add (i * 6)).add 3) = some (.bool x.im.g) ∧ W.cell? ((a.add (i * 6)).add 4) = some (.string x.im.s) ∧ W.cell? ((a.add (i * 6)).add 5) = some (.int .i64 x.im.x)) ∧ x.re.s.size ≤ maxLen ∧ x.im.s.size ≤ maxLen) len (fun i hlt => by
      obtain ⟨cs', hc, ht⟩ := hi i (by omega)
      rw [cellsGauss] at hc
      obtain ⟨_, hcl, hat⟩ := World.cells?_some hc
      obtain ⟨u0, u1, u2, u3, u4, u5, rfl⟩ : ∃ u0 u1 u2 u3 u4 u5, cs' = [u0, u1, u2, u3, u4, u5] := by
        match cs', hcl with
        | [u0, u1, u2, u3, u4, u5], _ => exact ⟨u0, u1, u2, u3, u4, u5, rfl⟩
      obtain ⟨y0, y1, k, _, _, h0, h1⟩ := Go.ChangeShapes.trod_struct2 Tryz.underlying26 ht
      simp only [cDyad, List.drop_zero, List.take_succ_cons, List.take_zero, List.drop_succ_cons] at h0 h1
      obtain ⟨g, s, x, rfl, rfl, rfl, _, hs, wx⟩ := trod_dyad h0
      obtain ⟨g', s', x', rfl, rfl, rfl, _, hs', wx'⟩ := trod_dyad h1
      have c0 := hat 0 (by omega)
      have c1 := hat 1 (by omega)
      have c2 := hat 2 (by omega)
      have c3 := hat 3 (by omega)
      have c4 := hat 4 (by omega)
      have c5 := hat 5 (by omega)
      rw [add_nought] at c0
      exact ⟨⟨⟨g, s, x⟩, ⟨g', s', x'⟩⟩, ⟨c0, c1, c2, c3, c4, c5⟩, hs, hs'⟩)
    refine ⟨l, hll.symm, fun h0 => ⟨a, rfl, ?_, fun j hj => ?_⟩, fun t ht => ?_, Or.inr ⟨_, _, (Prod.mk.injEq .. ▸ hx).1, by simp⟩⟩
    · have := World.block_lt_of_cell? W _ (hr 0 h0).1.1
      rwa [block_of_add'] at this
    · obtain ⟨⟨c0, c1, c2, c3, c4, c5⟩, _⟩ := hr j hj
      exact ⟨c0, c1, c2, c3, c4, c5⟩
    · obtain ⟨j, hj, rfl⟩ := List.getElem_of_mem ht
      exact (hr j hj).2
end
theorem own : ownKnob Tryz.prog.godebug = none := by kernel_rfl

set_option maxRecDepth 100000 in
theorem contract (H : Type) (enc : TypeId × Value → H) (W : World) (base : Nat) (args : Array Value) (ds gs : List (DataW H)) (before : List MemPlace)
    (hval : ∀ (j : Nat) t v, Tryz.f3.params[j]? = some t → args[j]? = some v → Value.okWide Tryz.prog W .any base t v)
    (hW : DataW.Whole enc Tryz.prog Tryz.f3.params.toList Rows.gaussPowersSpec.vars false W args.toList ds gs before)
    (hsz0 : (DataW.weightsEach Tryz.prog (Tryz.f3.params.toList ++ (OpenSpec.ofChange Rows.gaussPowersSpec).bare.plain.varTypes Tryz.prog) (ds ++ gs)).all (· ≤ reachBytes) = true)
    (hL : laidMetH Tryz.prog Rows.gaussPowersRow.laid W) :
    Calls Tryz.prog 3 args W fun e W' => ∃ v, e = .returned v ∧ Rows.gaussPowersSpec.post enc Tryz.prog Tryz.f3 false true false false W args v W' := by
  have hT : Globs glT W := globs_of (laid := Rows.gaussPowersRow.laid) (by kernel_rfl) hL
  have hsz : (DataW.weightsEach Tryz.prog (Tryz.f3.params.toList ++ Rows.gaussPowersSpec.plain.varTypes Tryz.prog) (ds ++ gs)).all (· ≤ reachBytes) = true := hsz0
  have hW' := hW
  obtain ⟨p, q, hA0, hV, rfl, hfz, hnd⟩ := hW
  have hA : DataW.TrodAll enc Tryz.prog W 0 (fun _ => true) true Tryz.f3.params.toList args.toList ds p := hA0
  rw [Tryz.params3] at hA hval hsz
  obtain ⟨v0, vs0, d0, ds0, p0, q0, hargs0, rfl, rfl, h0, r0⟩ := trodAll_cons hA
  obtain ⟨v1, vs1, d1, ds1, p1, q1, hargs1, rfl, rfl, h1, r1⟩ := trodAll_cons r0
  obtain ⟨v2, vs2, d2, ds2, p2, q2, hargs2, rfl, rfl, h2, r2⟩ := trodAll_cons r1
  obtain ⟨he, rfl, rfl⟩ := trodAll_nil r2
  have hargs : args = #[v0, v1, v2] := by
    apply Array.ext'; rw [hargs0, hargs1, hargs2, he]
  subst hargs
  obtain ⟨rfl, rfl⟩ := trodVars_none hV
  obtain ⟨g0, s0, x0, k0, t0, y0, rfl, rfl, rfl, wf0, wg0⟩ := open_gauss (hval 0 26 v0 rfl rfl) h0
  obtain ⟨x1, rfl, rfl, rfl, wf1⟩ := open_int Tryz.underlying3 (hval 1 3 v1 rfl rfl) h1
  obtain ⟨a2, len2, cap2, rfl⟩ := okWide_slice Tryz.underlying27 (hval 2 27 v2 rfl rfl)
  clear hA0 hsz0
  simp only [List.append_nil, List.nil_append] at hW' hsz
  have hlt : ∀ x ∈ p2, x.block < W.heap.size := fun x hx => by simpa using hW'.lt x (by simpa using hx)
  obtain ⟨l, hl, hP, hws, hD⟩ := open_list h2
  have hl2 : len2 ≤ 2199023255552 := by
    rcases hD with h | ⟨D, E, rfl, hlen⟩
    · omega
    · have := sized_slice hsz (j := 2) (t := 27) (e := 26) rfl rfl Tryz.underlying27
      rw [bytesGauss] at this
      simp only [reachBytes] at this
      omega
  have walk := GaussPowers_law ⟨⟨g0, s0, x0⟩, ⟨k0, t0, y0⟩⟩ x1 l a2 cap2 len2 W ⟨(by have := wf0.1; unfold maxLen at this; show s0.size ≤ _; omega), (by have := wg0.1; unfold maxLen at this; show t0.size ≤ _; omega)⟩ (int64_bounds wf1) hl hl2 (fun t ht => by have := hws t ht; unfold maxLen at this; exact ⟨by omega, by omega⟩) hP hT
  refine walk.mono fun e W' ⟨he, hg⟩ => ?_
  subst he
  exact ⟨_, rfl, postBelow (pa := p2) (pv := []) hW' (fun _ _ _ => (trodAll_cons_mk (shut_bool Tryz.underlying4 _) trodAll_mk0))
    (fun sp hsp => by
      have h3 : DataW.TrodAll enc Tryz.prog W' 0 sp true [26, 3, 27] [.agg #[.bool g0, .string s0, .int .i64 x0, .bool k0, .string t0, .int .i64 y0], .int .i64 x1, Value.slice a2 len2 cap2] [gaussD H g0 s0 x0 k0 t0 y0, .lit (.int .i64 x1), d2] ([] ++ ([] ++ (p2 ++ []))) :=
        trodAll_cons_mk (shut_gauss wf0 wg0) (trodAll_cons_mk (shut_int Tryz.underlying3 wf1) (trodAll_cons_mk (WideElems.Trod_stays laidOutL (by kernel_rfl) (of_decide_eq_true (by kernel_rfl)) h2 (fun x hx => hg.same (hlt x hx)) (fun x hx => hsp x (by simp [hx]))) trodAll_mk0))
      simp only [List.append_nil, List.nil_append] at h3
      exact h3)
    (fun _ _ => rfl) (by simp) hg (ok_one (by kernel_rfl) rfl (okWide_bool_mk Tryz.underlying4 _))⟩

theorem laid_met (os : Os) : laidMet Tryz.prog Rows.gaussPowersRow.laid ((World.laidAll Tryz.prog os Rows.gaussPowersRow.laid).forCall (fun _ _ => 0) ⟨#[], #[.agg #[.bool false, .string ⟨#[]⟩, .int .i64 0, .bool false, .string ⟨#[]⟩, .int .i64 0], .int .i64 0, .slice none 0 0], []⟩).memory :=
  laidMet_laidAll _ (by kernel_rfl) (by kernel_rfl)
theorem reads (os : Os) {H : Type} (enc : TypeId × Value → H) : ∃ places, DataW.whole enc Tryz.prog ((World.laidAll Tryz.prog os Rows.gaussPowersRow.laid).forCall (fun _ _ => 0) ⟨#[], #[.agg #[.bool false, .string ⟨#[]⟩, .int .i64 0, .bool false, .string ⟨#[]⟩, .int .i64 0], .int .i64 0, .slice none 0 0], []⟩).memory Tryz.f3.params.toList Rows.gaussPowersSpec.vars false (#[.agg #[.bool false, .string ⟨#[]⟩, .int .i64 0, .bool false, .string ⟨#[]⟩, .int .i64 0], .int .i64 0, .slice none 0 0] : Array Value).toList 8 = some ([.agg [.agg [.lit (.bool false), .lit (.string []), .lit (.int .i64 0)], .agg [.lit (.bool false), .lit (.string []), .lit (.int .i64 0)]], .lit (.int .i64 0), .nil], [], places) :=
  ⟨[], by kernel_rfl⟩

set_option maxRecDepth 100000 in
theorem lifted (os : Os) (started : os.Started) (H : Type) (enc : TypeId × Value → H) (F : Stop.Interp) :
    ReturnsInHanded {} Tryz.checked os 3 .any ((OpenSpec.ofChange Rows.gaussPowersSpec).preRow enc Tryz.prog Tryz.f3 Rows.gaussPowersRow.domain false Rows.gaussPowersRow.laid) (((OpenSpec.ofChange Rows.gaussPowersSpec).at F).post enc Tryz.prog Tryz.f3 false true false false) := by
  obtain ⟨places, hx⟩ := reads os enc
  refine returnsInHanded_of_row (C := Tryz.checked) (s := OpenSpec.ofChange Rows.gaussPowersSpec) own started (by kernel_rfl) Tryz.func3
    (witness_row_atRef (enc := enc) (C := Tryz.checked) false (World.laidAll Tryz.prog os Rows.gaussPowersRow.laid) #[.agg #[.bool false, .string ⟨#[]⟩, .int .i64 0, .bool false, .string ⟨#[]⟩, .int .i64 0], .int .i64 0, .slice none 0 0] (World.laidAll_os _ _ _) (by kernel_rfl) (by kernel_rfl) (by kernel_rfl)
      (OpenSpec.preRow_of_cond 8 hx (by kernel_rfl) (fun k hk => by cases hk) (by kernel_rfl) (laid_met os))) ?_
  intro W base args ds gs before hval hW _ hcond hsz hL hS _
  exact contract H enc W base args ds gs before hval hW hsz hL

theorem said : Rows.GaussPowersSaid :=
  OpenClaim.holds_of_cond 3 Tryz.f3 rfl rfl rfl rfl rfl rfl rfl ⟨rfl, rfl, rfl, rfl, rfl⟩ rfl rfl rfl rfl rfl (by kernel_rfl) Tryz.func3 (by kernel_rfl)
    (of_decide_eq_true (by kernel_rfl)) (by unfold Func.isWrapper; first | (rw [if_pos (by decide +kernel)]; kernel_rfl) | (rw [if_neg (by decide +kernel)]; exact ⟨rfl, rfl⟩))
    (fun os started H enc _ F => by rw [OpenClaim.pre_eq_preRow]; exact lifted os started H enc F)

theorem plain (f : FuncId) (fn : Func) (hf : Tryz.pinned.checked.prog.funcNamed Rows.gaussPowersRow.func = some f) (hfn : Tryz.pinned.checked.prog.funcs[f]? = some fn) :
    false = Tryz.pinned.checked.prog.looks [] ∧ ∀ (j : Nat) t, fn.params[j]? = some t → Tryz.pinned.checked.prog.wantsStandIn t = false := by
  obtain rfl : f = 3 := Option.some.inj ((show Tryz.prog.funcNamed Rows.gaussPowersRow.func = some 3 by kernel_rfl).symm.trans hf) |>.symm
  obtain rfl : fn = Tryz.f3 := (Option.some.inj (Tryz.func3.symm.trans hfn)).symm
  refine ⟨by kernel_rfl, fun j t ht => ?_⟩
  rw [Tryz.params3] at ht
  have hm := Array.mem_of_getElem? ht
  have s0 : Tryz.prog.wantsStandIn 26 = false := by kernel_rfl
  have s1 : Tryz.prog.wantsStandIn 3 = false := by kernel_rfl
  have s2 : Tryz.prog.wantsStandIn 27 = false := by kernel_rfl
  simp at hm
  rcases hm with rfl | rfl | rfl
  · exact s0
  · exact s1
  · exact s2
theorem card : Rows.GaussPowersCardSaid :=
  Claim7.holds_tied_plain_at .later [] _ _ _ _ said (fun _ h => by cases h) (by kernel_rfl) (fun _ h => by cases h) gaussPowers_row_tie rfl ⟨rfl, rfl⟩ (by kernel_rfl) rfl plain (by kernel_rfl)
end Go.Proofs.YtdknipaimfecaaaGreatDoor.gaussPowers
