/- Texts put together: P74 Post PP. -/
import Derived.Test.YtajcapliokblfaaDoorB6
import Derived.Below
import Derived.ChangeSame
import Derived.Test.YtajcapliokblfaaDoorRows
import Derived.Test.YtajcapliokblfaaDoorB3
import Derived.ProofKit
import Derived.Lib.SmallJoins
import Derived.OpenShut
import Derived.ShutString
set_option linter.unusedVariables false
set_option linter.unusedSimpArgs false
namespace Go.Proofs.YtajcapliokblfaaDoor
open Go Go.RowKit Nt Go.Lib
set_option maxRecDepth 100000 in
set_option maxHeartbeats 2000000 in
theorem RBack_sk1 (a : Rx) (s : ByteArray) (no : Int) (w : World)
    (KS : ∀ w, Calls Tryd.prog 13 #[.agg #[.bool a.g, .string a.s, .string a.t]] w fun e w' => e = .returned (.bool false) ∧ Below w.heap.size w w')
    (KL : ∀ U, Below w.heap.size w U → Calls Tryd.prog 6 #[] U fun e w' => e = .returned (.bool true) ∧ Below U.heap.size U w') :
    Calls Tryd.prog 5 #[.agg #[.bool a.g, .string a.s, .string a.t], .string s, .int .i64 no] w fun e w' => e = .returned (.bool true) ∧ Below w.heap.size w w' := by
  replace KS := Lib.hid KS
  replace KL := Lib.hid KL
  have P0 := Blk.new w 25 #[.bool a.g, .string a.s, .string a.t]
  have HB0 : Below w.heap.size w (w.alloc (.cells #[.bool a.g, .string a.s, .string a.t] 25)) := (Below.refl _ w).alloc (Nat.le_refl _) _
  obtain ⟨a0, a1, a2⟩ := rat_cells P0
  go_enter Tryd.func5, Tryd.ntmps5
  go_wp2_with (first
    | (go_at_call 13; (with_reducible refine (KS.out _).mono ?_); rintro ee w1 ⟨rfl, hb1⟩; have HB1 := below_chain HB0 hb1)
    | (go_at_call 6; (with_reducible refine (KL.out _ HB1).mono ?_); rintro ee w2 ⟨rfl, hb2⟩; have HB2 := below_chain HB1 hb2))
  refine bodyPost_ret (v := .bool true) (by simp [results, Tryd.results5, go_sem]) rfl ⟨rfl, HB2⟩
set_option maxRecDepth 100000 in
set_option maxHeartbeats 2000000 in
theorem RBack_sk2 (a : Rx) (s : ByteArray) (no : Int) (w : World) (hl : 2000 < s.size)
    (KS : ∀ w, Calls Tryd.prog 13 #[.agg #[.bool a.g, .string a.s, .string a.t]] w fun e w' => e = .returned (.bool true) ∧ Below w.heap.size w w')
    (KL : ∀ U, Below w.heap.size w U → Calls Tryd.prog 6 #[] U fun e w' => e = .returned (.bool true) ∧ Below U.heap.size U w') :
    Calls Tryd.prog 5 #[.agg #[.bool a.g, .string a.s, .string a.t], .string s, .int .i64 no] w fun e w' => e = .returned (.bool true) ∧ Below w.heap.size w w' := by
  replace KS := Lib.hid KS
  replace KL := Lib.hid KL
  have P0 := Blk.new w 25 #[.bool a.g, .string a.s, .string a.t]
  have HB0 : Below w.heap.size w (w.alloc (.cells #[.bool a.g, .string a.s, .string a.t] 25)) := (Below.refl _ w).alloc (Nat.le_refl _) _
  obtain ⟨a0, a1, a2⟩ := rat_cells P0
  go_enter Tryd.func5, Tryd.ntmps5
  go_wp2_with (first
    | (go_at_call 13; (with_reducible refine (KS.out _).mono ?_); rintro ee w1 ⟨rfl, hb1⟩; have HB1 := below_chain HB0 hb1)
    | (go_at_call 6; (with_reducible refine (KL.out _ HB1).mono ?_); rintro ee w2 ⟨rfl, hb2⟩; have HB2 := below_chain HB1 hb2))
  refine bodyPost_ret (v := .bool true) (by simp [results, Tryd.results5, go_sem]) rfl ⟨rfl, HB2⟩
theorem zIn_f {t : ByteArray} (h : ¬ zPt t = true) (m0 : ByteArray) (k : Nat) : (m0 ++ ⟨#[46, 48]⟩) ++ zer k = m0 ++ zIn t (k + 1) := by
  unfold zIn
  rw [if_neg h]
  apply ba_eq
  rw [ba_app, ba_app, ba_app, ba_app, zer_list, zer_list, ba_one, List.append_assoc]
  congr 1
theorem zIn_t {t : ByteArray} (h : zPt t = true) (m0 : ByteArray) (k : Nat) : m0 ++ zer k = m0 ++ zIn t k := by
  unfold zIn
  rw [if_pos h]
theorem RatioBack_law (a : Rx) (s : ByteArray) (no : Int) (w : World) (hG : Globs glT w) (ha : a.s.size ≤ 9223372036854775807 ∧ a.t.size ≤ 9223372036854775807) (hs : s.size ≤ 9223372036854775807) : Calls Tryd.prog 5 #[.agg #[.bool a.g, .string a.s, .string a.t], .string s, .int .i64 no] w fun e w' => e = .returned (.bool true) ∧ Below w.heap.size w w' := by
  have sa := fun w => Psmall_c a w ha.1 ha.2
  have KL : ∀ U, Below w.heap.size w U → Calls Tryd.prog 6 #[] U fun e w' => e = .returned (.bool true) ∧ Below U.heap.size U w' := fun U hb => lives4_c U (hG.below hb (Nat.le_refl _))
  cases h1 : smB a with
  | false => rw [h1] at sa; exact RBack_sk1 a s no w sa KL
  | true =>
    rw [h1] at sa
    by_cases hl : 2000 < s.size
    · exact RBack_sk2 a s no w hl sa KL
    have hl' : s.size ≤ 2000 := by omega
    have z1 := smB_iff.1 h1
    have KM := fun U => PMay_any a U
    have KR : ∀ U, Below w.heap.size w U → Calls Tryd.prog 16 #[.string s] U fun e w' => e = .returned (.tuple #[.agg #[.bool (rdR s).g, .string (rdR s).s, .string (rdR s).t], .int .i64 (rdE s)]) ∧ Below U.heap.size U w' := fun U hb => PRead_c s U (hG.below hb (Nat.le_refl _)) (by omega) (by omega)
    have KD : ∀ U, Below w.heap.size w U → Calls Tryd.prog 17 #[.string s] U fun e w' => e = .returned (.tuple #[.agg #[.bool (dcG s), .string (dcN s), .string (dcD s)], .int .i64 (dcE s)]) ∧ Below U.heap.size U w' := fun U _ => PDecimal_c s U (by omega)
    obtain ⟨tx, KX, KY⟩ : ∃ tx : ByteArray, (∀ U, mayR a = true → Below w.heap.size w U → Calls Tryd.prog 15 #[.agg #[.bool a.g, .string a.s, .string a.t]] U fun e w' => e = .returned (.tuple #[.string tx, .int .i64 0]) ∧ Below U.heap.size U w') ∧ (∀ U, mayR a = true → Below w.heap.size w U → Calls Tryd.prog 16 #[.string tx] U fun e w' => e = .returned (.tuple #[.agg #[.bool a.g, .string a.s, .string a.t], .int .i64 0]) ∧ Below U.heap.size U w') := by
      by_cases hm : mayR a = true
      · obtain ⟨q, hq⟩ := mayR_iff.1 hm
        have hB := hq.bytes z1
        obtain ⟨hf, rfl⟩ := hq
        have hts := txt_small q hB
        obtain ⟨r1, r2⟩ := rd_txt q hf
        refine ⟨txR (qG q) (qN q) (qD q), fun U _ hb => PText_c q U (hG.below hb (Nat.le_refl _)) hf, fun U _ hb => ?_⟩
        have h := PRead_c (txR (qG q) (qN q) (qD q)) U (hG.below hb (Nat.le_refl _)) (by omega) (by omega)
        rwa [r1, r2] at h
      · exact ⟨⟨#[]⟩, fun U c => absurd c hm, fun U c => absurd c hm⟩
    obtain ⟨t2, f2, KT, hrt⟩ : ∃ (t2 : ByteArray) (f2 : Int), (∀ U, Below w.heap.size w U → Calls Tryd.prog 15 #[.agg #[.bool (rdR s).g, .string (rdR s).s, .string (rdR s).t]] U fun e w' => e = .returned (.tuple #[.string t2, .int .i64 f2]) ∧ Below U.heap.size U w') ∧ (rdE s = 0 → f2 = 0 ∧ t2 = s) := by
      by_cases hr : rdOk s
      · obtain ⟨q, hf, e1, e2⟩ := txt_rd hr
        refine ⟨txR (qG q) (qN q) (qD q), 0, fun U hb => ?_, fun _ => ⟨rfl, e2⟩⟩
        rw [e1]
        exact PText_c q U (hG.below hb (Nat.le_refl _)) hf
      · obtain ⟨e1, e2⟩ := rd_no hr
        refine ⟨⟨#[]⟩, 2, fun U hb => ?_, fun c => by rw [e2] at c; exact absurd c (by decide)⟩
        rw [e1]
        refine PText_no Rx.nul U (hG.below hb (Nat.le_refl _)) (fun q hq => ?_)
        have e3 := congrArg Rx.t hq.2
        exact qD_pos q (nat_nil.1 e3.symm)
    by_cases hd : dcOk s
    · obtain ⟨v1, v2, v3, v4⟩ := dc_val hd
      rw [v4] at KD
      have hix := ixB_le 101 s
      have e101 : (101 : UInt8).toNat = 101 := rfl
      have hne : ∀ k (h : k < s.size), k < ixB 101 s → ((s[k].toNat : Int) == 101) = false := fun k h hk => by
        rw [beq_eq_false_iff_ne]
        intro e
        exact (ixB_get 101 s k h).1 hk (UInt8.toNat_inj.1 (by omega))
      have heq : ∀ h : ixB 101 s < s.size, ((s[ixB 101 s].toNat : Int) == 101) = true := fun h => by
        rw [(ixB_get 101 s _ h).2 rfl]; rfl
      have r2 : ∀ w, (Instr.slice 9 (.string s) none (some (.int .i64 (ixB 101 s : Int))) none).run Tryd.prog w = .ok (.string (s.extract 0 (ixB 101 s))) w := fun w => by
        have h := run_slice_string_h (P := Tryd.prog) w 9 s Tryd.underlying9 .i64 (ixB 101 s : Int) (by omega) (by omega)
        rwa [Int.toNat_natCast] at h
      have r3 : ∀ w, (Instr.slice 9 (.string s) (some (.int .i64 (ixB 101 s : Int))) none none).run Tryd.prog w = .ok (.string (s.extract (ixB 101 s) s.size)) w := fun w => by
        have h := run_slice_string_l (P := Tryd.prog) w 9 s Tryd.underlying9 .i64 (ixB 101 s : Int) (by omega) (by omega)
        rwa [Int.toNat_natCast] at h
      have hpt := (ptB_end s).trans (s_pt hd.2.1)
      have s0 : (s.extract 0 (ixB 101 s)).size = ixB 101 s := by rw [ByteArray.size_extract]; omega
      have s2 : (s.extract (ixB 101 s) s.size).size = s.size - ixB 101 s := by rw [ByteArray.size_extract]; omega
      have hw : wpB s s.size = true → s ≠ ⟨#[45, 48]⟩ → rdE s = 0 ∧ (rdR s).g = dcG s ∧ (rdR s).s = dcN s ∧ (rdR s).t = dcD s := fun c1 c2 => by
        rw [wpB_end, Bool.and_eq_true, Bool.not_eq_true', Bool.not_eq_true'] at c1
        obtain ⟨x1, x2⟩ := whole_rd hd c1.1 c1.2 c2
        rw [x2]
        exact ⟨x1, rfl, rfl, rfl⟩
      have b1 : -50 < no.tmod 50 := Int.lt_tmod_of_pos no (by decide)
      have b2 : no.tmod 50 < 50 := Int.tmod_lt_of_pos no (by decide)
      obtain ⟨nn, hnn⟩ : ∃ nn, nn = (no.tmod 50).toNat := ⟨_, rfl⟩
      obtain ⟨m1, K, hm1t, hm1f, hm1s, hK, hu⟩ : ∃ (m1 : ByteArray) (K : Nat), (ptB s s.size = true → m1 = s.extract 0 (ixB 101 s)) ∧ (ptB s s.size = false → m1 = s.extract 0 (ixB 101 s) ++ ⟨#[46, 48]⟩) ∧ m1.size ≤ ixB 101 s + 2 ∧ (zPt (offB 45 s) = true ∨ 0 < K) ∧ m1 ++ zer nn = s.extract 0 (ixB 101 s) ++ zIn (offB 45 s) K := by
        by_cases hp : zPt (offB 45 s) = true
        · exact ⟨s.extract 0 (ixB 101 s), nn, fun _ => rfl, (fun c => by rw [hpt, hp] at c; cases c), by omega, Or.inl hp, zIn_t hp _ _⟩
        · refine ⟨s.extract 0 (ixB 101 s) ++ ⟨#[46, 48]⟩, nn + 1, (fun c => by rw [hpt] at c; exact absurd c hp), fun _ => rfl, ?_, Or.inr (by omega), zIn_f hp _ _⟩
          have h2 : (ByteArray.mk #[46, 48]).size = 2 := rfl
          rw [ByteArray.size_append, h2]; omega
      obtain ⟨u, hu2⟩ : ∃ u, u = (m1 ++ zer nn) ++ s.extract (ixB 101 s) s.size := ⟨_, rfl⟩
      have hus : u.size ≤ 4096 := by
        rw [hu2, ByteArray.size_append, ByteArray.size_append, zer_size]; omega
      obtain ⟨o1, o2, o3, o4, o5⟩ := more_same hd K hK (by rw [hu2, hu]) hus
      obtain ⟨_, _, _, u4⟩ := dc_val o1
      have KD2 : ∀ U, Below w.heap.size w U → Calls Tryd.prog 17 #[.string u] U fun e w' => e = .returned (.tuple #[.agg #[.bool (dcG s), .string (dcN s), .string (dcD s)], .int .i64 0]) ∧ Below U.heap.size U w' := fun U _ => by
        have h := PDecimal_c u U (by omega)
        unfold DcPost at h
        rwa [o2, o3, o4, u4] at h
      have KN1 : ∀ U, Below w.heap.size w U → Calls Tryd.prog 18 #[.string s] U fun e w' => e = .returned (.tuple #[.float .f64 (nrF s), .int .i64 0]) ∧ Below U.heap.size U w' := fun U hb => PNear_q s U (hG.below hb (Nat.le_refl _)) hd (by omega)
      have KN2 : ∀ U, Below w.heap.size w U → Calls Tryd.prog 18 #[.string u] U fun e w' => e = .returned (.tuple #[.float .f64 (nrF s), .int .i64 0]) ∧ Below U.heap.size U w' := fun U hb => by
        have h := PNear_q u U (hG.below hb (Nat.le_refl _)) o1 (by omega)
        rwa [o5] at h
      exact RBack_yes a s tx (rdR s).s (rdR s).t t2 (dcN s) (dcD s) (mayR a) (rdR s).g (dcG s) (rdE s) f2 0 no (ixB 101 s) nn (nrF s) _ m1 _ u (no.tmod 50) w hl' sa KM KX KY KR KT hrt KD KL rfl hw hix hne heq r2 r3 hm1t hm1f (by omega) (by omega) (by omega) rfl b2 (by omega) (by omega) (by omega) hu2.symm KD2 KN1 KN2 (fun U => like4_c (nrF s) (nrF_ok s) U)
    · exact RBack_no a s tx (rdR s).s (rdR s).t t2 (dcN s) (dcD s) (mayR a) (rdR s).g (dcG s) (rdE s) f2 (dcE s) no w hl' sa KM KX KY KR KT hrt KD KL (dcE_no hd)
end Go.Proofs.YtajcapliokblfaaDoor
namespace Go.Proofs.YtajcapliokblfaaDoor
open Go Go.RowKit Go.WideShapes Go.ChangeShapes
variable {H : Type} {enc : TypeId × Value → H} {P : Program}
theorem postBelow {f : Func} {s : ChangeSpec} {apart fresh handsOn again : Bool} {W W' : World} {args : Array Value} {v : Value} {ds gs : List (DataW H)} {places pa pv : List MemPlace}
    (whole : DataW.Whole enc P f.params.toList s.vars apart W args.toList ds gs places)
    (res : ∀ (b : Nat) (sp : Nat → Bool) (hd : Bool), DataW.TrodAll enc P W' b sp hd f.resultTypes.toList (v.resultList f.resultTypes.size) (s.fn H (ds ++ gs)).results [])
    (left : ∀ sp : Nat → Bool, (∀ p ∈ places, sp p.block = true) → DataW.TrodAll enc P W' 0 sp true f.params.toList args.toList (s.fn H (ds ++ gs)).args pa)
    (vars : ∀ sp : Nat → Bool, (∀ p ∈ places, sp p.block = true) → DataW.TrodVars enc P W' sp s.vars (s.fn H (ds ++ gs)).vars pv)
    (split : places = pa ++ pv) (below : Below W.heap.size W W')
    (ok : ∀ (j : Nat) (t : TypeId) (r : Value), f.resultTypes[j]? = some t → (v.resultList f.resultTypes.size)[j]? = some r → Value.okWide P W' .any 0 t r) :
    s.post enc P f apart fresh handsOn again W args v W' := by
  have old : ∀ p ∈ places, p.block < W.heap.size := fun p hp => whole.lt p hp
  have same : ∀ p ∈ places, (fun b => decide (b < W.heap.size)) p.block = true := fun p hp => decide_eq_true (old p hp)
  have kept : W.keptBut W' (fun p => p ∈ places ∧ p ∈ pa ++ pv) :=
    World.keptBut_mono (fun p hp => ⟨hp, split ▸ hp⟩) (below.frame (· ∈ places))
  have free : ∀ b off, MemPlace.cell b off ∈ pa ++ pv → W'.frozen? ⟨b, off, none⟩ = false := fun b off hp => by
    have hin : MemPlace.cell b off ∈ places := split ▸ hp
    rw [below.frozen (p := ⟨b, off, none⟩) (old _ hin)]
    obtain ⟨_, _, _, _, _, hz, _⟩ := whole
    exact hz b off hin
  have apartNow : apart = true → (pa ++ pv).Nodup := fun ha => by
    obtain ⟨_, _, _, _, _, _, hn⟩ := whole
    exact split ▸ hn ha
  refine ⟨ds, gs, places, [], pa, pv, whole, res _ _ _, left _ same, vars _ same, ?_, fun _ => ⟨ok, _, _, ([] ++ pa) ++ pv, ⟨[] ++ pa, pv, trodAll_append (left _ (fun _ _ => rfl)) (res _ _ _), vars _ (fun _ _ => rfl), rfl, ?_, ?_⟩, ?_⟩⟩
  · exact World.keptBut_mono (fun p hp => ⟨hp.1, Or.inr (List.mem_append.1 hp.2)⟩) kept
  · intro b off hp; exact free b off (by simpa using hp)
  · intro ha; simpa using apartNow ha
  · intro p hp _; rw [split]; simpa using hp
end Go.Proofs.YtajcapliokblfaaDoor
namespace Go.Proofs.YtajcapliokblfaaDoor
open Go Go.ChangeShapes Go.WideShapes Go.ChangeAt Go.RowKit Go.Joins
variable {H : Type} {enc : TypeId × Value → H}
def ratD (H : Type) (r : Rx) : DataW H := .agg [.lit (.bool r.g), .lit (.string r.s.data.toList), .lit (.string r.t.data.toList)]
def Rx.max (r : Rx) : Prop := r.s.size ≤ maxLen ∧ r.t.size ≤ maxLen
theorem Rx.max.sz {r : Rx} (h : r.max) : r.s.size ≤ 9223372036854775807 ∧ r.t.size ≤ 9223372036854775807 := by
  have h1 := h.1; have h2 := h.2
  unfold maxLen at h1 h2
  exact ⟨by omega, by omega⟩
set_option maxRecDepth 100000 in
theorem open_rat {w : World} {base : Nat} {spare : Nat → Bool} {held : Bool} {r : Go.Reach} {b0 : Nat} {v : Value} {d : DataW H} {p : List MemPlace}
    (hv : Value.okWide Tryd.prog w r b0 25 v) (h : DataW.Trod enc Tryd.prog w base spare held 25 v d p) :
    ∃ a : Rx, v = .agg #[.bool a.g, .string a.s, .string a.t] ∧ d = ratD H a ∧ p = [] ∧ a.max := by
  obtain ⟨c0, c1, c2, y0, y1, y2, m, rfl, rfl, rfl, hy0, hy1, hy2⟩ := open_agg3 Tryd.underlying25 (by kernel_rfl) (by kernel_rfl) hv h
  obtain ⟨g, e0, rfl⟩ := DataW.trod_bool Tryd.underlying4 hy0
  obtain ⟨s, e1, rfl, hs⟩ := DataW.trod_string Tryd.underlying23 hy1
  obtain ⟨t, e2, rfl, ht⟩ := DataW.trod_string Tryd.underlying23 hy2
  simp at e0 e1 e2
  subst e0 e1 e2
  exact ⟨⟨g, s, t⟩, rfl, rfl, rfl, hs, ht⟩
set_option maxRecDepth 100000 in
theorem shut_rat {W' : World} {b : Nat} {sp : Nat → Bool} {hd : Bool} {a : Rx} (hm : a.max) :
    DataW.Trod enc Tryd.prog W' b sp hd 25 (.agg #[.bool a.g, .string a.s, .string a.t]) (ratD H a) [] := by
  simpa [ratD] using shut_agg3 (enc := enc) (w := W') (base := b) (spare := sp) (held := hd) (y0 := (.lit (.bool a.g), [])) (y1 := (.lit (.string a.s.data.toList), [])) (y2 := (.lit (.string a.t.data.toList), [])) Tryd.underlying25 (by kernel_rfl) (by kernel_rfl) ⟨1, by simp [DataW.trod, Tryd.underlying4]⟩ ⟨1, by simp [DataW.trod, Tryd.underlying23, hm.1]⟩ ⟨1, by simp [DataW.trod, Tryd.underlying23, hm.2]⟩
end Go.Proofs.YtajcapliokblfaaDoor
