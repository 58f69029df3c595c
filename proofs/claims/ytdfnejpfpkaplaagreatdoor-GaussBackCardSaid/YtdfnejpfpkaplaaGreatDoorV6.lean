/- Texts put together: ItG2 ItG3 Aw06 Al06 ItG4 GP. -/
import Derived.Test.YtdfnejpfpkaplaaGreatDoorV5
import Derived.Test.YtdfnejpfpkaplaaGreatDoorV4
import Derived.ChangeSame
import Derived.Deep.Strs
set_option linter.unusedSimpArgs false
set_option linter.unusedVariables false
namespace Go.Proofs.YtdfnejpfpkaplaaGreatDoor
open Go Go.RowKit Nt
@[irreducible] def rgA (s : ByteArray) : ByteArray := headB 44 s
@[irreducible] def rgB (s : ByteArray) : ByteArray := tailB 44 s
theorem rgA_def (s : ByteArray) : headB 44 s = rgA s := by unfold rgA; rfl
theorem rgB_def (s : ByteArray) : tailB 44 s = rgB s := by unfold rgB; rfl
theorem rgA_size (s : ByteArray) : (rgA s).size ≤ s.size := by rw [← rgA_def]; exact headB_size 44 s
theorem rgB_size (s : ByteArray) : (rgB s).size ≤ s.size := by rw [← rgB_def]; exact tailB_size 44 s
open Classical in
@[irreducible] noncomputable def rgT (s : ByteArray) : Gt := if ryX (rgA s) = 0 ∧ ryX (rgB s) = 0 then ⟨ryT (rgA s), ryT (rgB s)⟩ else Gt.zero
open Classical in
@[irreducible] noncomputable def rgX (s : ByteArray) : Int := if ryX (rgA s) = 0 ∧ ryX (rgB s) = 0 then 0 else 60
theorem rg_ok {s : ByteArray} (h : ryX (rgA s) = 0 ∧ ryX (rgB s) = 0) : rgT s = ⟨ryT (rgA s), ryT (rgB s)⟩ ∧ rgX s = 0 := by unfold rgT rgX; rw [if_pos h, if_pos h]; exact ⟨rfl, rfl⟩
theorem rg_no {s : ByteArray} (h : ¬ (ryX (rgA s) = 0 ∧ ryX (rgB s) = 0)) : rgT s = Gt.zero ∧ rgX s = 60 := by unfold rgT rgX; rw [if_neg h, if_neg h]; exact ⟨rfl, rfl⟩
theorem rgT_ok (s : ByteArray) : (rgT s).Ok := by
  by_cases h : ryX (rgA s) = 0 ∧ ryX (rgB s) = 0
  · rw [(rg_ok h).1]; exact ⟨ryT_ok _, ryT_ok _⟩
  · rw [(rg_no h).1]; exact ⟨Dt.zero_Ok, Dt.zero_Ok⟩
set_option maxRecDepth 100000 in
set_option maxHeartbeats 4000000 in
theorem GRead_a (s A B : ByteArray) (has : Bool) (a b : Dt) (ea eb : Int) (w : World) (hT : TabT w)
    (KC : ∀ w, Calls Tryz.prog 26 #[.string s, .string ⟨#[44]⟩] w fun e w' => e = .returned (.tuple #[.string A, .string B, .bool has]) ∧ Below w.heap.size w w')
    (KA : ∀ w, TabT w → Calls Tryz.prog 8 #[.string A] w fun e w' => e = .returned (.tuple #[.agg #[.bool a.g, .string a.s, .int .i64 a.x], .int .i64 ea]) ∧ Below w.heap.size w w')
    (KB : ∀ w, TabT w → Calls Tryz.prog 8 #[.string B] w fun e w' => e = .returned (.tuple #[.agg #[.bool b.g, .string b.s, .int .i64 b.x], .int .i64 eb]) ∧ Below w.heap.size w w') (h : ¬ ea = 0) :
    Calls Tryz.prog 15 #[.string s] w fun e w' => e = .returned (.tuple #[.agg #[.bool false, .string ⟨#[]⟩, .int .i64 0, .bool false, .string ⟨#[]⟩, .int .i64 0], .int .i64 60]) ∧ Below w.heap.size w w' := by
  have K1 := Lib.hid KC
  have K2 := Lib.hid KA
  have K3 := Lib.hid KB
  have HT := Lib.hid hT
  clear KC KA KB hT
  have q1 : (ea == 0) = false := beq_eq_false_iff_ne.2 h
  have q2 : (ea != 0) = true := by rw [bne, q1]; rfl
  clear h
  have T0 := GB.start w ⟨⟨false, ⟨#[]⟩, 0⟩, ⟨false, ⟨#[]⟩, 0⟩⟩
  go_enter Tryz.func15, Tryz.ntmps15
  go_upto_region 2 with (first | (go_at_call 26; (with_reducible refine (K1.out _).mono ?_); rintro ee w1 ⟨rfl, hb⟩; replace T0 := T0.step hb; clear hb))
  go_upto_region 3 with (first | (go_at_call 8; have HK := K2.out _ (HT.out.below T0.1); (with_reducible refine HK.mono ?_); clear HK; rintro ee w2 ⟨rfl, hb⟩; replace T0 := (T0.step hb).more (.cells #[.bool a.g, .string a.s, .int .i64 a.x] 24); have TA := OB.start w2 a; clear hb))
  generalize w2.alloc (.cells #[.bool a.g, .string a.s, .int .i64 a.x] 24) = W2 at *
  go_upto_region 4 with (first | (go_at_call 8; have HK := K3.out _ (HT.out.below T0.1); (with_reducible refine HK.mono ?_); clear HK; rintro ee w3 ⟨rfl, hb⟩; replace T0 := (T0.step hb).more (.cells #[.bool b.g, .string b.s, .int .i64 b.x] 24); replace TA := (TA.step hb).more (.cells #[.bool b.g, .string b.s, .int .i64 b.x] 24); have TB := OB.start w3 b; clear hb))
  generalize w3.alloc (.cells #[.bool b.g, .string b.s, .int .i64 b.x] 24) = W3 at *
  obtain ⟨r0, r1, r2, r3, r4, r5, r6, r7, r8, r9, r10, r11, r12⟩ := T0.2.facts
  obtain ⟨p0, p1, p2, p3, p4, p5, p6⟩ := TA.2.facts
  obtain ⟨q0, q3, q4, q5, q6, q7, q8⟩ := TB.2.facts
  go_wp2_with fail
  refine bodyPost_ret (v := .tuple #[.agg #[.bool false, .string ⟨#[]⟩, .int .i64 0, .bool false, .string ⟨#[]⟩, .int .i64 0], .int .i64 60]) (by simp [results, Tryz.results15, go_sem, r0, r1, r2, r3, r4, r5, r6]) rfl ⟨rfl, ?_⟩
  exact below_put6 T0.1 (Nat.le_refl _) _ _ _ _ _ _
set_option maxRecDepth 100000 in
set_option maxHeartbeats 4000000 in
theorem GRead_b (s A B : ByteArray) (has : Bool) (a b : Dt) (ea eb : Int) (w : World) (hT : TabT w)
    (KC : ∀ w, Calls Tryz.prog 26 #[.string s, .string ⟨#[44]⟩] w fun e w' => e = .returned (.tuple #[.string A, .string B, .bool has]) ∧ Below w.heap.size w w')
    (KA : ∀ w, TabT w → Calls Tryz.prog 8 #[.string A] w fun e w' => e = .returned (.tuple #[.agg #[.bool a.g, .string a.s, .int .i64 a.x], .int .i64 ea]) ∧ Below w.heap.size w w')
    (KB : ∀ w, TabT w → Calls Tryz.prog 8 #[.string B] w fun e w' => e = .returned (.tuple #[.agg #[.bool b.g, .string b.s, .int .i64 b.x], .int .i64 eb]) ∧ Below w.heap.size w w') (h : ¬ eb = 0) (h0 : ea = 0) :
    Calls Tryz.prog 15 #[.string s] w fun e w' => e = .returned (.tuple #[.agg #[.bool false, .string ⟨#[]⟩, .int .i64 0, .bool false, .string ⟨#[]⟩, .int .i64 0], .int .i64 60]) ∧ Below w.heap.size w w' := by
  have K1 := Lib.hid KC
  have K2 := Lib.hid KA
  have K3 := Lib.hid KB
  have HT := Lib.hid hT
  clear KC KA KB hT
  subst h0
  have q1 : (eb == 0) = false := beq_eq_false_iff_ne.2 h
  have q2 : (eb != 0) = true := by rw [bne, q1]; rfl
  clear h
  have T0 := GB.start w ⟨⟨false, ⟨#[]⟩, 0⟩, ⟨false, ⟨#[]⟩, 0⟩⟩
  go_enter Tryz.func15, Tryz.ntmps15
  go_upto_region 2 with (first | (go_at_call 26; (with_reducible refine (K1.out _).mono ?_); rintro ee w1 ⟨rfl, hb⟩; replace T0 := T0.step hb; clear hb))
  go_upto_region 3 with (first | (go_at_call 8; have HK := K2.out _ (HT.out.below T0.1); (with_reducible refine HK.mono ?_); clear HK; rintro ee w2 ⟨rfl, hb⟩; replace T0 := (T0.step hb).more (.cells #[.bool a.g, .string a.s, .int .i64 a.x] 24); have TA := OB.start w2 a; clear hb))
  generalize w2.alloc (.cells #[.bool a.g, .string a.s, .int .i64 a.x] 24) = W2 at *
  go_upto_region 4 with (first | (go_at_call 8; have HK := K3.out _ (HT.out.below T0.1); (with_reducible refine HK.mono ?_); clear HK; rintro ee w3 ⟨rfl, hb⟩; replace T0 := (T0.step hb).more (.cells #[.bool b.g, .string b.s, .int .i64 b.x] 24); replace TA := (TA.step hb).more (.cells #[.bool b.g, .string b.s, .int .i64 b.x] 24); have TB := OB.start w3 b; clear hb))
  generalize w3.alloc (.cells #[.bool b.g, .string b.s, .int .i64 b.x] 24) = W3 at *
  obtain ⟨r0, r1, r2, r3, r4, r5, r6, r7, r8, r9, r10, r11, r12⟩ := T0.2.facts
  obtain ⟨p0, p1, p2, p3, p4, p5, p6⟩ := TA.2.facts
  obtain ⟨q0, q3, q4, q5, q6, q7, q8⟩ := TB.2.facts
  go_wp2_with fail
  refine bodyPost_ret (v := .tuple #[.agg #[.bool false, .string ⟨#[]⟩, .int .i64 0, .bool false, .string ⟨#[]⟩, .int .i64 0], .int .i64 60]) (by simp [results, Tryz.results15, go_sem, r0, r1, r2, r3, r4, r5, r6]) rfl ⟨rfl, ?_⟩
  exact below_put6 T0.1 (Nat.le_refl _) _ _ _ _ _ _
set_option maxRecDepth 100000 in
set_option maxHeartbeats 4000000 in
theorem GRead_y (s A B : ByteArray) (has : Bool) (a b : Dt) (ea eb : Int) (w : World) (hT : TabT w)
    (KC : ∀ w, Calls Tryz.prog 26 #[.string s, .string ⟨#[44]⟩] w fun e w' => e = .returned (.tuple #[.string A, .string B, .bool has]) ∧ Below w.heap.size w w')
    (KA : ∀ w, TabT w → Calls Tryz.prog 8 #[.string A] w fun e w' => e = .returned (.tuple #[.agg #[.bool a.g, .string a.s, .int .i64 a.x], .int .i64 ea]) ∧ Below w.heap.size w w')
    (KB : ∀ w, TabT w → Calls Tryz.prog 8 #[.string B] w fun e w' => e = .returned (.tuple #[.agg #[.bool b.g, .string b.s, .int .i64 b.x], .int .i64 eb]) ∧ Below w.heap.size w w') (h0 : ea = 0) (h1 : eb = 0) :
    Calls Tryz.prog 15 #[.string s] w fun e w' => e = .returned (.tuple #[.agg #[.bool a.g, .string a.s, .int .i64 a.x, .bool b.g, .string b.s, .int .i64 b.x], .int .i64 0]) ∧ Below w.heap.size w w' := by
  have K1 := Lib.hid KC
  have K2 := Lib.hid KA
  have K3 := Lib.hid KB
  have HT := Lib.hid hT
  clear KC KA KB hT
  subst h0
  subst h1
  have T0 := GB.start w ⟨⟨false, ⟨#[]⟩, 0⟩, ⟨false, ⟨#[]⟩, 0⟩⟩
  go_enter Tryz.func15, Tryz.ntmps15
  go_upto_region 2 with (first | (go_at_call 26; (with_reducible refine (K1.out _).mono ?_); rintro ee w1 ⟨rfl, hb⟩; replace T0 := T0.step hb; clear hb))
  go_upto_region 3 with (first | (go_at_call 8; have HK := K2.out _ (HT.out.below T0.1); (with_reducible refine HK.mono ?_); clear HK; rintro ee w2 ⟨rfl, hb⟩; replace T0 := (T0.step hb).more (.cells #[.bool a.g, .string a.s, .int .i64 a.x] 24); have TA := OB.start w2 a; clear hb))
  generalize w2.alloc (.cells #[.bool a.g, .string a.s, .int .i64 a.x] 24) = W2 at *
  go_upto_region 4 with (first | (go_at_call 8; have HK := K3.out _ (HT.out.below T0.1); (with_reducible refine HK.mono ?_); clear HK; rintro ee w3 ⟨rfl, hb⟩; replace T0 := (T0.step hb).more (.cells #[.bool b.g, .string b.s, .int .i64 b.x] 24); replace TA := (TA.step hb).more (.cells #[.bool b.g, .string b.s, .int .i64 b.x] 24); have TB := OB.start w3 b; clear hb))
  generalize w3.alloc (.cells #[.bool b.g, .string b.s, .int .i64 b.x] 24) = W3 at *
  obtain ⟨r0, r1, r2, r3, r4, r5, r6, r7, r8, r9, r10, r11, r12⟩ := T0.2.facts
  obtain ⟨p0, p1, p2, p3, p4, p5, p6⟩ := TA.2.facts
  obtain ⟨q0, q3, q4, q5, q6, q7, q8⟩ := TB.2.facts
  go_wp2_with fail
  refine bodyPost_ret (v := .tuple #[.agg #[.bool a.g, .string a.s, .int .i64 a.x, .bool b.g, .string b.s, .int .i64 b.x], .int .i64 0]) (by simp [results, Tryz.results15, go_sem, r0, r1, r2, r3, r4, r5, r6]) rfl ⟨rfl, ?_⟩
  exact below_put6 T0.1 (Nat.le_refl _) _ _ _ _ _ _
theorem GRead_c (s : ByteArray) (w : World) (hz : s.size ≤ 281474976710656) (hT : TabT w) :
    Calls Tryz.prog 15 #[.string s] w fun e w' => e = .returned (.tuple #[.agg #[.bool (rgT s).re.g, .string (rgT s).re.s, .int .i64 (rgT s).re.x, .bool (rgT s).im.g, .string (rgT s).im.s, .int .i64 (rgT s).im.x], .int .i64 (rgX s)]) ∧ Below w.heap.size w w' := by
  have zA := rgA_size s
  have zB := rgB_size s
  have KC := fun w => PCut_c 44 s w (by omega)
  rw [rgA_def, rgB_def] at KC
  have KA := fun w hT => DRead_c (rgA s) w (by omega) hT
  have KB := fun w hT => DRead_c (rgB s) w (by omega) hT
  by_cases h : ryX (rgA s) = 0 ∧ ryX (rgB s) = 0
  · rw [(rg_ok h).1, (rg_ok h).2]
    exact GRead_y s _ _ _ _ _ _ _ w hT KC KA KB h.1 h.2
  · rw [(rg_no h).1, (rg_no h).2]
    by_cases h0 : ryX (rgA s) = 0
    · exact GRead_b s _ _ _ _ _ _ _ w hT KC KA KB (fun c => h ⟨h0, c⟩) h0
    · exact GRead_a s _ _ _ _ _ _ _ w hT KC KA KB h0
end Go.Proofs.YtdfnejpfpkaplaaGreatDoor
namespace Go.Proofs.YtdfnejpfpkaplaaGreatDoor
open Go Go.RowKit Nt
set_option maxRecDepth 100000 in
set_option maxHeartbeats 4000000 in
theorem rRead6_p (s A B : ByteArray) (a b : Dt) (ix : Nat) (ea eb : Int) (rv : Gt) (re : Int) (w : World) (hz : s.size ≤ 9223372036854775000)
    (hix : ix ≤ s.size) (hne : ∀ k (h : k < s.size), k < ix → ((s[k].toNat : Int) == 44) = false) (heq : ∀ h : ix < s.size, ((s[ix].toNat : Int) == 44) = true)
    (rA : ∀ w, (Instr.slice 9 (.string s) none (some (.int .i64 (ix : Int))) none).run Tryz.prog w = .ok (.string A) w) (rB : ix < s.size → ∀ w, (Instr.slice 9 (.string s) (some (.int .i64 ((ix : Int) + 1))) none none).run Tryz.prog w = .ok (.string B) w)
    (KA : ∀ w, Calls Tryz.prog 9 #[.string A] w fun e w' => e = .returned (.tuple #[.agg #[.bool a.g, .string a.s, .int .i64 a.x], .int .i64 ea]) ∧ Below w.heap.size w w')
    (KB : ∀ w, Calls Tryz.prog 9 #[.string B] w fun e w' => e = .returned (.tuple #[.agg #[.bool b.g, .string b.s, .int .i64 b.x], .int .i64 eb]) ∧ Below w.heap.size w w')
    (hend : ((ix = s.size ∨ ¬ ea = 0 ∨ ¬ eb = 0) ∧ rv = Gt.zero ∧ re = 60) ∨ (ix < s.size ∧ ea = 0 ∧ eb = 0 ∧ rv = ⟨a, b⟩ ∧ re = 0)) :
    Calls Tryz.prog 16 #[.string s] w fun e w' => e = .returned (.tuple #[.agg #[.bool rv.re.g, .string rv.re.s, .int .i64 rv.re.x, .bool rv.im.g, .string rv.im.s, .int .i64 rv.im.x], .int .i64 re]) ∧ Below w.heap.size w w' := by
  have K2 := Lib.hid KA
  have K3 := Lib.hid KB
  have HN := Lib.hid hne
  have HE := Lib.hid heq
  have HF := Lib.hid hend
  clear KA KB hne heq hend
  have T0 := GB.start w ⟨⟨false, ⟨#[]⟩, 0⟩, ⟨false, ⟨#[]⟩, 0⟩⟩
  go_enter Tryz.func16, Tryz.ntmps16
  go_wp2_with fail
  generalize w.alloc (.cells #[.bool false, .string ⟨#[]⟩, .int .i64 0, .bool false, .string ⟨#[]⟩, .int .i64 0] 38) = W0 at *
  go_loop [4] (fun i => ∃ k : Nat, k ≤ ix ∧ i = .int .i64 k) (fun i => ix - (intOf i).toNat)
  case atStart => exact ⟨0, Nat.zero_le _, rfl⟩
  case round =>
    obtain ⟨k, hk, rfl⟩ := hrel
    by_cases hlt : k < ix
    · have hku : k < s.size := by omega
      have e1 := HN.out k hku hlt
      go_wp2_with fail
      go_round
      case rel => exact ⟨k + 1, by omega, by go_num⟩
      case measure => simp [intOf]; omega
    · obtain rfl : k = ix := by omega
      clear hlt hk
      by_cases hp : k = s.size
      · have e1 : ¬ k < s.size := by omega
        rcases HF.out with ⟨-, rfl, rfl⟩ | ⟨c, -⟩
        · have e2 : ((k : Int) == (s.size : Int)) = true := by rw [hp]; exact beq_self_eq_true _
          clear hp
          obtain ⟨r0, r1, r2, r3, r4, r5, r6, r7, r8, r9, r10, r11, r12⟩ := T0.2.facts
          go_wp2_with fail
          refine bodyPost_ret (v := .tuple #[.agg #[.bool false, .string ⟨#[]⟩, .int .i64 0, .bool false, .string ⟨#[]⟩, .int .i64 0], .int .i64 60]) (by simp [results, Tryz.results16, go_sem, r0, r1, r2, r3, r4, r5, r6]) rfl ⟨rfl, ?_⟩
          exact below_put6 T0.1 (Nat.le_refl _) _ _ _ _ _ _
        · exact absurd c e1
      · have hlt : k < s.size := by omega
        have e1 := HE.out hlt
        have e2 : ((k : Int) == (s.size : Int)) = false := beq_eq_false_iff_ne.2 (by omega)
        have rB' := rB hlt
        clear rB
        go_upto_region 7 with (first | (go_at_call 9; (with_reducible refine (K2.out _).mono ?_); rintro ee w2 ⟨rfl, hb⟩; replace T0 := (T0.step hb).more (.cells #[.bool a.g, .string a.s, .int .i64 a.x] 24); have TA := OB.start w2 a; clear hb))
        generalize w2.alloc (.cells #[.bool a.g, .string a.s, .int .i64 a.x] 24) = W2 at *
        go_upto_region 8 with (first | (go_at_call 9; (with_reducible refine (K3.out _).mono ?_); rintro ee w3 ⟨rfl, hb⟩; replace T0 := (T0.step hb).more (.cells #[.bool b.g, .string b.s, .int .i64 b.x] 24); replace TA := (TA.step hb).more (.cells #[.bool b.g, .string b.s, .int .i64 b.x] 24); have TB := OB.start w3 b; clear hb))
        generalize w3.alloc (.cells #[.bool b.g, .string b.s, .int .i64 b.x] 24) = W3 at *
        obtain ⟨p0, p1, p2, p3, p4, p5, p6⟩ := TA.2.facts
        obtain ⟨q0, q3, q4, q5, q6, q7, q8⟩ := TB.2.facts
        by_cases hea : ea = 0
        · by_cases heb : eb = 0
          · rcases HF.out with ⟨c, -⟩ | ⟨-, rfl, rfl, rfl, rfl⟩
            · exact absurd c (fun c => c.elim hp (fun c => c.elim (fun c => c hea) (fun c => c heb)))
            · clear HF hp hea heb
              obtain ⟨r0, r1, r2, r3, r4, r5, r6, r7, r8, r9, r10, r11, r12⟩ := T0.2.facts
              go_wp2_with fail
              refine bodyPost_ret (v := .tuple #[.agg #[.bool a.g, .string a.s, .int .i64 a.x, .bool b.g, .string b.s, .int .i64 b.x], .int .i64 0]) (by simp [results, Tryz.results16, go_sem, r0, r1, r2, r3, r4, r5, r6]) rfl ⟨rfl, ?_⟩
              exact below_put6 T0.1 (Nat.le_refl _) _ _ _ _ _ _
          · rcases HF.out with ⟨-, rfl, rfl⟩ | ⟨-, -, c, -⟩
            · subst hea
              have z1 : (eb == 0) = false := beq_eq_false_iff_ne.2 heb
              have z2 : (eb != 0) = true := by rw [bne, z1]; rfl
              clear HF hp heb
              obtain ⟨r0, r1, r2, r3, r4, r5, r6, r7, r8, r9, r10, r11, r12⟩ := T0.2.facts
              go_wp2_with fail
              refine bodyPost_ret (v := .tuple #[.agg #[.bool false, .string ⟨#[]⟩, .int .i64 0, .bool false, .string ⟨#[]⟩, .int .i64 0], .int .i64 60]) (by simp [results, Tryz.results16, go_sem, r0, r1, r2, r3, r4, r5, r6]) rfl ⟨rfl, ?_⟩
              exact below_put6 T0.1 (Nat.le_refl _) _ _ _ _ _ _
            · exact absurd c heb
        · rcases HF.out with ⟨-, rfl, rfl⟩ | ⟨-, c, -⟩
          · have z1 : (ea == 0) = false := beq_eq_false_iff_ne.2 hea
            have z2 : (ea != 0) = true := by rw [bne, z1]; rfl
            clear HF hp hea
            obtain ⟨r0, r1, r2, r3, r4, r5, r6, r7, r8, r9, r10, r11, r12⟩ := T0.2.facts
            go_wp2_with fail
            refine bodyPost_ret (v := .tuple #[.agg #[.bool false, .string ⟨#[]⟩, .int .i64 0, .bool false, .string ⟨#[]⟩, .int .i64 0], .int .i64 60]) (by simp [results, Tryz.results16, go_sem, r0, r1, r2, r3, r4, r5, r6]) rfl ⟨rfl, ?_⟩
            exact below_put6 T0.1 (Nat.le_refl _) _ _ _ _ _ _
          · exact absurd c hea
theorem ry_empty : ryX ⟨#[]⟩ = 30 := by
  refine (ry_no (fun h => ?_) (fun c => ?_)).2
  · have h2 := h.2.1.1.1
    have e : ryB ⟨#[]⟩ = ⟨#[]⟩ := by
      have := ryB_size ⟨#[]⟩
      exact ba_nil (Nat.le_zero.1 this)
    rw [e] at h2
    have ho : (offB 45 (ByteArray.mk #[])).size ≤ 0 := offB_size 45 _
    omega
  · have := congrArg ByteArray.size c
    exact absurd this (by decide)
theorem rRead6_c (s : ByteArray) (w : World) (hz : s.size ≤ 281474976710656) :
    Calls Tryz.prog 16 #[.string s] w fun e w' => e = .returned (.tuple #[.agg #[.bool (rgT s).re.g, .string (rgT s).re.s, .int .i64 (rgT s).re.x, .bool (rgT s).im.g, .string (rgT s).im.s, .int .i64 (rgT s).im.x], .int .i64 (rgX s)]) ∧ Below w.heap.size w w' := by
  have zA := rgA_size s
  have zB := rgB_size s
  have e44 : (44 : UInt8).toNat = 44 := rfl
  have hix := ixB_le 44 s
  have hne : ∀ k (h : k < s.size), k < ixB 44 s → ((s[k].toNat : Int) == 44) = false := fun k h hk => by
    rw [beq_eq_false_iff_ne]
    intro c
    exact (ixB_get 44 s k h).1 hk (UInt8.toNat_inj.1 (by omega))
  have heq : ∀ h : ixB 44 s < s.size, ((s[ixB 44 s].toNat : Int) == 44) = true := fun h => by
    rw [(ixB_get 44 s _ h).2 rfl]; rfl
  have hA : headB 44 s = s.extract 0 (ixB 44 s) := by
    by_cases h : hasB 44 s = true
    · unfold headB; rw [if_pos h]
    · have e : ixB 44 s = s.size := by
        have : ¬ ixB 44 s < s.size := fun c => h (hasB_iff.2 c)
        omega
      unfold headB; rw [if_neg h, e]
      apply ba_eq
      rw [ba_upto]
      exact (List.take_of_length_le (Nat.le_refl _)).symm
  have rA : ∀ w, (Instr.slice 9 (.string s) none (some (.int .i64 (ixB 44 s : Int))) none).run Tryz.prog w = .ok (.string (rgA s)) w := fun w => by
    have h := run_slice_string_h (P := Tryz.prog) w 9 s Tryz.underlying9 .i64 (ixB 44 s : Int) (by omega) (by omega)
    rwa [Int.toNat_natCast, ← hA, rgA_def] at h
  have rB : ixB 44 s < s.size → ∀ w, (Instr.slice 9 (.string s) (some (.int .i64 ((ixB 44 s : Int) + 1))) none none).run Tryz.prog w = .ok (.string (rgB s)) w := fun hh w => by
    have h := run_slice_string_l (P := Tryz.prog) w 9 s Tryz.underlying9 .i64 ((ixB 44 s : Int) + 1) (by omega) (by omega)
    have hB : rgB s = s.extract (ixB 44 s + 1) s.size := by rw [← rgB_def]; unfold tailB; rw [if_pos (hasB_iff.2 hh)]
    have e1 : ((ixB 44 s : Int) + 1).toNat = ixB 44 s + 1 := by omega
    rw [e1, ← hB] at h
    exact h
  refine rRead6_p s (rgA s) (rgB s) (ryT (rgA s)) (ryT (rgB s)) (ixB 44 s) (ryX (rgA s)) (ryX (rgB s)) (rgT s) (rgX s) w (by omega) hix hne heq rA rB (fun w => rRead3_c _ w (by omega)) (fun w => rRead3_c _ w (by omega)) ?_
  by_cases h : ryX (rgA s) = 0 ∧ ryX (rgB s) = 0
  · refine Or.inr ⟨?_, h.1, h.2, (rg_ok h).1, (rg_ok h).2⟩
    refine Classical.byContradiction fun c => ?_
    have hno : ¬ hasB 44 s = true := fun d => c (hasB_iff.1 d)
    have e : rgB s = ⟨#[]⟩ := by rw [← rgB_def]; unfold tailB; rw [if_neg hno]
    have h2 : (30 : Int) = 0 := ry_empty.symm.trans ((congrArg ryX e).symm.trans h.2)
    omega
  · refine Or.inl ⟨?_, (rg_no h).1, (rg_no h).2⟩
    by_cases h0 : ryX (rgA s) = 0
    · exact Or.inr (Or.inr (fun c => h ⟨h0, c⟩))
    · exact Or.inr (Or.inl h0)
end Go.Proofs.YtdfnejpfpkaplaaGreatDoor
namespace Go.Proofs.YtdfnejpfpkaplaaGreatDoor
open Go Go.RowKit
set_option maxRecDepth 100000 in
theorem awake6_says : saysG Tryz.prog glT 20000 19 [] true = true := by kernel_rfl
theorem awake6_c (w : World) (hg : Globs glT w) : Calls Tryz.prog 19 #[] w fun e w' => e = .returned (.bool true) ∧ Below w.heap.size w w' := closed_with (by kernel_rfl) awake6_says hg
end Go.Proofs.YtdfnejpfpkaplaaGreatDoor
namespace Go.Proofs.YtdfnejpfpkaplaaGreatDoor
open Go Go.RowKit
set_option maxRecDepth 100000 in
set_option maxHeartbeats 1000000 in
theorem lAll06_c (A : Nat) (c : Nat) (l : List Int) (w : World) (hl : l.length ≤ 9223372036854775807) (h : Ers w A l) :
    Calls Tryz.prog 22 #[.slice (some ⟨A, 0, none⟩) l.length c] w fun e w' => e = .returned (.bool (allB l)) ∧ Below w.heap.size w w' := by
  have HD := Lib.hid h
  clear h
  go_enter Tryz.func22, Tryz.ntmps22
  go_wp2
  go_loopw [3] (fun i wr => ∃ k : Nat, k ≤ l.length ∧ i = .int .i64 k ∧ Hid (∀ j (h : j < l.length), j < k → l[j] = 0) ∧ Below w.heap.size w wr) (fun i _ => l.length - (intOf i).toNat)
  case atStart => exact ⟨0, Nat.zero_le _, rfl, Lib.hid (fun j _ h => by omega), Below.refl _ _⟩
  case round =>
    obtain ⟨k, hk, rfl, hok, hb⟩ := hrel
    by_cases hlt : k < l.length
    · have c1 := (HD.out.below hb).2 k hlt
      by_cases hok1 : l[k] = 0
      · have HOK := Lib.hid (show ∀ j (h : j < l.length), j < k + 1 → l[j] = 0 from fun j hj h2 => by
          rcases Nat.lt_or_ge j k with h3 | h3
          · exact hok.out j hj h3
          · obtain rfl : j = k := by omega
            exact hok1)
        rw [hok1] at c1
        clear hok1
        go_wp2_with fail
        go_roundw
        case rel => exact ⟨k + 1, by omega, by go_num, HOK, hb⟩
        case measure => simp [intOf]; omega
      · have HE := Lib.hid (allB_no (l := l) (List.getElem_mem hlt) hok1)
        generalize l[k] = q at *
        have hq : (q == 0) = false := by simpa using hok1
        go_wp2_with fail
        go_ret
        exact ⟨by rw [HE.out]; rfl, hb⟩
    · have HE := Lib.hid (allB_ok (l := l) (fun t ht => by
        obtain ⟨j, hj, rfl⟩ := List.getElem_of_mem ht
        exact hok.out j hj (by omega)))
      go_wp2_with fail
      go_ret
      exact ⟨by rw [HE.out]; rfl, hb⟩
theorem lAll06_t (b c : Nat) (l : List Int) (w : World) (hl : l.length ≤ 9223372036854775807) (he : Ers w b l) (h : allB l = true) : Calls Tryz.prog 22 #[.slice (some ⟨b, 0, none⟩) l.length c] w fun e w' => e = .returned (.bool true) ∧ Below w.heap.size w w' := by
  have := lAll06_c b c l w hl he
  rwa [h] at this
end Go.Proofs.YtdfnejpfpkaplaaGreatDoor
namespace Go.Proofs.YtdfnejpfpkaplaaGreatDoor
open Go Go.RowKit Nt
set_option maxRecDepth 100000 in
set_option maxHeartbeats 4000000 in
theorem GaussTexts_w (a r : Gt) (s t : ByteArray) (may : Bool) (e0 re : Int) (w : World) (hT : TabT w)
    (h : (may = false ∧ t = ⟨#[]⟩ ∧ e0 = 2) ∨ (may = true ∧ e0 = 0))
    (KS : ∀ w, TabT w → Calls Tryz.prog 14 #[.agg #[.bool a.re.g, .string a.re.s, .int .i64 a.re.x, .bool a.im.g, .string a.im.s, .int .i64 a.im.x]] w fun e w' => e = .returned (.tuple #[.string t, .int .i64 e0]) ∧ Below w.heap.size w w')
    (KR : ∀ w, TabT w → Calls Tryz.prog 15 #[.string s] w fun e w' => e = .returned (.tuple #[.agg #[.bool r.re.g, .string r.re.s, .int .i64 r.re.x, .bool r.im.g, .string r.im.s, .int .i64 r.im.x], .int .i64 re]) ∧ Below w.heap.size w w')
    (KQ : ∀ w, Calls Tryz.prog 16 #[.string s] w fun e w' => e = .returned (.tuple #[.agg #[.bool r.re.g, .string r.re.s, .int .i64 r.re.x, .bool r.im.g, .string r.im.s, .int .i64 r.im.x], .int .i64 re]) ∧ Below w.heap.size w w')
    (KM : ∀ w, Calls Tryz.prog 18 #[.agg #[.bool a.re.g, .string a.re.s, .int .i64 a.re.x, .bool a.im.g, .string a.im.s, .int .i64 a.im.x]] w fun e w' => e = .returned (.bool may) ∧ Below w.heap.size w w')
    (KT : may = true → ∀ w, Calls Tryz.prog 20 #[.agg #[.bool a.re.g, .string a.re.s, .int .i64 a.re.x, .bool a.im.g, .string a.im.s, .int .i64 a.im.x]] w fun e w' => e = .returned (.string t) ∧ Below w.heap.size w w') :
    Calls Tryz.prog 5 #[.agg #[.bool a.re.g, .string a.re.s, .int .i64 a.re.x, .bool a.im.g, .string a.im.s, .int .i64 a.im.x], .string s] w fun e w' => e = .returned (.bool true) ∧ Below w.heap.size w w' := by
  have K1 := Lib.hid KS
  have K2 := Lib.hid KR
  have K3 := Lib.hid KQ
  have K4 := Lib.hid KM
  have K5 := Lib.hid KT
  have K6 : Hid (∀ w, TabT w → Calls Tryz.prog 19 #[] w fun e w' => e = .returned (.bool true) ∧ Below w.heap.size w w') := Lib.hid fun w hT => awake6_c w hT.1
  have K8 := Lib.hid (fun w => lSame6_c r re w)
  have HT := Lib.hid hT
  have HC := Lib.hid h
  clear KS KR KQ KM KT hT h
  have T0 := GB.start w a
  obtain ⟨r0, r1, r2, r3, r4, r5, r6, r7, r8, r9, r10, r11, r12⟩ := T0.2.facts
  go_enter Tryz.func5, Tryz.ntmps5
  go_upto_region 2 with (first | (go_at_call 14; have HK := K1.out _ (HT.out.below T0.1); (with_reducible refine HK.mono ?_); clear HK; rintro ee w1 ⟨rfl, hb⟩; replace T0 := T0.step hb; clear hb r0 r1 r2 r3 r4 r5 r6 r7 r8 r9 r10 r11 r12))
  go_upto_region 3 with (first | (go_at_call 15; have HK := K2.out _ (HT.out.below T0.1); (with_reducible refine HK.mono ?_); clear HK; rintro ee w2 ⟨rfl, hb⟩; replace T0 := (T0.step hb).more (.cells #[.bool r.re.g, .string r.re.s, .int .i64 r.re.x, .bool r.im.g, .string r.im.s, .int .i64 r.im.x] 38); have TA := GB.start w2 r; clear hb))
  generalize w2.alloc (.cells #[.bool r.re.g, .string r.re.s, .int .i64 r.re.x, .bool r.im.g, .string r.im.s, .int .i64 r.im.x] 38) = W2 at *
  go_upto_region 4 with (first | (go_at_call 16; (with_reducible refine (K3.out _).mono ?_); rintro ee w3 ⟨rfl, hb⟩; replace T0 := (T0.step hb).more (.cells #[.bool r.re.g, .string r.re.s, .int .i64 r.re.x, .bool r.im.g, .string r.im.s, .int .i64 r.im.x] 38); replace TA := (TA.step hb).more (.cells #[.bool r.re.g, .string r.re.s, .int .i64 r.re.x, .bool r.im.g, .string r.im.s, .int .i64 r.im.x] 38); have TB := GB.start w3 r; clear hb))
  generalize w3.alloc (.cells #[.bool r.re.g, .string r.re.s, .int .i64 r.re.x, .bool r.im.g, .string r.im.s, .int .i64 r.im.x] 38) = W3 at *
  obtain ⟨p0, p1, p2, p3, p4, p5, p6, p7, p8, p9, p10, p11, p12⟩ := TA.2.facts
  obtain ⟨q0, q1, q2, q3, q4, q5, q6, q7, q8, q9, q10, q11, q12⟩ := TB.2.facts
  go_upto_region 6 with (first | (go_at_call 17; (with_reducible refine (K8.out _).mono ?_); rintro ee w8 ⟨rfl, hb⟩; replace T0 := T0.step hb; clear hb p0 p1 p2 p3 p4 p5 p6 p7 p8 p9 p10 p11 p12 q0 q1 q2 q3 q4 q5 q6 q7 q8 q9 q10 q11 q12))
  clear TA TB
  obtain ⟨r0, r1, r2, r3, r4, r5, r6, r7, r8, r9, r10, r11, r12⟩ := T0.2.facts
  rcases HC.out with ⟨rfl, rfl, rfl⟩ | ⟨rfl, rfl⟩
  · clear K5 HC
    go_wp2_with (first | (go_at_call 18; (with_reducible refine (K4.out _).mono ?_); rintro ee w4 ⟨rfl, hb⟩; replace T0 := T0.step hb; clear hb r0 r1 r2 r3 r4 r5 r6 r7 r8 r9 r10 r11 r12; obtain ⟨r0, r1, r2, r3, r4, r5, r6, r7, r8, r9, r10, r11, r12⟩ := T0.2.facts) | (go_at_call 19; have HK := K6.out _ (HT.out.below T0.1); (with_reducible refine HK.mono ?_); clear HK; rintro ee w9 ⟨rfl, hb⟩; replace T0 := T0.step hb; clear hb))
    go_ret
    exact ⟨rfl, T0.1⟩
  · have K7 := Lib.hid (K5.out rfl)
    clear K5 HC
    go_wp2_with (first | (go_at_call 18; (with_reducible refine (K4.out _).mono ?_); rintro ee w4 ⟨rfl, hb⟩; replace T0 := T0.step hb; clear hb r0 r1 r2 r3 r4 r5 r6 r7 r8 r9 r10 r11 r12; obtain ⟨r0, r1, r2, r3, r4, r5, r6, r7, r8, r9, r10, r11, r12⟩ := T0.2.facts) | (go_at_call 20; (with_reducible refine (K7.out _).mono ?_); rintro ee w4 ⟨rfl, hb⟩; replace T0 := T0.step hb; clear hb r0 r1 r2 r3 r4 r5 r6 r7 r8 r9 r10 r11 r12; obtain ⟨r0, r1, r2, r3, r4, r5, r6, r7, r8, r9, r10, r11, r12⟩ := T0.2.facts) | (go_at_call 19; have HK := K6.out _ (HT.out.below T0.1); (with_reducible refine HK.mono ?_); clear HK; rintro ee w9 ⟨rfl, hb⟩; replace T0 := T0.step hb; clear hb))
    go_ret
    exact ⟨rfl, T0.1⟩
open Classical in
theorem GaussTexts_law (g : Bool) (s1 : ByteArray) (x : Int) (k : Bool) (s2 : ByteArray) (y : Int) (s : ByteArray) (w : World) (h1 : s1.size ≤ 9223372036854775807) (h2 : s2.size ≤ 9223372036854775807) (hz : s.size ≤ 281474976710656) (hT : TabT w) :
    Calls Tryz.prog 5 #[.agg #[.bool g, .string s1, .int .i64 x, .bool k, .string s2, .int .i64 y], .string s] w fun e w' => e = .returned (.bool true) ∧ Below w.heap.size w w' := by
  obtain ⟨m, hm⟩ : ∃ m : Bool, m = true ↔ (⟨g, s1, x⟩ : Dt).Ok := ⟨decide _, decide_eq_true_iff⟩
  obtain ⟨n, hn⟩ : ∃ n : Bool, n = true ↔ (⟨k, s2, y⟩ : Dt).Ok := ⟨decide _, decide_eq_true_iff⟩
  have hs : (⟨⟨g, s1, x⟩, ⟨k, s2, y⟩⟩ : Gt).Small := ⟨h1, h2⟩
  by_cases ha : (⟨⟨g, s1, x⟩, ⟨k, s2, y⟩⟩ : Gt).Ok
  · have hmn : (m && n) = true := by rw [hm.2 ha.1, hn.2 ha.2]; rfl
    exact GaussTexts_w ⟨⟨g, s1, x⟩, ⟨k, s2, y⟩⟩ (rgT s) s _ (m && n) 0 (rgX s) w hT (Or.inr ⟨hmn, rfl⟩) (fun w hT => GShow_ok _ w ha hT) (fun w hT => GRead_c s w hz hT) (fun w => rRead6_c s w hz) (fun w => rMay6_c _ w hs m n hm hn) (fun _ w => rShow6_ok _ w ha)
  · have hmn : (m && n) = false := by
      cases m with
      | false => rfl
      | true => cases n with
        | false => rfl
        | true => exact absurd ⟨hm.1 rfl, hn.1 rfl⟩ ha
    exact GaussTexts_w ⟨⟨g, s1, x⟩, ⟨k, s2, y⟩⟩ (rgT s) s ⟨#[]⟩ (m && n) 2 (rgX s) w hT (Or.inl ⟨hmn, rfl, rfl⟩) (fun w hT => GShow_bad _ w hs ha hT.1) (fun w hT => GRead_c s w hz hT) (fun w => rRead6_c s w hz) (fun w => rMay6_c _ w hs m n hm hn) (fun c => absurd (hmn.symm.trans c) Bool.false_ne_true)
theorem lAll06_two (A c : Nat) (w : World) (h0 : A < w.heap.size) (h1 : w.cell? ⟨A, 0, none⟩ = some (.int .i64 0)) (h2 : w.cell? ⟨A, 1, none⟩ = some (.int .i64 0)) : Calls Tryz.prog 22 #[.slice (some ⟨A, 0, none⟩) 2 c] w fun e w' => e = .returned (.bool true) ∧ Below w.heap.size w w' :=
  lAll06_t A c [0, 0] w (by decide) ⟨h0, fun j hj => by
    have hj2 : j < 2 := hj
    match j, hj2 with
    | 0, _ => exact h1
    | 1, _ => exact h2⟩ (allB_ok (fun t ht => by simpa using ht))
set_option maxRecDepth 100000 in
set_option maxHeartbeats 4000000 in
theorem GaussBack_w (a r : Gt) (s t : ByteArray) (c re : Int) (w : World) (hT : TabT w)
    (KC : ∀ w, TabT w → Calls Tryz.prog 21 #[.agg #[.bool a.re.g, .string a.re.s, .int .i64 a.re.x, .bool a.im.g, .string a.im.s, .int .i64 a.im.x]] w fun e w' => e = .returned (.int .i64 c) ∧ Below w.heap.size w w')
    (K1 : c = 0 → (∀ w, TabT w → Calls Tryz.prog 14 #[.agg #[.bool a.re.g, .string a.re.s, .int .i64 a.re.x, .bool a.im.g, .string a.im.s, .int .i64 a.im.x]] w fun e w' => e = .returned (.tuple #[.string t, .int .i64 0]) ∧ Below w.heap.size w w') ∧ (∀ w, TabT w → Calls Tryz.prog 15 #[.string t] w fun e w' => e = .returned (.tuple #[.agg #[.bool a.re.g, .string a.re.s, .int .i64 a.re.x, .bool a.im.g, .string a.im.s, .int .i64 a.im.x], .int .i64 0]) ∧ Below w.heap.size w w'))
    (KR : ∀ w, TabT w → Calls Tryz.prog 15 #[.string s] w fun e w' => e = .returned (.tuple #[.agg #[.bool r.re.g, .string r.re.s, .int .i64 r.re.x, .bool r.im.g, .string r.im.s, .int .i64 r.im.x], .int .i64 re]) ∧ Below w.heap.size w w')
    (hr : (re = 60 ∧ r = ⟨⟨false, ⟨#[]⟩, 0⟩, ⟨false, ⟨#[]⟩, 0⟩⟩) ∨ (re = 0 ∧ ∀ w, TabT w → Calls Tryz.prog 14 #[.agg #[.bool r.re.g, .string r.re.s, .int .i64 r.re.x, .bool r.im.g, .string r.im.s, .int .i64 r.im.x]] w fun e w' => e = .returned (.tuple #[.string s, .int .i64 0]) ∧ Below w.heap.size w w')) :
    Calls Tryz.prog 6 #[.agg #[.bool a.re.g, .string a.re.s, .int .i64 a.re.x, .bool a.im.g, .string a.im.s, .int .i64 a.im.x], .string s] w fun e w' => e = .returned (.bool true) ∧ Below w.heap.size w w' := by
  have J1 := Lib.hid KC
  have J2 := Lib.hid K1
  have J3 := Lib.hid KR
  have K6 : Hid (∀ w, TabT w → Calls Tryz.prog 19 #[] w fun e w' => e = .returned (.bool true) ∧ Below w.heap.size w w') := Lib.hid fun w hT => awake6_c w hT.1
  have HT := Lib.hid hT
  have HR := Lib.hid hr
  clear KC K1 KR hT hr
  have T0 := GB.start w a
  go_enter Tryz.func6, Tryz.ntmps6
  go_upto_region 3 with (first | (go_at_call 19; have HK := K6.out _ (HT.out.below T0.1); (with_reducible refine HK.mono ?_); clear HK; rintro ee w9 ⟨rfl, hb⟩; replace T0 := T0.step hb; clear hb))
  obtain ⟨r0, r1, r2, r3, r4, r5, r6, r7, r8, r9, r10, r11, r12⟩ := T0.2.facts
  go_upto_if 17 with (first | (go_at_call 21; have HK := J1.out _ (HT.out.below T0.1); (with_reducible refine HK.mono ?_); clear HK; rintro ee w2 ⟨rfl, hb⟩; replace T0 := T0.step hb; clear hb r0 r1 r2 r3 r4 r5 r6 r7 r8 r9 r10 r11 r12))
  go_cut [] (fun wc => GB w a wc)
  case first =>
    by_cases hc : c = 0
    · subst hc
      have J5 := Lib.hid (J2.out rfl).1
      have J6 := Lib.hid (J2.out rfl).2
      obtain ⟨r0, r1, r2, r3, r4, r5, r6, r7, r8, r9, r10, r11, r12⟩ := T0.2.facts
      go_upto_region 5 with (first | (go_at_call 14; have HK := J5.out _ (HT.out.below T0.1); (with_reducible refine HK.mono ?_); clear HK; rintro ee w3 ⟨rfl, hb⟩; replace T0 := T0.step hb; clear hb r0 r1 r2 r3 r4 r5 r6 r7 r8 r9 r10 r11 r12))
      go_upto_region 6 with (first | (go_at_call 15; have HK := J6.out _ (HT.out.below T0.1); (with_reducible refine HK.mono ?_); clear HK; rintro ee w4 ⟨rfl, hb⟩; replace T0 := (T0.step hb).more (.cells #[.bool a.re.g, .string a.re.s, .int .i64 a.re.x, .bool a.im.g, .string a.im.s, .int .i64 a.im.x] 38); have TA := GB.start w4 a; clear hb))
      generalize w4.alloc (.cells #[.bool a.re.g, .string a.re.s, .int .i64 a.re.x, .bool a.im.g, .string a.im.s, .int .i64 a.im.x] 38) = W4 at *
      go_wp2_with fail
      refine (lAll06_two _ _ _ (by simp) (by simp) (by simp)).mono ?_
      rintro ee w5 ⟨rfl, hb⟩
      replace T0 := (T0.more _).step hb
      replace TA := (TA.more _).step hb
      clear hb
      obtain ⟨r0, r1, r2, r3, r4, r5, r6, r7, r8, r9, r10, r11, r12⟩ := T0.2.facts
      obtain ⟨p0, p1, p2, p3, p4, p5, p6, p7, p8, p9, p10, p11, p12⟩ := TA.2.facts
      go_wp2_with fail
      go_meet
      exact T0
    · have q1 : (c == 0) = false := beq_eq_false_iff_ne.2 hc
      go_wp2_with fail
      go_meet
      exact T0
  case rest =>
    clear T0 J1 J2
    have T0 := hcut
    clear hcut
    rcases HR.out with ⟨rfl, rfl⟩ | ⟨rfl, hS⟩
    · clear HR
      go_upto_region 9 with (first | (go_at_call 15; have HK := J3.out _ (HT.out.below T0.1); (with_reducible refine HK.mono ?_); clear HK; rintro ee w5 ⟨rfl, hb⟩; replace T0 := (T0.step hb).more (.cells #[.bool false, .string ⟨#[]⟩, .int .i64 0, .bool false, .string ⟨#[]⟩, .int .i64 0] 38); have TA := GB.start w5 ⟨⟨false, ⟨#[]⟩, 0⟩, ⟨false, ⟨#[]⟩, 0⟩⟩; clear hb))
      go_wp2_with fail
      go_ret
      exact ⟨rfl, T0.1⟩
    · have J7 := Lib.hid hS
      clear HR hS
      go_upto_region 9 with (first | (go_at_call 15; have HK := J3.out _ (HT.out.below T0.1); (with_reducible refine HK.mono ?_); clear HK; rintro ee w5 ⟨rfl, hb⟩; replace T0 := (T0.step hb).more (.cells #[.bool r.re.g, .string r.re.s, .int .i64 r.re.x, .bool r.im.g, .string r.im.s, .int .i64 r.im.x] 38); have TA := GB.start w5 r; clear hb))
      generalize w5.alloc (.cells #[.bool r.re.g, .string r.re.s, .int .i64 r.re.x, .bool r.im.g, .string r.im.s, .int .i64 r.im.x] 38) = W5 at *
      obtain ⟨p0, p1, p2, p3, p4, p5, p6, p7, p8, p9, p10, p11, p12⟩ := TA.2.facts
      go_wp2_with (first | (go_at_call 14; have HK := J7.out _ (HT.out.below T0.1); (with_reducible refine HK.mono ?_); clear HK; rintro ee w6 ⟨rfl, hb⟩; replace T0 := T0.step hb; clear hb p0 p1 p2 p3 p4 p5 p6 p7 p8 p9 p10 p11 p12))
      go_ret
      exact ⟨rfl, T0.1⟩
theorem no44 {a : Dt} (h : a.Ok) : NoB 44 (shT a) := by
  obtain ⟨g, s, x⟩ := a
  have hd : ∀ n : Nat, NoB 44 (decS n) := fun n => dig_no (pre_of_dec n).1.2.1 (by decide)
  have happ : ∀ {u v : ByteArray}, NoB 44 u → NoB 44 v → NoB 44 (u ++ v) := fun {u v} hu hv k hk => by
    by_cases c : k < u.size
    · rw [ByteArray.getElem_append_left c]; exact hu k c
    · rw [ByteArray.getElem_append_right (Nat.le_of_not_lt c)]; exact hv _ _
  have h1 : ∀ c : UInt8, c ≠ 44 → NoB 44 ⟨#[c]⟩ := fun c hc k hk => by
    have hk1 : k < 1 := hk
    have : k = 0 := by omega
    subst this; exact hc
  rcases h with ⟨rfl, rfl, rfl⟩ | ⟨n, hf, ho, rfl, b1, b2⟩
  · rw [shT_zero]; exact h1 48 (by decide)
  · rw [shT_num (odd_ne ho)]
    have hi : NoB 44 (iS x) := by
      by_cases hx : x < 0
      · rw [iS_neg hx]; exact happ (h1 45 (by decide)) (hd _)
      · rw [iS_pos (by omega)]; exact hd _
    by_cases hg : g = true
    · rw [txD_t hg]; exact happ (happ (h1 45 (by decide)) (hd n)) (happ (h1 112 (by decide)) hi)
    · rw [txD_f hg]; exact happ (hd n) (happ (h1 112 (by decide)) hi)
theorem rg_shG {a : Gt} (h : a.Ok) : rgT (shG a) = a ∧ rgX (shG a) = 0 := by
  obtain ⟨e1, e2, e3⟩ := hasB_mid (v := shT a.im) (no44 h.1)
  have eA : rgA (shG a) = shT a.re := by rw [← rgA_def, shG_def, ByteArray.append_assoc]; exact e2
  have eB : rgB (shG a) = shT a.im := by rw [← rgB_def, shG_def, ByteArray.append_assoc]; exact e3
  have hx : ryX (rgA (shG a)) = 0 ∧ ryX (rgB (shG a)) = 0 := by rw [eA, eB]; exact ⟨(ry_shT h.1).2, (ry_shT h.2).2⟩
  refine ⟨?_, (rg_ok hx).2⟩
  rw [(rg_ok hx).1, eA, eB, (ry_shT h.1).1, (ry_shT h.2).1]
theorem shG_rg {s : ByteArray} (h : rgX s = 0) : shG (rgT s) = s := by
  by_cases hx : ryX (rgA s) = 0 ∧ ryX (rgB s) = 0
  · have hh : hasB 44 s = true := by
      cases hb : hasB 44 s with
      | true => rfl
      | false =>
        have e : rgB s = ⟨#[]⟩ := by rw [← rgB_def]; unfold tailB; rw [if_neg (by rw [hb]; exact Bool.false_ne_true)]
        have h2 : (30 : Int) = 0 := ry_empty.symm.trans ((congrArg ryX e).symm.trans hx.2)
        omega
    have hc := (cut_split 44 s).1 hh
    rw [rgA_def, rgB_def] at hc
    rw [(rg_ok hx).1, shG_def]
    show shT (ryT (rgA s)) ++ ⟨#[44]⟩ ++ shT (ryT (rgB s)) = s
    rw [shT_ry hx.1, shT_ry hx.2, ByteArray.append_assoc]
    exact hc
  · rw [(rg_no hx).2] at h; exact absurd h (by decide)
theorem GaussBack_law (g : Bool) (s1 : ByteArray) (x : Int) (k : Bool) (s2 : ByteArray) (y : Int) (s : ByteArray) (w : World) (h1 : s1.size ≤ 9223372036854775807) (h2 : s2.size ≤ 9223372036854775807) (hz : s.size ≤ 281474976710656) (hT : TabT w) :
    Calls Tryz.prog 6 #[.agg #[.bool g, .string s1, .int .i64 x, .bool k, .string s2, .int .i64 y], .string s] w fun e w' => e = .returned (.bool true) ∧ Below w.heap.size w w' := by
  refine GaussBack_w ⟨⟨g, s1, x⟩, ⟨k, s2, y⟩⟩ (rgT s) s (shG ⟨⟨g, s1, x⟩, ⟨k, s2, y⟩⟩) (gE ⟨⟨g, s1, x⟩, ⟨k, s2, y⟩⟩) (rgX s) w hT (fun w hT => GCheck_c _ w h1 h2 hT.1) ?_ (fun w hT => GRead_c s w hz hT) ?_
  · intro hc
    have ha : (⟨⟨g, s1, x⟩, ⟨k, s2, y⟩⟩ : Gt).Ok := Classical.byContradiction fun c => by
      rw [gE_no c] at hc
      exact absurd hc (by decide)
    refine ⟨fun w hT => GShow_ok _ w ha hT, fun w hT => ?_⟩
    have hz2 : (shG ⟨⟨g, s1, x⟩, ⟨k, s2, y⟩⟩).size ≤ 281474976710656 := by
      have z1 := shT_small ha.1
      have z2 := shT_small ha.2
      have e44 : (ByteArray.mk #[44]).size = 1 := rfl
      rw [shG_def, ByteArray.size_append, ByteArray.size_append]; omega
    have h := GRead_c (shG ⟨⟨g, s1, x⟩, ⟨k, s2, y⟩⟩) w hz2 hT
    rwa [(rg_shG ha).1, (rg_shG ha).2] at h
  · by_cases hx : ryX (rgA s) = 0 ∧ ryX (rgB s) = 0
    · have h0 := (rg_ok hx).2
      refine Or.inr ⟨h0, fun w hT => ?_⟩
      have h := GShow_ok (rgT s) w (rgT_ok s) hT
      rwa [shG_rg h0] at h
    · exact Or.inl ⟨(rg_no hx).2, (rg_no hx).1⟩
end Go.Proofs.YtdfnejpfpkaplaaGreatDoor
namespace Go.Proofs.YtdfnejpfpkaplaaGreatDoor
open Go.ChangeShapes Go.WideShapes Go.ChangeAt Go.RowKit Go.Joins Go.Deep Go.ChangeMaps
variable {H : Type} {enc : TypeId × Value → H}
def gaussD (H : Type) (g : Bool) (s : ByteArray) (x : Int) (k : Bool) (r : ByteArray) (y : Int) : DataW H := .agg [dyadD H g s x, dyadD H k r y]
theorem array6 {α : Type} {cs : Array α} (h : cs.size = 6) : ∃ c0 c1 c2 c3 c4 c5, cs = #[c0, c1, c2, c3, c4, c5] := by
  obtain ⟨l⟩ := cs
  match l, h with
  | [c0, c1, c2, c3, c4, c5], _ => exact ⟨c0, c1, c2, c3, c4, c5, rfl⟩
theorem cDyad : Tryz.prog.cellsOf 24 = 3 := by kernel_rfl
theorem cGauss : Tryz.prog.cellsOf 38 = 6 := by kernel_rfl
theorem cBool1 : Tryz.prog.cellsOf 4 = 1 := by kernel_rfl
theorem cNat1 : Tryz.prog.cellsOf 22 = 1 := by kernel_rfl
theorem cInt1 : Tryz.prog.cellsOf 3 = 1 := by kernel_rfl
set_option maxRecDepth 100000 in
theorem trod_dyad {w : World} {base : Nat} {spare : Nat → Bool} {held : Bool} {n : Nat} {c0 c1 c2 : Value} {y : DataW H × List MemPlace} (h : DataW.trod enc Tryz.prog w base spare held n 24 [c0, c1, c2] = some y) :
    ∃ (g : Bool) (s : ByteArray) (x : Int), c0 = .bool g ∧ c1 = .string s ∧ c2 = .int .i64 x ∧ y = (dyadD H g s x, []) ∧ s.size ≤ maxLen ∧ (Lit.int .i64 x).wf = true := by
  obtain ⟨y0, y1, y2, m, rfl, _, h0, h1, h2⟩ := trod_struct3 Tryz.underlying24 h
  simp only [cBool1, cNat1, cInt1, List.drop_zero, List.take_succ_cons, List.take_zero, List.drop_succ_cons] at h0 h1 h2
  obtain ⟨g, e0, rfl⟩ := DataW.trod_bool Tryz.underlying4 h0
  obtain ⟨s, e1, rfl, hs⟩ := DataW.trod_string Tryz.underlying22 h1
  obtain ⟨x, e2, rfl, wx⟩ := DataW.trod_int Tryz.underlying3 h2
  simp at e0 e1 e2
  subst e0 e1 e2
  exact ⟨g, s, x, rfl, rfl, rfl, rfl, hs, wx⟩
set_option maxRecDepth 100000 in
theorem open_gauss {w : World} {base : Nat} {spare : Nat → Bool} {held : Bool} {r : Go.Reach} {b0 : Nat} {v : Value} {d : DataW H} {p : List MemPlace}
    (hv : Value.okWide Tryz.prog w r b0 38 v) (h : DataW.Trod enc Tryz.prog w base spare held 38 v d p) :
    ∃ (g : Bool) (s : ByteArray) (x : Int) (k : Bool) (q : ByteArray) (y : Int), v = .agg #[.bool g, .string s, .int .i64 x, .bool k, .string q, .int .i64 y] ∧ d = gaussD H g s x k q y ∧ p = [] ∧ (s.size ≤ maxLen ∧ (Lit.int .i64 x).wf = true) ∧ (q.size ≤ maxLen ∧ (Lit.int .i64 y).wf = true) := by
  obtain ⟨cs, rfl, hsz⟩ := okWide_struct Tryz.underlying38 hv
  obtain ⟨c0, c1, c2, c3, c4, c5, rfl⟩ := array6 (hsz.trans cGauss)
  obtain ⟨fuel, hf⟩ := h
  obtain ⟨y0, y1, n, hx, _, h0, h1⟩ := trod_struct2 Tryz.underlying38 hf
  simp only [Value.cells, cDyad, List.drop_zero, List.take_succ_cons, List.take_zero, List.drop_succ_cons] at h0 h1
  obtain ⟨g, s, x, rfl, rfl, rfl, rfl, hs, wx⟩ := trod_dyad h0
  obtain ⟨k, q, y, rfl, rfl, rfl, rfl, hq, wy⟩ := trod_dyad h1
  simp only [Prod.mk.injEq] at hx
  obtain ⟨hd, hp⟩ := hx
  exact ⟨g, s, x, k, q, y, rfl, hd, hp, ⟨hs, wx⟩, ⟨hq, wy⟩⟩
theorem shut_trod_dyad {W' : World} {b : Nat} {sp : Nat → Bool} {hd : Bool} {g : Bool} {s : ByteArray} {x : Int} (hs : s.size ≤ maxLen) (wx : (Lit.int .i64 x).wf = true) (n : Nat) :
    DataW.trod enc Tryz.prog W' b sp hd (n + 2) 24 [.bool g, .string s, .int .i64 x] = some (dyadD H g s x, []) := by
  have := trod_struct3_mk (enc := enc) (w := W') (base := b) (spare := sp) (held := hd) (n := n + 1) (cs := [.bool g, .string s, .int .i64 x]) (y0 := (.lit (.bool g), [])) (y1 := (.lit (.string s.data.toList), [])) (y2 := (.lit (.int .i64 x), [])) Tryz.underlying24 (by rw [cDyad]; rfl)
    (by simp [cBool1, DataW.trod, Tryz.underlying4]) (by simp [cNat1, DataW.trod, Tryz.underlying22, hs]) (by simp [cInt1, DataW.trod, Tryz.underlying3, wx])
  simpa [dyadD] using this
set_option maxRecDepth 100000 in
theorem shut_gauss {W' : World} {b : Nat} {sp : Nat → Bool} {hd : Bool} {g : Bool} {s : ByteArray} {x : Int} {k : Bool} {q : ByteArray} {y : Int} (h1 : s.size ≤ maxLen ∧ (Lit.int .i64 x).wf = true) (h2 : q.size ≤ maxLen ∧ (Lit.int .i64 y).wf = true) :
    DataW.Trod enc Tryz.prog W' b sp hd 38 (.agg #[.bool g, .string s, .int .i64 x, .bool k, .string q, .int .i64 y]) (gaussD H g s x k q y) [] := by
  refine ⟨3, ?_⟩
  have := trod_struct2_mk (enc := enc) (w := W') (base := b) (spare := sp) (held := hd) (n := 2) (cs := [.bool g, .string s, .int .i64 x, .bool k, .string q, .int .i64 y]) (y0 := (dyadD H g s x, [])) (y1 := (dyadD H k q y, [])) Tryz.underlying38 (by rw [cGauss]; rfl)
    (by simp only [cDyad, List.drop_zero, List.take_succ_cons, List.take_zero, List.drop_succ_cons]; exact shut_trod_dyad h1.1 h1.2 0) (by simp only [cDyad, List.drop_zero, List.take_succ_cons, List.take_zero, List.drop_succ_cons]; exact shut_trod_dyad h2.1 h2.2 0)
  simpa [gaussD, Value.cells] using this
end Go.Proofs.YtdfnejpfpkaplaaGreatDoor
