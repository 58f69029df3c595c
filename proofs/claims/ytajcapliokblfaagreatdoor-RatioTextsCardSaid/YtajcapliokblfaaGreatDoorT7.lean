/- Texts put together: P49 P50 P51 P52 P53 P54 P55 P56 P57 P58 P59 P60 P60a P60b P60c P61. -/
import Derived.Test.YtajcapliokblfaaGreatDoorT6
import Derived.ScopeJumps
import Derived.WalkMore
import Derived.Test.YtajcapliokblfaaGreatDoorT3
set_option linter.unusedSimpArgs false
set_option linter.unusedVariables false
namespace Go.Proofs.YtajcapliokblfaaGreatDoor
open Go Go.RowKit Nt
theorem BR.low {w : World} {l : List C3} {W : World} (h : BR w l W) : Below w.heap.size w W := h.1
set_option maxRecDepth 100000 in
set_option maxHeartbeats 4000000 in
theorem rR4_1f (s u A B a b x : ByteArray) (g : Bool) (ix : Nat) (ea eb : Int) (w : World) (hs : s.size ≤ 5000) (hu : u.size ≤ 5000)
    (way : (¬ 0 < s.size ∧ g = false ∧ u = s) ∨ (0 < s.size ∧ g = false ∧ u = s ∧ ∀ h : 0 < s.size, ((s[0].toNat : Int) == 45) = false) ∨ (0 < s.size ∧ g = true ∧ (∀ w, (Instr.slice 9 (.string s) (some (.int .i64 1)) none none).run Tryz.prog w = .ok (.string u) w) ∧ ∀ h : 0 < s.size, ((s[0].toNat : Int) == 45) = true))
    (hix : ix ≤ u.size) (hne : ∀ k (h : k < u.size), k < ix → ((u[k].toNat : Int) == 47) = false) (heq : ∀ h : ix < u.size, ((u[ix].toNat : Int) == 47) = true) (r2 : ∀ w, (Instr.slice 9 (.string u) none (some (.int .i64 (ix : Int))) none).run Tryz.prog w = .ok (.string A) w)
    (hp : ix = u.size)
    (hea : ¬ ea = 0)
    (KA : ∀ w, Calls Tryz.prog 101 #[.string A] w fun e w' => e = .returned (.tuple #[.string a, .int .i64 ea]) ∧ Below w.heap.size w w') :
    Calls Tryz.prog 46 #[.string s] w fun e w' => e = .returned (.tuple #[.agg #[.bool false, .string ⟨#[]⟩, .string ⟨#[]⟩], .int .i64 40]) ∧ Below w.heap.size w w' := by
  have K1 := Lib.hid KA
  have HN := Lib.hid hne
  have HE := Lib.hid heq
  clear KA hne heq
  have q1 : (ea == 0) = false := beq_eq_false_iff_ne.2 hea
  have q2 : (ea != 0) = true := by rw [bne, q1]; rfl
  have T0 := BR.start0 w false (.string ⟨#[]⟩) (.string ⟨#[]⟩) 24
  rcases way with ⟨h0, rfl, rfl⟩ | ⟨h0, rfl, rfl, h1⟩ | ⟨h0, rfl, r1, h1⟩
  case' inr.inl => have h1 := h1 h0
  case' inr.inr => have h1 := h1 h0
  all_goals
    go_enter Tryz.func46, Tryz.ntmps46
    go_wp2_with fail
    go_loop [6] (fun i => ∃ k : Nat, k ≤ ix ∧ i = .int .i64 k) (fun i => ix - (intOf i).toNat)
    case atStart => exact ⟨0, Nat.zero_le _, rfl⟩
    case round =>
      obtain ⟨k, hk, rfl⟩ := hrel
      by_cases hlt : k < ix
      · first
        | (exfalso; omega)
        | (have hku : k < u.size := by omega
           have e1 := HN.out k hku hlt
           clear hp
           go_wp2_with fail
           go_round
           case rel => exact ⟨k + 1, by omega, by go_num⟩
           case measure => simp [intOf]; omega)
      · obtain rfl : k = ix := by omega
        clear hlt hk
        have e1 : ¬ k < u.size := by omega
        clear hp
        go_wp2_with (first | (go_at_call 101; (with_reducible refine (K1.out _).mono ?_); rintro ee w1 ⟨rfl, hb⟩; replace T0 := T0.step hb; clear hb; obtain ⟨p0, p1, p2, p3, p4, p5, p6⟩ := T0.res0))
        have hfin := fun x y z o => Below.alloc (below_put3 T0.1 (Nat.le_refl _) x y z) (by simpa using T0.1.size) o
        (refine bodyPost_ret (v := .tuple #[.agg #[.bool false, .string ⟨#[]⟩, .string ⟨#[]⟩], .int .i64 40]) (by simp [results, Tryz.results46, go_sem, p0, p1, p2, p3, p4, p5, p6]) rfl ⟨rfl, hfin _ _ _ _⟩)
set_option maxRecDepth 100000 in
set_option maxHeartbeats 4000000 in
theorem rR4_1t (s u A B a b x : ByteArray) (g : Bool) (ix : Nat) (ea eb : Int) (w : World) (hs : s.size ≤ 5000) (hu : u.size ≤ 5000)
    (way : (¬ 0 < s.size ∧ g = false ∧ u = s) ∨ (0 < s.size ∧ g = false ∧ u = s ∧ ∀ h : 0 < s.size, ((s[0].toNat : Int) == 45) = false) ∨ (0 < s.size ∧ g = true ∧ (∀ w, (Instr.slice 9 (.string s) (some (.int .i64 1)) none none).run Tryz.prog w = .ok (.string u) w) ∧ ∀ h : 0 < s.size, ((s[0].toNat : Int) == 45) = true))
    (hix : ix ≤ u.size) (hne : ∀ k (h : k < u.size), k < ix → ((u[k].toNat : Int) == 47) = false) (heq : ∀ h : ix < u.size, ((u[ix].toNat : Int) == 47) = true) (r2 : ∀ w, (Instr.slice 9 (.string u) none (some (.int .i64 (ix : Int))) none).run Tryz.prog w = .ok (.string A) w) (r3 : ∀ w, (Instr.slice 9 (.string u) (some (.int .i64 ((ix : Int) + 1))) none none).run Tryz.prog w = .ok (.string B) w)
    (hp : ix < u.size)
    (hea : ¬ ea = 0)
    (KA : ∀ w, Calls Tryz.prog 101 #[.string A] w fun e w' => e = .returned (.tuple #[.string a, .int .i64 ea]) ∧ Below w.heap.size w w')
    (KB : ∀ w, Calls Tryz.prog 101 #[.string B] w fun e w' => e = .returned (.tuple #[.string b, .int .i64 eb]) ∧ Below w.heap.size w w') :
    Calls Tryz.prog 46 #[.string s] w fun e w' => e = .returned (.tuple #[.agg #[.bool false, .string ⟨#[]⟩, .string ⟨#[]⟩], .int .i64 40]) ∧ Below w.heap.size w w' := by
  have K1 := Lib.hid KA
  have K2 := Lib.hid KB
  have HN := Lib.hid hne
  have HE := Lib.hid heq
  clear KA KB hne heq
  have q1 : (ea == 0) = false := beq_eq_false_iff_ne.2 hea
  have q2 : (ea != 0) = true := by rw [bne, q1]; rfl
  have T0 := BR.start0 w false (.string ⟨#[]⟩) (.string ⟨#[]⟩) 24
  rcases way with ⟨h0, rfl, rfl⟩ | ⟨h0, rfl, rfl, h1⟩ | ⟨h0, rfl, r1, h1⟩
  · exact absurd hp (by omega)
  case' inr.inl => have h1 := h1 h0
  case' inr.inr => have h1 := h1 h0
  all_goals
    go_enter Tryz.func46, Tryz.ntmps46
    go_wp2_with fail
    go_loop [6] (fun i => ∃ k : Nat, k ≤ ix ∧ i = .int .i64 k) (fun i => ix - (intOf i).toNat)
    case atStart => exact ⟨0, Nat.zero_le _, rfl⟩
    case round =>
      obtain ⟨k, hk, rfl⟩ := hrel
      by_cases hlt : k < ix
      · first
        | (exfalso; omega)
        | (have hku : k < u.size := by omega
           have e1 := HN.out k hku hlt
           go_wp2_with fail
           go_round
           case rel => exact ⟨k + 1, by omega, by go_num⟩
           case measure => simp [intOf]; omega)
      · obtain rfl : k = ix := by omega
        clear hlt hk
        have e1 := HE.out hp
        go_wp2_with (first | (go_at_call 101; (with_reducible refine (K1.out _).mono ?_); rintro ee w1 ⟨rfl, hb⟩; replace T0 := T0.step hb; clear hb) | (go_at_call 101; (with_reducible refine (K2.out _).mono ?_); rintro ee w1 ⟨rfl, hb⟩; replace T0 := T0.step hb; clear hb; obtain ⟨p0, p1, p2, p3, p4, p5, p6⟩ := T0.res0))
        have hfin := fun x y z o => Below.alloc (below_put3 T0.1 (Nat.le_refl _) x y z) (by simpa using T0.1.size) o
        (refine bodyPost_ret (v := .tuple #[.agg #[.bool false, .string ⟨#[]⟩, .string ⟨#[]⟩], .int .i64 40]) (by simp [results, Tryz.results46, go_sem, p0, p1, p2, p3, p4, p5, p6]) rfl ⟨rfl, hfin _ _ _ _⟩)
set_option maxRecDepth 100000 in
set_option maxHeartbeats 4000000 in
theorem rR4_4t (s u A B a b x : ByteArray) (g : Bool) (ix : Nat) (ea eb : Int) (w : World) (hs : s.size ≤ 5000) (hu : u.size ≤ 5000)
    (way : (¬ 0 < s.size ∧ g = false ∧ u = s) ∨ (0 < s.size ∧ g = false ∧ u = s ∧ ∀ h : 0 < s.size, ((s[0].toNat : Int) == 45) = false) ∨ (0 < s.size ∧ g = true ∧ (∀ w, (Instr.slice 9 (.string s) (some (.int .i64 1)) none none).run Tryz.prog w = .ok (.string u) w) ∧ ∀ h : 0 < s.size, ((s[0].toNat : Int) == 45) = true))
    (hix : ix ≤ u.size) (hne : ∀ k (h : k < u.size), k < ix → ((u[k].toNat : Int) == 47) = false) (heq : ∀ h : ix < u.size, ((u[ix].toNat : Int) == 47) = true) (r2 : ∀ w, (Instr.slice 9 (.string u) none (some (.int .i64 (ix : Int))) none).run Tryz.prog w = .ok (.string A) w) (r3 : ∀ w, (Instr.slice 9 (.string u) (some (.int .i64 ((ix : Int) + 1))) none none).run Tryz.prog w = .ok (.string B) w)
    (hp : ix < u.size)
    (heb : ¬ eb = 0)
    (KA : ∀ w, Calls Tryz.prog 101 #[.string A] w fun e w' => e = .returned (.tuple #[.string a, .int .i64 0]) ∧ Below w.heap.size w w')
    (KB : ∀ w, Calls Tryz.prog 101 #[.string B] w fun e w' => e = .returned (.tuple #[.string b, .int .i64 eb]) ∧ Below w.heap.size w w') :
    Calls Tryz.prog 46 #[.string s] w fun e w' => e = .returned (.tuple #[.agg #[.bool false, .string ⟨#[]⟩, .string ⟨#[]⟩], .int .i64 40]) ∧ Below w.heap.size w w' := by
  have K1 := Lib.hid KA
  have K2 := Lib.hid KB
  have HN := Lib.hid hne
  have HE := Lib.hid heq
  clear KA KB hne heq
  have q1 : (eb == 0) = false := beq_eq_false_iff_ne.2 heb
  have q2 : (eb != 0) = true := by rw [bne, q1]; rfl
  have T0 := BR.start0 w false (.string ⟨#[]⟩) (.string ⟨#[]⟩) 24
  rcases way with ⟨h0, rfl, rfl⟩ | ⟨h0, rfl, rfl, h1⟩ | ⟨h0, rfl, r1, h1⟩
  · exact absurd hp (by omega)
  case' inr.inl => have h1 := h1 h0
  case' inr.inr => have h1 := h1 h0
  all_goals
    go_enter Tryz.func46, Tryz.ntmps46
    go_wp2_with fail
    go_loop [6] (fun i => ∃ k : Nat, k ≤ ix ∧ i = .int .i64 k) (fun i => ix - (intOf i).toNat)
    case atStart => exact ⟨0, Nat.zero_le _, rfl⟩
    case round =>
      obtain ⟨k, hk, rfl⟩ := hrel
      by_cases hlt : k < ix
      · first
        | (exfalso; omega)
        | (have hku : k < u.size := by omega
           have e1 := HN.out k hku hlt
           go_wp2_with fail
           go_round
           case rel => exact ⟨k + 1, by omega, by go_num⟩
           case measure => simp [intOf]; omega)
      · obtain rfl : k = ix := by omega
        clear hlt hk
        have e1 := HE.out hp
        go_wp2_with (first | (go_at_call 101; (with_reducible refine (K1.out _).mono ?_); rintro ee w1 ⟨rfl, hb⟩; replace T0 := T0.step hb; clear hb) | (go_at_call 101; (with_reducible refine (K2.out _).mono ?_); rintro ee w1 ⟨rfl, hb⟩; replace T0 := T0.step hb; clear hb; obtain ⟨p0, p1, p2, p3, p4, p5, p6⟩ := T0.res0))
        have hfin := fun x y z o => Below.alloc (below_put3 T0.1 (Nat.le_refl _) x y z) (by simpa using T0.1.size) o
        (refine bodyPost_ret (v := .tuple #[.agg #[.bool false, .string ⟨#[]⟩, .string ⟨#[]⟩], .int .i64 40]) (by simp [results, Tryz.results46, go_sem, p0, p1, p2, p3, p4, p5, p6]) rfl ⟨rfl, hfin _ _ _ _⟩)
set_option maxRecDepth 100000 in
set_option maxHeartbeats 4000000 in
theorem rR4_2f (s u A B a b x : ByteArray) (g : Bool) (ix : Nat) (ea eb : Int) (w : World) (hs : s.size ≤ 5000) (hu : u.size ≤ 5000)
    (way : (¬ 0 < s.size ∧ g = false ∧ u = s) ∨ (0 < s.size ∧ g = false ∧ u = s ∧ ∀ h : 0 < s.size, ((s[0].toNat : Int) == 45) = false) ∨ (0 < s.size ∧ g = true ∧ (∀ w, (Instr.slice 9 (.string s) (some (.int .i64 1)) none none).run Tryz.prog w = .ok (.string u) w) ∧ ∀ h : 0 < s.size, ((s[0].toNat : Int) == 45) = true))
    (hix : ix ≤ u.size) (hne : ∀ k (h : k < u.size), k < ix → ((u[k].toNat : Int) == 47) = false) (heq : ∀ h : ix < u.size, ((u[ix].toNat : Int) == 47) = true) (r2 : ∀ w, (Instr.slice 9 (.string u) none (some (.int .i64 (ix : Int))) none).run Tryz.prog w = .ok (.string A) w)
    (hp : ix = u.size)
    (KA : ∀ w, Calls Tryz.prog 101 #[.string A] w fun e w' => e = .returned (.tuple #[.string a, .int .i64 0]) ∧ Below w.heap.size w w')
    (KM : ∀ w, Calls Tryz.prog 19 #[.agg #[.bool g, .string a, .string ⟨#[1]⟩]] w fun e w' => e = .returned (.bool false) ∧ Below w.heap.size w w') :
    Calls Tryz.prog 46 #[.string s] w fun e w' => e = .returned (.tuple #[.agg #[.bool false, .string ⟨#[]⟩, .string ⟨#[]⟩], .int .i64 40]) ∧ Below w.heap.size w w' := by
  have K1 := Lib.hid KA
  have K3 := Lib.hid KM
  have HN := Lib.hid hne
  have HE := Lib.hid heq
  clear KA KM hne heq
  have T0 := BR.start0 w false (.string ⟨#[]⟩) (.string ⟨#[]⟩) 24
  rcases way with ⟨h0, rfl, rfl⟩ | ⟨h0, rfl, rfl, h1⟩ | ⟨h0, rfl, r1, h1⟩
  case' inr.inl => have h1 := h1 h0
  case' inr.inr => have h1 := h1 h0
  all_goals
    go_enter Tryz.func46, Tryz.ntmps46
    go_wp2_with fail
    go_loop [6] (fun i => ∃ k : Nat, k ≤ ix ∧ i = .int .i64 k) (fun i => ix - (intOf i).toNat)
    case atStart => exact ⟨0, Nat.zero_le _, rfl⟩
    case round =>
      obtain ⟨k, hk, rfl⟩ := hrel
      by_cases hlt : k < ix
      · first
        | (exfalso; omega)
        | (have hku : k < u.size := by omega
           have e1 := HN.out k hku hlt
           clear hp
           go_wp2_with fail
           go_round
           case rel => exact ⟨k + 1, by omega, by go_num⟩
           case measure => simp [intOf]; omega)
      · obtain rfl : k = ix := by omega
        clear hlt hk
        have e1 : ¬ k < u.size := by omega
        clear hp
        go_wp2_with (first | (go_at_call 101; (with_reducible refine (K1.out _).mono ?_); rintro ee w1 ⟨rfl, hb⟩; replace T0 := T0.step hb; clear hb) | (go_at_call 19; (with_reducible refine (K3.out _).mono ?_); rintro ee w2 ⟨rfl, hb⟩; have TX := (Bx3.new w1 _ _ _ _).step hb; replace T0 := (T0.more _).step hb; clear hb; obtain ⟨q0, q1, q2, q3, q4, q5, q6⟩ := TX.facts; obtain ⟨p0, p1, p2, p3, p4, p5, p6⟩ := T0.res0))
        have hfin := below_put3 T0.1 (Nat.le_refl _)
        (refine bodyPost_ret (v := .tuple #[.agg #[.bool false, .string ⟨#[]⟩, .string ⟨#[]⟩], .int .i64 40]) (by simp [results, Tryz.results46, go_sem, p0, p1, p2, p3, p4, p5, p6]) rfl ⟨rfl, hfin _ _ _⟩)
set_option maxRecDepth 100000 in
set_option maxHeartbeats 4000000 in
theorem rR4_2t (s u A B a b x : ByteArray) (g : Bool) (ix : Nat) (ea eb : Int) (w : World) (hs : s.size ≤ 5000) (hu : u.size ≤ 5000)
    (way : (¬ 0 < s.size ∧ g = false ∧ u = s) ∨ (0 < s.size ∧ g = false ∧ u = s ∧ ∀ h : 0 < s.size, ((s[0].toNat : Int) == 45) = false) ∨ (0 < s.size ∧ g = true ∧ (∀ w, (Instr.slice 9 (.string s) (some (.int .i64 1)) none none).run Tryz.prog w = .ok (.string u) w) ∧ ∀ h : 0 < s.size, ((s[0].toNat : Int) == 45) = true))
    (hix : ix ≤ u.size) (hne : ∀ k (h : k < u.size), k < ix → ((u[k].toNat : Int) == 47) = false) (heq : ∀ h : ix < u.size, ((u[ix].toNat : Int) == 47) = true) (r2 : ∀ w, (Instr.slice 9 (.string u) none (some (.int .i64 (ix : Int))) none).run Tryz.prog w = .ok (.string A) w) (r3 : ∀ w, (Instr.slice 9 (.string u) (some (.int .i64 ((ix : Int) + 1))) none none).run Tryz.prog w = .ok (.string B) w)
    (hp : ix < u.size)
    (KA : ∀ w, Calls Tryz.prog 101 #[.string A] w fun e w' => e = .returned (.tuple #[.string a, .int .i64 0]) ∧ Below w.heap.size w w')
    (KB : ∀ w, Calls Tryz.prog 101 #[.string B] w fun e w' => e = .returned (.tuple #[.string b, .int .i64 0]) ∧ Below w.heap.size w w')
    (KM : ∀ w, Calls Tryz.prog 19 #[.agg #[.bool g, .string a, .string b]] w fun e w' => e = .returned (.bool false) ∧ Below w.heap.size w w') :
    Calls Tryz.prog 46 #[.string s] w fun e w' => e = .returned (.tuple #[.agg #[.bool false, .string ⟨#[]⟩, .string ⟨#[]⟩], .int .i64 40]) ∧ Below w.heap.size w w' := by
  have K1 := Lib.hid KA
  have K2 := Lib.hid KB
  have K3 := Lib.hid KM
  have HN := Lib.hid hne
  have HE := Lib.hid heq
  clear KA KB KM hne heq
  have T0 := BR.start0 w false (.string ⟨#[]⟩) (.string ⟨#[]⟩) 24
  rcases way with ⟨h0, rfl, rfl⟩ | ⟨h0, rfl, rfl, h1⟩ | ⟨h0, rfl, r1, h1⟩
  · exact absurd hp (by omega)
  case' inr.inl => have h1 := h1 h0
  case' inr.inr => have h1 := h1 h0
  all_goals
    go_enter Tryz.func46, Tryz.ntmps46
    go_wp2_with fail
    go_loop [6] (fun i => ∃ k : Nat, k ≤ ix ∧ i = .int .i64 k) (fun i => ix - (intOf i).toNat)
    case atStart => exact ⟨0, Nat.zero_le _, rfl⟩
    case round =>
      obtain ⟨k, hk, rfl⟩ := hrel
      by_cases hlt : k < ix
      · first
        | (exfalso; omega)
        | (have hku : k < u.size := by omega
           have e1 := HN.out k hku hlt
           go_wp2_with fail
           go_round
           case rel => exact ⟨k + 1, by omega, by go_num⟩
           case measure => simp [intOf]; omega)
      · obtain rfl : k = ix := by omega
        clear hlt hk
        have e1 := HE.out hp
        go_wp2_with (first | (go_at_call 101; (with_reducible refine (K1.out _).mono ?_); rintro ee w1 ⟨rfl, hb⟩; replace T0 := T0.step hb; clear hb) | (go_at_call 101; (with_reducible refine (K2.out _).mono ?_); rintro ee w1 ⟨rfl, hb⟩; replace T0 := T0.step hb; clear hb) | (go_at_call 19; (with_reducible refine (K3.out _).mono ?_); rintro ee w2 ⟨rfl, hb⟩; have TX := (Bx3.new w1 _ _ _ _).step hb; replace T0 := (T0.more _).step hb; clear hb; obtain ⟨q0, q1, q2, q3, q4, q5, q6⟩ := TX.facts; obtain ⟨p0, p1, p2, p3, p4, p5, p6⟩ := T0.res0))
        have hfin := below_put3 T0.1 (Nat.le_refl _)
        (refine bodyPost_ret (v := .tuple #[.agg #[.bool false, .string ⟨#[]⟩, .string ⟨#[]⟩], .int .i64 40]) (by simp [results, Tryz.results46, go_sem, p0, p1, p2, p3, p4, p5, p6]) rfl ⟨rfl, hfin _ _ _⟩)
set_option maxRecDepth 100000 in
set_option maxHeartbeats 4000000 in
theorem rR4_5t (s u A B a b x : ByteArray) (g : Bool) (ix : Nat) (ea eb : Int) (w : World) (hs : s.size ≤ 5000) (hu : u.size ≤ 5000)
    (way : (¬ 0 < s.size ∧ g = false ∧ u = s) ∨ (0 < s.size ∧ g = false ∧ u = s ∧ ∀ h : 0 < s.size, ((s[0].toNat : Int) == 45) = false) ∨ (0 < s.size ∧ g = true ∧ (∀ w, (Instr.slice 9 (.string s) (some (.int .i64 1)) none none).run Tryz.prog w = .ok (.string u) w) ∧ ∀ h : 0 < s.size, ((s[0].toNat : Int) == 45) = true))
    (hix : ix ≤ u.size) (hne : ∀ k (h : k < u.size), k < ix → ((u[k].toNat : Int) == 47) = false) (heq : ∀ h : ix < u.size, ((u[ix].toNat : Int) == 47) = true) (r2 : ∀ w, (Instr.slice 9 (.string u) none (some (.int .i64 (ix : Int))) none).run Tryz.prog w = .ok (.string A) w) (r3 : ∀ w, (Instr.slice 9 (.string u) (some (.int .i64 ((ix : Int) + 1))) none none).run Tryz.prog w = .ok (.string B) w)
    (hp : ix < u.size)
    (KA : ∀ w, Calls Tryz.prog 101 #[.string A] w fun e w' => e = .returned (.tuple #[.string a, .int .i64 0]) ∧ Below w.heap.size w w')
    (KB : ∀ w, Calls Tryz.prog 101 #[.string B] w fun e w' => e = .returned (.tuple #[.string b, .int .i64 0]) ∧ Below w.heap.size w w')
    (KM : ∀ w, Calls Tryz.prog 19 #[.agg #[.bool g, .string a, .string b]] w fun e w' => e = .returned (.bool true) ∧ Below w.heap.size w w')
    (KT : ∀ V, Below w.heap.size w V → Calls Tryz.prog 44 #[.agg #[.bool g, .string a, .string b]] V fun e w' => e = .returned (.string x) ∧ Below V.heap.size V w')
    (hx : (x.toList == s.toList) = false) :
    Calls Tryz.prog 46 #[.string s] w fun e w' => e = .returned (.tuple #[.agg #[.bool false, .string ⟨#[]⟩, .string ⟨#[]⟩], .int .i64 40]) ∧ Below w.heap.size w w' := by
  have K1 := Lib.hid KA
  have K2 := Lib.hid KB
  have K3 := Lib.hid KM
  have K4 := Lib.hid KT
  have HN := Lib.hid hne
  have HE := Lib.hid heq
  clear KA KB KM KT hne heq
  have T0 := BR.start0 w false (.string ⟨#[]⟩) (.string ⟨#[]⟩) 24
  rcases way with ⟨h0, rfl, rfl⟩ | ⟨h0, rfl, rfl, h1⟩ | ⟨h0, rfl, r1, h1⟩
  · exact absurd hp (by omega)
  case' inr.inl => have h1 := h1 h0
  case' inr.inr => have h1 := h1 h0
  all_goals
    go_enter Tryz.func46, Tryz.ntmps46
    go_wp2_with fail
    go_loop [6] (fun i => ∃ k : Nat, k ≤ ix ∧ i = .int .i64 k) (fun i => ix - (intOf i).toNat)
    case atStart => exact ⟨0, Nat.zero_le _, rfl⟩
    case round =>
      obtain ⟨k, hk, rfl⟩ := hrel
      by_cases hlt : k < ix
      · first
        | (exfalso; omega)
        | (have hku : k < u.size := by omega
           have e1 := HN.out k hku hlt
           go_wp2_with fail
           go_round
           case rel => exact ⟨k + 1, by omega, by go_num⟩
           case measure => simp [intOf]; omega)
      · obtain rfl : k = ix := by omega
        clear hlt hk
        have e1 := HE.out hp
        go_wp2_with (first | (go_at_call 101; (with_reducible refine (K1.out _).mono ?_); rintro ee w1 ⟨rfl, hb⟩; replace T0 := T0.step hb; clear hb) | (go_at_call 101; (with_reducible refine (K2.out _).mono ?_); rintro ee w1 ⟨rfl, hb⟩; replace T0 := T0.step hb; clear hb) | (go_at_call 19; (with_reducible refine (K3.out _).mono ?_); rintro ee w2 ⟨rfl, hb⟩; have TX := (Bx3.new w1 _ _ _ _).step hb; replace T0 := (T0.more _).step hb; clear hb; obtain ⟨q0, q1, q2, q3, q4, q5, q6⟩ := TX.facts; obtain ⟨p0, p1, p2, p3, p4, p5, p6⟩ := T0.res0) | (go_at_call 44; (with_reducible refine (K4.out _ T0.low).mono ?_); rintro ee w3 ⟨rfl, hb⟩; replace TX := TX.step hb; replace T0 := T0.step hb; clear hb q0 q1 q2 q3 q4 q5 q6 p0 p1 p2 p3 p4 p5 p6; obtain ⟨q0, q1, q2, q3, q4, q5, q6⟩ := TX.facts; obtain ⟨p0, p1, p2, p3, p4, p5, p6⟩ := T0.res0))
        have hfin := below_put3 T0.1 (Nat.le_refl _)
        (refine bodyPost_ret (v := .tuple #[.agg #[.bool false, .string ⟨#[]⟩, .string ⟨#[]⟩], .int .i64 40]) (by simp [results, Tryz.results46, go_sem, p0, p1, p2, p3, p4, p5, p6]) rfl ⟨rfl, hfin _ _ _⟩)
set_option maxRecDepth 100000 in
set_option maxHeartbeats 4000000 in
theorem rR4_3f (s u A B a b x : ByteArray) (g : Bool) (ix : Nat) (ea eb : Int) (w : World) (hs : s.size ≤ 5000) (hu : u.size ≤ 5000)
    (way : (¬ 0 < s.size ∧ g = false ∧ u = s) ∨ (0 < s.size ∧ g = false ∧ u = s ∧ ∀ h : 0 < s.size, ((s[0].toNat : Int) == 45) = false) ∨ (0 < s.size ∧ g = true ∧ (∀ w, (Instr.slice 9 (.string s) (some (.int .i64 1)) none none).run Tryz.prog w = .ok (.string u) w) ∧ ∀ h : 0 < s.size, ((s[0].toNat : Int) == 45) = true))
    (hix : ix ≤ u.size) (hne : ∀ k (h : k < u.size), k < ix → ((u[k].toNat : Int) == 47) = false) (heq : ∀ h : ix < u.size, ((u[ix].toNat : Int) == 47) = true) (r2 : ∀ w, (Instr.slice 9 (.string u) none (some (.int .i64 (ix : Int))) none).run Tryz.prog w = .ok (.string A) w)
    (hp : ix = u.size)
    (KA : ∀ w, Calls Tryz.prog 101 #[.string A] w fun e w' => e = .returned (.tuple #[.string a, .int .i64 0]) ∧ Below w.heap.size w w')
    (KM : ∀ w, Calls Tryz.prog 19 #[.agg #[.bool g, .string a, .string ⟨#[1]⟩]] w fun e w' => e = .returned (.bool true) ∧ Below w.heap.size w w')
    (KT : ∀ V, Below w.heap.size w V → Calls Tryz.prog 44 #[.agg #[.bool g, .string a, .string ⟨#[1]⟩]] V fun e w' => e = .returned (.string x) ∧ Below V.heap.size V w')
    (hx : (x.toList == s.toList) = true) :
    Calls Tryz.prog 46 #[.string s] w fun e w' => e = .returned (.tuple #[.agg #[.bool g, .string a, .string ⟨#[1]⟩], .int .i64 0]) ∧ Below w.heap.size w w' := by
  have K1 := Lib.hid KA
  have K3 := Lib.hid KM
  have K4 := Lib.hid KT
  have HN := Lib.hid hne
  have HE := Lib.hid heq
  clear KA KM KT hne heq
  have T0 := BR.start0 w false (.string ⟨#[]⟩) (.string ⟨#[]⟩) 24
  rcases way with ⟨h0, rfl, rfl⟩ | ⟨h0, rfl, rfl, h1⟩ | ⟨h0, rfl, r1, h1⟩
  case' inr.inl => have h1 := h1 h0
  case' inr.inr => have h1 := h1 h0
  all_goals
    go_enter Tryz.func46, Tryz.ntmps46
    go_wp2_with fail
    go_loop [6] (fun i => ∃ k : Nat, k ≤ ix ∧ i = .int .i64 k) (fun i => ix - (intOf i).toNat)
    case atStart => exact ⟨0, Nat.zero_le _, rfl⟩
    case round =>
      obtain ⟨k, hk, rfl⟩ := hrel
      by_cases hlt : k < ix
      · first
        | (exfalso; omega)
        | (have hku : k < u.size := by omega
           have e1 := HN.out k hku hlt
           clear hp
           go_wp2_with fail
           go_round
           case rel => exact ⟨k + 1, by omega, by go_num⟩
           case measure => simp [intOf]; omega)
      · obtain rfl : k = ix := by omega
        clear hlt hk
        have e1 : ¬ k < u.size := by omega
        clear hp
        go_wp2_with (first | (go_at_call 101; (with_reducible refine (K1.out _).mono ?_); rintro ee w1 ⟨rfl, hb⟩; replace T0 := T0.step hb; clear hb) | (go_at_call 19; (with_reducible refine (K3.out _).mono ?_); rintro ee w2 ⟨rfl, hb⟩; have TX := (Bx3.new w1 _ _ _ _).step hb; replace T0 := (T0.more _).step hb; clear hb; obtain ⟨q0, q1, q2, q3, q4, q5, q6⟩ := TX.facts; obtain ⟨p0, p1, p2, p3, p4, p5, p6⟩ := T0.res0) | (go_at_call 44; (with_reducible refine (K4.out _ T0.low).mono ?_); rintro ee w3 ⟨rfl, hb⟩; replace TX := TX.step hb; replace T0 := T0.step hb; clear hb q0 q1 q2 q3 q4 q5 q6 p0 p1 p2 p3 p4 p5 p6; obtain ⟨q0, q1, q2, q3, q4, q5, q6⟩ := TX.facts; obtain ⟨p0, p1, p2, p3, p4, p5, p6⟩ := T0.res0))
        have hfin := below_put3 T0.1 (Nat.le_refl _)
        first | (refine bodyPost_ret (v := .tuple #[.agg #[.bool true, .string a, .string ⟨#[1]⟩], .int .i64 0]) (by simp [results, Tryz.results46, go_sem, p0, p1, p2, p3, p4, p5, p6]) rfl ⟨rfl, hfin _ _ _⟩) | (refine bodyPost_ret (v := .tuple #[.agg #[.bool false, .string a, .string ⟨#[1]⟩], .int .i64 0]) (by simp [results, Tryz.results46, go_sem, p0, p1, p2, p3, p4, p5, p6]) rfl ⟨rfl, hfin _ _ _⟩)
set_option maxRecDepth 100000 in
set_option maxHeartbeats 4000000 in
theorem rR4_3t (s u A B a b x : ByteArray) (g : Bool) (ix : Nat) (ea eb : Int) (w : World) (hs : s.size ≤ 5000) (hu : u.size ≤ 5000)
    (way : (¬ 0 < s.size ∧ g = false ∧ u = s) ∨ (0 < s.size ∧ g = false ∧ u = s ∧ ∀ h : 0 < s.size, ((s[0].toNat : Int) == 45) = false) ∨ (0 < s.size ∧ g = true ∧ (∀ w, (Instr.slice 9 (.string s) (some (.int .i64 1)) none none).run Tryz.prog w = .ok (.string u) w) ∧ ∀ h : 0 < s.size, ((s[0].toNat : Int) == 45) = true))
    (hix : ix ≤ u.size) (hne : ∀ k (h : k < u.size), k < ix → ((u[k].toNat : Int) == 47) = false) (heq : ∀ h : ix < u.size, ((u[ix].toNat : Int) == 47) = true) (r2 : ∀ w, (Instr.slice 9 (.string u) none (some (.int .i64 (ix : Int))) none).run Tryz.prog w = .ok (.string A) w) (r3 : ∀ w, (Instr.slice 9 (.string u) (some (.int .i64 ((ix : Int) + 1))) none none).run Tryz.prog w = .ok (.string B) w)
    (hp : ix < u.size)
    (KA : ∀ w, Calls Tryz.prog 101 #[.string A] w fun e w' => e = .returned (.tuple #[.string a, .int .i64 0]) ∧ Below w.heap.size w w')
    (KB : ∀ w, Calls Tryz.prog 101 #[.string B] w fun e w' => e = .returned (.tuple #[.string b, .int .i64 0]) ∧ Below w.heap.size w w')
    (KM : ∀ w, Calls Tryz.prog 19 #[.agg #[.bool g, .string a, .string b]] w fun e w' => e = .returned (.bool true) ∧ Below w.heap.size w w')
    (KT : ∀ V, Below w.heap.size w V → Calls Tryz.prog 44 #[.agg #[.bool g, .string a, .string b]] V fun e w' => e = .returned (.string x) ∧ Below V.heap.size V w')
    (hx : (x.toList == s.toList) = true) :
    Calls Tryz.prog 46 #[.string s] w fun e w' => e = .returned (.tuple #[.agg #[.bool g, .string a, .string b], .int .i64 0]) ∧ Below w.heap.size w w' := by
  have K1 := Lib.hid KA
  have K2 := Lib.hid KB
  have K3 := Lib.hid KM
  have K4 := Lib.hid KT
  have HN := Lib.hid hne
  have HE := Lib.hid heq
  clear KA KB KM KT hne heq
  have T0 := BR.start0 w false (.string ⟨#[]⟩) (.string ⟨#[]⟩) 24
  rcases way with ⟨h0, rfl, rfl⟩ | ⟨h0, rfl, rfl, h1⟩ | ⟨h0, rfl, r1, h1⟩
  · exact absurd hp (by omega)
  case' inr.inl => have h1 := h1 h0
  case' inr.inr => have h1 := h1 h0
  all_goals
    go_enter Tryz.func46, Tryz.ntmps46
    go_wp2_with fail
    go_loop [6] (fun i => ∃ k : Nat, k ≤ ix ∧ i = .int .i64 k) (fun i => ix - (intOf i).toNat)
    case atStart => exact ⟨0, Nat.zero_le _, rfl⟩
    case round =>
      obtain ⟨k, hk, rfl⟩ := hrel
      by_cases hlt : k < ix
      · first
        | (exfalso; omega)
        | (have hku : k < u.size := by omega
           have e1 := HN.out k hku hlt
           go_wp2_with fail
           go_round
           case rel => exact ⟨k + 1, by omega, by go_num⟩
           case measure => simp [intOf]; omega)
      · obtain rfl : k = ix := by omega
        clear hlt hk
        have e1 := HE.out hp
        go_wp2_with (first | (go_at_call 101; (with_reducible refine (K1.out _).mono ?_); rintro ee w1 ⟨rfl, hb⟩; replace T0 := T0.step hb; clear hb) | (go_at_call 101; (with_reducible refine (K2.out _).mono ?_); rintro ee w1 ⟨rfl, hb⟩; replace T0 := T0.step hb; clear hb) | (go_at_call 19; (with_reducible refine (K3.out _).mono ?_); rintro ee w2 ⟨rfl, hb⟩; have TX := (Bx3.new w1 _ _ _ _).step hb; replace T0 := (T0.more _).step hb; clear hb; obtain ⟨q0, q1, q2, q3, q4, q5, q6⟩ := TX.facts; obtain ⟨p0, p1, p2, p3, p4, p5, p6⟩ := T0.res0) | (go_at_call 44; (with_reducible refine (K4.out _ T0.low).mono ?_); rintro ee w3 ⟨rfl, hb⟩; replace TX := TX.step hb; replace T0 := T0.step hb; clear hb q0 q1 q2 q3 q4 q5 q6 p0 p1 p2 p3 p4 p5 p6; obtain ⟨q0, q1, q2, q3, q4, q5, q6⟩ := TX.facts; obtain ⟨p0, p1, p2, p3, p4, p5, p6⟩ := T0.res0))
        have hfin := below_put3 T0.1 (Nat.le_refl _)
        first | (refine bodyPost_ret (v := .tuple #[.agg #[.bool true, .string a, .string b], .int .i64 0]) (by simp [results, Tryz.results46, go_sem, p0, p1, p2, p3, p4, p5, p6]) rfl ⟨rfl, hfin _ _ _⟩) | (refine bodyPost_ret (v := .tuple #[.agg #[.bool false, .string a, .string b], .int .i64 0]) (by simp [results, Tryz.results46, go_sem, p0, p1, p2, p3, p4, p5, p6]) rfl ⟨rfl, hfin _ _ _⟩)
end Go.Proofs.YtajcapliokblfaaGreatDoor
namespace Go.Proofs.YtajcapliokblfaaGreatDoor
open Go Go.RowKit Nt
theorem offB_t {c : UInt8} {s : ByteArray} (h : begB c s = true) : offB c s = s.extract 1 s.size := by unfold offB; rw [if_pos h]
theorem offB_f {c : UInt8} {s : ByteArray} (h : ¬ begB c s = true) : offB c s = s := by unfold offB; rw [if_neg h]
theorem beg_ways (c : UInt8) (s : ByteArray) : (¬ 0 < s.size ∧ begB c s = false) ∨ (0 < s.size ∧ begB c s = false ∧ ∀ h : 0 < s.size, ((s[0].toNat : Int) == (c.toNat : Int)) = false) ∨ (0 < s.size ∧ begB c s = true ∧ ∀ h : 0 < s.size, ((s[0].toNat : Int) == (c.toNat : Int)) = true) := by
  by_cases h : 0 < s.size
  · right
    by_cases k : s[0] = c
    · right
      exact ⟨h, begB_iff.2 ⟨h, k⟩, fun _ => by rw [k]; simp⟩
    · left
      refine ⟨h, Bool.eq_false_iff.2 (fun d => by obtain ⟨_, e⟩ := begB_iff.1 d; exact k e), fun _ => ?_⟩
      rw [beq_eq_false_iff_ne]
      intro e
      exact k (UInt8.toNat_inj.1 (by omega))
  · left
    exact ⟨h, Bool.eq_false_iff.2 (fun d => by obtain ⟨e, _⟩ := begB_iff.1 d; exact h e)⟩
theorem ba_eq {a b : ByteArray} (h : a.data.toList = b.data.toList) : a = b := ByteArray.ext (Array.ext' h)
theorem ba_app (a b : ByteArray) : (a ++ b).data.toList = a.data.toList ++ b.data.toList := by rw [ByteArray.data_append, Array.toList_append]
theorem ba_ext (s : ByteArray) (i j : Nat) : (s.extract i j).data.toList = (s.data.toList.drop i).take (j - i) := by rw [ByteArray.data_extract, Array.toList_extract, List.extract_eq_take_drop]
theorem ba_from (s : ByteArray) (i : Nat) : (s.extract i s.size).data.toList = s.data.toList.drop i := by
  rw [ba_ext, List.take_of_length_le]
  rw [List.length_drop]; exact Nat.le_refl _
theorem ba_upto (s : ByteArray) (i : Nat) : (s.extract 0 i).data.toList = s.data.toList.take i := by rw [ba_ext, List.drop_zero, Nat.sub_zero]
theorem ba_one (c : UInt8) : (ByteArray.mk #[c]).data.toList = [c] := rfl
theorem ba_get (s : ByteArray) (i : Nat) (h : i < s.size) : s.data.toList.drop i = s[i] :: s.data.toList.drop (i + 1) := List.drop_eq_getElem_cons (l := s.data.toList) h
theorem sign_split (c : UInt8) (s : ByteArray) : (begB c s = true → ⟨#[c]⟩ ++ offB c s = s) ∧ (¬ begB c s = true → offB c s = s) := by
  refine ⟨fun h => ?_, offB_f⟩
  obtain ⟨h0, h1⟩ := begB_iff.1 h
  rw [offB_t h]
  apply ba_eq
  rw [ba_app, ba_from, ba_one]
  have := ba_get s 0 h0
  rw [List.drop_zero, h1] at this
  exact this.symm
theorem cut_split (c : UInt8) (u : ByteArray) : (hasB c u = true → headB c u ++ (⟨#[c]⟩ ++ tailB c u) = u) ∧ (¬ hasB c u = true → headB c u = u) := by
  refine ⟨fun h => ?_, fun h => by unfold headB; rw [if_neg h]⟩
  have hi := hasB_iff.1 h
  have e := (ixB_get c u _ hi).2 rfl
  unfold headB tailB
  rw [if_pos h, if_pos h]
  apply ba_eq
  rw [ba_app, ba_app, ba_from, ba_upto, ba_one]
  have h2 := ba_get u _ hi
  rw [e] at h2
  show u.data.toList.take _ ++ (c :: u.data.toList.drop _) = _
  rw [← h2, List.take_append_drop]
theorem rt_ok {s : ByteArray} (h : rtE s = 0) : ∃ n, fits n ∧ rtS s = natS n ∧ decS n = s := by
  unfold rtE at h
  by_cases hv : Valid s
  · rw [if_pos hv] at h
    by_cases hf : fits (preV s s.size)
    · exact ⟨_, hf, by unfold rtS; rw [if_pos hv, resS_ok hf], dec_of_pre hv⟩
    · rw [resE_no hf] at h; exact absurd h (by decide)
  · rw [if_neg hv] at h; exact absurd h (by decide)
theorem rtS_size (s : ByteArray) : (rtS s).size ≤ s.size := by
  unfold rtS
  split
  · rename_i hv
    by_cases hf : fits (preV s s.size)
    · rw [resS_ok hf, natS_size]
      refine nd_le (by omega) (Nat.lt_of_lt_of_le (dig_pre hv.2.1 s.size (Nat.le_refl _)) (Nat.pow_le_pow_left (by omega) _))
    · rw [resS_no hf]; exact Nat.zero_le _
  · exact Nat.zero_le _
theorem rRead2_c (s : ByteArray) (w : World) (hs : s.size ≤ 9223372036854775807) : Calls Tryz.prog 101 #[.string s] w fun e w' => e = .returned (.tuple #[.string (rtS s), .int .i64 (rtE s)]) ∧ Below w.heap.size w w' := by
  unfold rtS rtE
  by_cases hv : Valid s
  · rw [if_pos hv, if_pos hv]
    exact rRead_ok s w hs hv (fun hl => long_dec hv.2.1 hv.1 (fun c => hv.2.2 ⟨by omega, fun _ => c⟩) hl)
  · rw [if_neg hv, if_neg hv]
    by_cases h0 : s.size = 0
    · exact rRead_empty s w h0
    · have hp : 0 < s.size := by omega
      by_cases hn : 1 < s.size ∧ ∀ h : 0 < s.size, s[0].toNat = 48
      · exact rRead_nought s w hn.1 (hn.2 hp) hs
      · exact rRead_bad s w hs hp hn (fun hd => hv ⟨hp, hd, hn⟩)
theorem txt_f {s : ByteArray} {q : Rat} (h : ¬ hasB 47 (offB 45 s) = true) (e : rtE (headB 47 (offB 45 s)) = 0) (hq : rdX s = ⟨qG q, natS (qN q), natS (qD q)⟩) : txR (qG q) (qN q) (qD q) = s := by
  obtain ⟨n, hf, h1, h2⟩ := rt_ok e
  rw [rdX_f h, h1] at hq
  obtain ⟨g1, g2, g3⟩ := Rx.mk.inj hq
  have en := natS_inj.1 g2
  rw [(cut_split 47 (offB 45 s)).2 h, en] at h2
  have ed : qD q = 1 := one_iff.1 g3.symm
  rw [ed]
  by_cases hb : begB 45 s = true
  · rw [tx_tt (g1.symm.trans hb) natS_1r, h2]; exact (sign_split 45 s).1 hb
  · rw [tx_ft (fun c => hb (g1.trans c)) natS_1r, h2]; exact (sign_split 45 s).2 hb
theorem txt_t {s : ByteArray} {q : Rat} (h : hasB 47 (offB 45 s) = true) (e : rtE (headB 47 (offB 45 s)) = 0) (e2 : rtE (tailB 47 (offB 45 s)) = 0) (hq : rdX s = ⟨qG q, natS (qN q), natS (qD q)⟩) : (rtS (tailB 47 (offB 45 s)) = ⟨#[1]⟩ → ¬ txR (qG q) (qN q) (qD q) = s) ∧ (¬ rtS (tailB 47 (offB 45 s)) = ⟨#[1]⟩ → txR (qG q) (qN q) (qD q) = s) := by
  obtain ⟨n, hf, h1, h2⟩ := rt_ok e
  obtain ⟨d, hf', h1', h2'⟩ := rt_ok e2
  rw [rdX_t h, h1, h1'] at hq
  obtain ⟨g1, g2, g3⟩ := Rx.mk.inj hq
  have en := natS_inj.1 g2
  have ed := natS_inj.1 g3
  have hc := (cut_split 47 (offB 45 s)).1 h
  rw [← h2, ← h2', en, ed] at hc
  rw [h1', ed]
  constructor
  · intro h3 h4
    have k1 := congrArg ByteArray.size h4
    by_cases hb : begB 45 s = true
    · have k2 := (sign_split 45 s).1 hb
      rw [tx_tt (g1.symm.trans hb) h3, ← k2, ← hc] at k1
      simp only [ByteArray.size_append] at k1
      have e47 : (ByteArray.mk #[47]).size = 1 := rfl
      omega
    · have k2 := (sign_split 45 s).2 hb
      rw [tx_ft (fun c => hb (g1.trans c)) h3, ← k2, ← hc] at k1
      simp only [ByteArray.size_append] at k1
      have e47 : (ByteArray.mk #[47]).size = 1 := rfl
      omega
  · intro h3
    by_cases hb : begB 45 s = true
    · rw [tx_tf (g1.symm.trans hb) h3, ByteArray.append_assoc, hc]; exact (sign_split 45 s).1 hb
    · rw [tx_ff (fun c => hb (g1.trans c)) h3, hc]; exact (sign_split 45 s).2 hb
theorem tl_eq {x s : ByteArray} : (x.toList == s.toList) = true ↔ x = s := by
  rw [beq_iff_eq, ba_toList, ba_toList]
  exact ⟨ba_eq, fun h => by rw [h]⟩
theorem tl_ne {x s : ByteArray} (h : ¬ x = s) : (x.toList == s.toList) = false := Bool.eq_false_iff.2 (fun c => h (tl_eq.1 c))
theorem rRead4_c (s : ByteArray) (w : World) (hG : Globs glT w) (hs : s.size ≤ 5000) : Calls Tryz.prog 46 #[.string s] w fun e w' => e = .returned (.tuple #[.agg #[.bool (rdR s).g, .string (rdR s).s, .string (rdR s).t], .int .i64 (rdE s)]) ∧ Below w.heap.size w w' := by
  obtain ⟨u, hu⟩ : ∃ u, u = offB 45 s := ⟨_, rfl⟩
  obtain ⟨A, hA⟩ : ∃ A, A = headB 47 u := ⟨_, rfl⟩
  obtain ⟨B, hB⟩ : ∃ B, B = tailB 47 u := ⟨_, rfl⟩
  obtain ⟨ix, hx⟩ : ∃ ix, ix = ixB 47 u := ⟨_, rfl⟩
  obtain ⟨g, hg⟩ : ∃ g, g = begB 45 s := ⟨_, rfl⟩
  have hus : u.size ≤ 5000 := by rw [hu]; exact Nat.le_trans (offB_size 45 s) hs
  have hAs : A.size ≤ 5000 := by rw [hA]; exact Nat.le_trans (headB_size 47 u) hus
  have hBs : B.size ≤ 5000 := by rw [hB]; exact Nat.le_trans (tailB_size 47 u) hus
  have hix : ix ≤ u.size := by rw [hx]; exact ixB_le 47 u
  have e47 : (47 : UInt8).toNat = 47 := rfl
  have hne : ∀ k (h : k < u.size), k < ix → ((u[k].toNat : Int) == 47) = false := fun k h hk => by
    rw [beq_eq_false_iff_ne]
    intro e
    rw [hx] at hk
    exact (ixB_get 47 u k h).1 hk (UInt8.toNat_inj.1 (by omega))
  have heq : ∀ h : ix < u.size, ((u[ix].toNat : Int) == 47) = true := fun h => by
    have := (ixB_get 47 u ix h).2 hx
    rw [this]; rfl
  have way : (¬ 0 < s.size ∧ g = false ∧ u = s) ∨ (0 < s.size ∧ g = false ∧ u = s ∧ ∀ h : 0 < s.size, ((s[0].toNat : Int) == 45) = false) ∨ (0 < s.size ∧ g = true ∧ (∀ w, (Instr.slice 9 (.string s) (some (.int .i64 1)) none none).run Tryz.prog w = .ok (.string u) w) ∧ ∀ h : 0 < s.size, ((s[0].toNat : Int) == 45) = true) := by
    rcases beg_ways 45 s with ⟨a, b⟩ | ⟨a, b, c⟩ | ⟨a, b, c⟩
    · exact Or.inl ⟨a, hg.trans b, hu.trans (offB_f (by rw [b]; exact Bool.false_ne_true))⟩
    · exact Or.inr (Or.inl ⟨a, hg.trans b, hu.trans (offB_f (by rw [b]; exact Bool.false_ne_true)), c⟩)
    · refine Or.inr (Or.inr ⟨a, hg.trans b, fun w => ?_, c⟩)
      rw [hu, offB_t b]
      exact run_slice_string_l (P := Tryz.prog) w 9 s Tryz.underlying9 .i64 1 (by omega) (by omega)
  have r2 : ∀ w, (Instr.slice 9 (.string u) none (some (.int .i64 (ix : Int))) none).run Tryz.prog w = .ok (.string A) w := fun w => by
    have h := run_slice_string_h (P := Tryz.prog) w 9 u Tryz.underlying9 .i64 (ix : Int) (by omega) (by omega)
    rw [Int.toNat_natCast] at h
    have e : u.extract 0 ix = A := by
      rw [hA]
      by_cases k : hasB 47 u = true
      · unfold headB; rw [if_pos k, hx]
      · rw [(cut_split 47 u).2 k]
        have k2 : ix = u.size := by
          have k3 : ¬ ix < u.size := fun c => k (hasB_iff.2 (by rw [← hx]; exact c))
          omega
        apply ba_eq
        rw [k2, ba_upto, List.take_of_length_le]
        exact Nat.le_refl _
    rw [← e]; exact h
  have KA := fun w => rRead2_c A w (by omega)
  have KB := fun w => rRead2_c B w (by omega)
  by_cases hp : ix < u.size
  · have hh : hasB 47 (offB 45 s) = true := by rw [← hu]; exact hasB_iff.2 (by rw [← hx]; exact hp)
    have r3 : ∀ w, (Instr.slice 9 (.string u) (some (.int .i64 ((ix : Int) + 1))) none none).run Tryz.prog w = .ok (.string B) w := fun w => by
      have h := run_slice_string_l (P := Tryz.prog) w 9 u Tryz.underlying9 .i64 ((ix : Int) + 1) (by omega) (by omega)
      rw [show ((ix : Int) + 1).toNat = ix + 1 by omega] at h
      have e : u.extract (ix + 1) u.size = B := by
        rw [hB]; unfold tailB; rw [if_pos (by rw [hu]; exact hh), hx]
      rw [← e]; exact h
    have hX : rdX s = ⟨g, rtS A, rtS B⟩ := by rw [rdX_t hh, ← hu, ← hA, ← hB, ← hg]
    have hE1 : rtE (headB 47 (offB 45 s)) = rtE A := by rw [← hu, ← hA]
    have hE2 : rtE (tailB 47 (offB 45 s)) = rtE B := by rw [← hu, ← hB]
    have hS2 : rtS (tailB 47 (offB 45 s)) = rtS B := by rw [← hu, ← hB]
    by_cases e1 : rtE A = 0
    · rw [e1] at KA
      by_cases e2 : rtE B = 0
      · rw [e2] at KB
        have KM := fun w => rMay4_any ⟨g, rtS A, rtS B⟩ w ⟨Nat.le_trans (rtS_size A) hAs, Nat.le_trans (rtS_size B) hBs⟩
        cases hm : mayR ⟨g, rtS A, rtS B⟩
        · rw [hm] at KM
          have hno := rd_no (s := s) (fun c => by have := c.2.2; rw [hX, hm] at this; cases this)
          rw [hno.1, hno.2]
          exact rR4_2t s u A B (rtS A) (rtS B) ⟨#[]⟩ g ix 0 0 w hs hus way hix hne heq r2 r3 hp KA KB KM
        · rw [hm] at KM
          obtain ⟨q, hq0, hq⟩ := mayR_iff.1 hm
          have hq2 : rdX s = ⟨qG q, natS (qN q), natS (qD q)⟩ := hX.trans hq
          obtain ⟨g1, g2, g3⟩ := Rx.mk.inj hq
          have KT : ∀ V, Below w.heap.size w V → Calls Tryz.prog 44 #[.agg #[.bool g, .string (rtS A), .string (rtS B)]] V fun e w' => e = .returned (.string (txR (qG q) (qN q) (qD q))) ∧ Below V.heap.size V w' := fun V hb => by
            rw [g1, g2, g3]; exact rText4_c q V (hG.below hb (Nat.le_refl _)) hq0
          have ht := txt_t hh (hE1.trans e1) (hE2.trans e2) hq2
          rw [hS2] at ht
          by_cases e3 : rtS B = ⟨#[1]⟩
          · have hno := rd_no (s := s) (fun c => (c.2.1 hh).2 (hS2.trans e3))
            rw [hno.1, hno.2]
            exact rR4_5t s u A B (rtS A) (rtS B) _ g ix 0 0 w hs hus way hix hne heq r2 r3 hp KA KB KM KT (tl_ne (ht.1 e3))
          · have hok := rd_ok (s := s) ⟨hE1.trans e1, fun _ => ⟨hE2.trans e2, fun c => e3 (hS2.symm.trans c)⟩, by rw [hX]; exact hm⟩
            rw [hok.1, hok.2, hX]
            exact rR4_3t s u A B (rtS A) (rtS B) _ g ix 0 0 w hs hus way hix hne heq r2 r3 hp KA KB KM KT (tl_eq.2 (ht.2 e3))
      · have hno := rd_no (s := s) (fun c => e2 (hE2.symm.trans (c.2.1 hh).1))
        rw [hno.1, hno.2]
        exact rR4_4t s u A B (rtS A) (rtS B) ⟨#[]⟩ g ix 0 _ w hs hus way hix hne heq r2 r3 hp e2 KA KB
    · have hno := rd_no (s := s) (fun c => e1 (hE1.symm.trans c.1))
      rw [hno.1, hno.2]
      exact rR4_1t s u A B (rtS A) (rtS B) ⟨#[]⟩ g ix _ _ w hs hus way hix hne heq r2 r3 hp e1 KA KB
  · have hp2 : ix = u.size := by omega
    have hh : ¬ hasB 47 (offB 45 s) = true := by rw [← hu]; exact fun c => hp (by rw [hx]; exact hasB_iff.1 c)
    have hX : rdX s = ⟨g, rtS A, ⟨#[1]⟩⟩ := by rw [rdX_f hh, ← hu, ← hA, ← hg]
    have hE1 : rtE (headB 47 (offB 45 s)) = rtE A := by rw [← hu, ← hA]
    by_cases e1 : rtE A = 0
    · rw [e1] at KA
      have KM := fun w => rMay4_any ⟨g, rtS A, ⟨#[1]⟩⟩ w ⟨Nat.le_trans (rtS_size A) hAs, (by show 1 ≤ 5000; omega)⟩
      cases hm : mayR ⟨g, rtS A, ⟨#[1]⟩⟩
      · rw [hm] at KM
        have hno := rd_no (s := s) (fun c => by have := c.2.2; rw [hX, hm] at this; cases this)
        rw [hno.1, hno.2]
        exact rR4_2f s u A B (rtS A) (rtS B) ⟨#[]⟩ g ix 0 0 w hs hus way hix hne heq r2 hp2 KA KM
      · rw [hm] at KM
        obtain ⟨q, hq0, hq⟩ := mayR_iff.1 hm
        have hq2 : rdX s = ⟨qG q, natS (qN q), natS (qD q)⟩ := hX.trans hq
        obtain ⟨g1, g2, g3⟩ := Rx.mk.inj hq
        have KT : ∀ V, Below w.heap.size w V → Calls Tryz.prog 44 #[.agg #[.bool g, .string (rtS A), .string ⟨#[1]⟩]] V fun e w' => e = .returned (.string (txR (qG q) (qN q) (qD q))) ∧ Below V.heap.size V w' := fun V hb => by
          rw [g1, g2, g3]; exact rText4_c q V (hG.below hb (Nat.le_refl _)) hq0
        have ht := txt_f hh (hE1.trans e1) hq2
        have hok := rd_ok (s := s) ⟨hE1.trans e1, fun c => absurd c hh, by rw [hX]; exact hm⟩
        rw [hok.1, hok.2, hX]
        exact rR4_3f s u A B (rtS A) (rtS B) _ g ix 0 0 w hs hus way hix hne heq r2 hp2 KA KM KT (tl_eq.2 ht)
    · have hno := rd_no (s := s) (fun c => e1 (hE1.symm.trans c.1))
      rw [hno.1, hno.2]
      exact rR4_1f s u A B (rtS A) (rtS B) ⟨#[]⟩ g ix _ 0 w hs hus way hix hne heq r2 hp2 e1 KA
end Go.Proofs.YtajcapliokblfaaGreatDoor
namespace Go.Proofs.YtajcapliokblfaaGreatDoor
open Go Go.RowKit Nt
def isDgB (c : UInt8) : Bool := decide (48 ≤ c.toNat ∧ c.toNat ≤ 57)
theorem tw_get {α : Type} (p : α → Bool) (l : List α) : (∀ k (h : k < l.length), k < (l.takeWhile p).length → p l[k] = true) ∧ (∀ h : (l.takeWhile p).length < l.length, p l[(l.takeWhile p).length] = false) ∧ (l.takeWhile p).length ≤ l.length := by
  induction l with
  | nil => exact ⟨fun k h => absurd h (Nat.not_lt_zero _), fun h => absurd h (Nat.not_lt_zero _), Nat.le_refl _⟩
  | cons b l ih =>
    obtain ⟨i1, i2, i3⟩ := ih
    cases hp : p b
    · have e : (b :: l).takeWhile p = [] := by rw [List.takeWhile_cons, hp]; rfl
      simp only [e, List.length_nil]
      exact ⟨fun k h hk => absurd hk (Nat.not_lt_zero _), fun h => hp, Nat.zero_le _⟩
    · have e : (b :: l).takeWhile p = b :: l.takeWhile p := by rw [List.takeWhile_cons, hp]; rfl
      simp only [e, List.length_cons]
      refine ⟨fun k h hk => ?_, fun h => ?_, by omega⟩
      · cases k with
        | zero => exact hp
        | succ k => exact i1 k (by simpa using h) (by omega)
      · exact i2 (by omega)
@[irreducible] def zE (t : ByteArray) (i : Nat) : Nat := i + ((t.data.toList.drop i).takeWhile isDgB).length
theorem zE_ge (t : ByteArray) (i : Nat) : i ≤ zE t i := by unfold zE; omega
theorem zE_le (t : ByteArray) (i : Nat) (h : i ≤ t.size) : zE t i ≤ t.size := by
  have := (tw_get isDgB (t.data.toList.drop i)).2.2
  rw [List.length_drop] at this
  have e : t.data.toList.length = t.size := rfl
  unfold zE; omega
theorem zE_in (t : ByteArray) (i k : Nat) (h1 : i ≤ k) (h2 : k < zE t i) (h : k < t.size) : isDgB t[k] = true := by
  have e : t.data.toList.length = t.size := rfl
  unfold zE at h2
  have := (tw_get isDgB (t.data.toList.drop i)).1 (k - i) (by rw [List.length_drop]; omega) (by omega)
  rw [List.getElem_drop] at this
  have e2 : t.data.toList[i + (k - i)]'(by omega) = t[k] := by
    show t.data.toList[i + (k - i)]'(by omega) = t.data.toList[k]'(by omega)
    congr 1; omega
  rwa [e2] at this
theorem zE_out (t : ByteArray) (i : Nat) (h0 : i ≤ t.size) (h : zE t i < t.size) : isDgB t[zE t i] = false := by
  have e : t.data.toList.length = t.size := rfl
  have h2 := h
  unfold zE at h2
  have := (tw_get isDgB (t.data.toList.drop i)).2.1 (by rw [List.length_drop]; omega)
  rw [List.getElem_drop] at this
  have e2 : t.data.toList[i + ((t.data.toList.drop i).takeWhile isDgB).length]'(by omega) = t[zE t i] := by
    show _ = t.data.toList[zE t i]'(by omega)
    congr 1
    unfold zE; rfl
  rwa [e2] at this
def isAt (t : ByteArray) (k : Nat) (c : Nat) : Prop := ∃ h : k < t.size, t[k].toNat = c
noncomputable section
open Classical
@[irreducible] def zN (t : ByteArray) : Nat := zE t 0
@[irreducible] def zPt (t : ByteArray) : Bool := decide (isAt t (zN t) 46)
@[irreducible] def zM (t : ByteArray) : Nat := if zPt t = true then zE t (zN t + 1) else zN t
@[irreducible] def zX (t : ByteArray) : Bool := decide (isAt t (zM t) 101)
@[irreducible] def zL (t : ByteArray) : Bool := decide (isAt t (zM t) 101 ∧ isAt t (zM t + 1) 45)
@[irreducible] def zJ (t : ByteArray) : Nat := if zL t = true then zM t + 2 else zM t + 1
def zOk (t : ByteArray) : Prop := 0 < zN t ∧ (zN t = 1 ∨ ¬ isAt t 0 48) ∧ (zPt t = true → zN t + 1 < zM t) ∧ (¬ zX t = true → zM t = t.size) ∧
  (zX t = true → zJ t < t.size ∧ zE t (zJ t) = t.size ∧ (isAt t (zJ t) 48 → zL t = false ∧ t.size = zJ t + 1))
@[irreducible] def zD (t : ByteArray) : ByteArray := t.extract 0 (zN t) ++ (if zPt t = true then t.extract (zN t + 1) (zM t) else ⟨#[]⟩)
@[irreducible] def zB (t : ByteArray) : Nat := if zPt t = true then zM t - (zN t + 1) else 0
@[irreducible] def zP (t : ByteArray) : ByteArray := if zX t = true then t.extract (zJ t) t.size else ⟨#[]⟩
end
def Exit.jumps (J : Nat → Act → World → Prop) (Q : Exit → Act → World → Prop) : Exit → Act → World → Prop
  | .goto l', a, w => J l' a w
  | e, a, w => Q e a w
theorem wp_scope_labels {P : Program} {a : Act} {w : World} {Q : Exit → Act → World → Prop} {c : Code} (J : Nat → Act → World → Prop) (μ : Nat → Act → World → Nat)
    (first : c.wp P (Exit.jumps J Q) a w)
    (pass : ∀ l a w, J l a w → ∃ rest, findLabel c l = some rest ∧ rest.wp P (Exit.jumps (fun l' a' w' => J l' a' w' ∧ μ l' a' w' < μ l a w) Q) a w) : (Code.scope c).wp P Q a w := by
  intro b k cs
  have key : ∀ n l a w, μ l a w = n → J l a w → ∃ rest, findLabel c l = some rest ∧ ∃ e a' w', Q e a' w' ∧ Arrives P (lone (b.at a (.code rest :: .inScope c :: k)) cs w) b k cs e a' w' := by
    intro n
    induction n using Nat.strongRecOn with
    | _ n ih =>
      intro l a w hn hJ
      obtain ⟨rest, hf, hp⟩ := pass l a w hJ
      refine ⟨rest, hf, ?_⟩
      obtain ⟨e, a₁, w₁, hq, harr⟩ := hp b (.inScope c :: k) cs
      cases e with
      | normal => exact ⟨.normal, a₁, w₁, hq, Steps.trans harr (.one step_inScope)⟩
      | exit id => exact ⟨.exit id, a₁, w₁, hq, fun k' hk => harr k' (by simp [exitTo, hk])⟩
      | goto l' =>
        obtain ⟨hJ', hlt⟩ := hq
        obtain ⟨rest', hf', e₂, a₂, w₂, hq₂, harr₂⟩ := ih _ (by omega) l' a₁ w₁ rfl hJ'
        have hg : gotoIn l' (.inScope c :: k) = some (.code rest' :: .inScope c :: k) := by simp [gotoIn, hf']
        exact ⟨e₂, a₂, w₂, hq₂, .of_steps (harr _ hg) harr₂⟩
      | ret => exact ⟨_, a₁, w₁, hq, harr⟩
      | panic ch => exact ⟨_, a₁, w₁, hq, harr⟩
      | outgrown => exact ⟨_, a₁, w₁, hq, harr⟩
  obtain ⟨e, a₁, w₁, hq, harr⟩ := first b (.inScope c :: k) cs
  cases e with
  | normal => exact ⟨.normal, a₁, w₁, hq, .head step_scope (Steps.trans harr (.one step_inScope))⟩
  | exit id => exact ⟨.exit id, a₁, w₁, hq, fun k' hk => .head step_scope (harr k' (by simp [exitTo, hk]))⟩
  | goto l' =>
    obtain ⟨rest', hf', e₂, a₂, w₂, hq₂, harr₂⟩ := key _ l' a₁ w₁ rfl hq
    have hg : gotoIn l' (.inScope c :: k) = some (.code rest' :: .inScope c :: k) := by simp [gotoIn, hf']
    exact ⟨e₂, a₂, w₂, hq₂, .of_steps (.head step_scope (harr _ hg)) harr₂⟩
  | ret => exact ⟨_, a₁, w₁, hq, .of_steps (.one step_scope) harr⟩
  | panic ch => exact ⟨_, a₁, w₁, hq, .of_steps (.one step_scope) harr⟩
  | outgrown => exact ⟨_, a₁, w₁, hq, .of_steps (.one step_scope) harr⟩
end Go.Proofs.YtajcapliokblfaaGreatDoor
namespace Go.Proofs.YtajcapliokblfaaGreatDoor
open Go Go.RowKit Nt
def Bx5 (W : World) (B : Nat) (a b c d e : Value) : Prop := ∃ T : TypeId, Blk W B T #[a, b, c, d, e]
theorem Bx5.facts {W : World} {B : Nat} {a b c d e : Value} (h : Bx5 W B a b c d e) : B < W.heap.size ∧ (W.cell? ⟨B, 0, none⟩ = some a ∧ W.cell? ⟨B, 1, none⟩ = some b ∧ W.cell? ⟨B, 2, none⟩ = some c ∧ W.cell? ⟨B, 3, none⟩ = some d ∧ W.cell? ⟨B, 4, none⟩ = some e) ∧ W.frozen? ⟨B, 0, none⟩ = false ∧ W.frozen? ⟨B, 1, none⟩ = false ∧ W.frozen? ⟨B, 2, none⟩ = false ∧ W.frozen? ⟨B, 3, none⟩ = false ∧ W.frozen? ⟨B, 4, none⟩ = false := by
  obtain ⟨T, h⟩ := h
  exact ⟨h.lt, ⟨by rw [h.cell]; rfl, by rw [h.cell]; rfl, by rw [h.cell]; rfl, by rw [h.cell]; rfl, by rw [h.cell]; rfl⟩, h.frozen 0, h.frozen 1, h.frozen 2, h.frozen 3, h.frozen 4⟩
theorem Bx5.step {W W' : World} {B : Nat} {a b c d e : Value} (h : Bx5 W B a b c d e) (hb : Below W.heap.size W W') : Bx5 W' B a b c d e := by
  obtain ⟨T, h⟩ := h; exact ⟨T, h.below hb h.lt⟩
theorem Bx5.new (w : World) (a b c d e : Value) (T : TypeId) : Bx5 (w.alloc (.cells #[a, b, c, d, e] T)) w.heap.size a b c d e := ⟨T, Blk.new w _ _⟩
theorem Bx5.p0 {W : World} {B : Nat} {a b c d e : Value} (h : Bx5 W B a b c d e) (x : Value) : Bx5 (W.setCell ⟨B, 0, none⟩ x) B x b c d e := by
  obtain ⟨T, h⟩ := h; exact ⟨T, by simpa using h.set_ 0 x⟩
theorem Bx5.p1 {W : World} {B : Nat} {a b c d e : Value} (h : Bx5 W B a b c d e) (x : Value) : Bx5 (W.setCell ⟨B, 1, none⟩ x) B a x c d e := by
  obtain ⟨T, h⟩ := h; exact ⟨T, by simpa using h.set_ 1 x⟩
theorem Bx5.p2 {W : World} {B : Nat} {a b c d e : Value} (h : Bx5 W B a b c d e) (x : Value) : Bx5 (W.setCell ⟨B, 2, none⟩ x) B a b x d e := by
  obtain ⟨T, h⟩ := h; exact ⟨T, by simpa using h.set_ 2 x⟩
theorem Bx5.p3 {W : World} {B : Nat} {a b c d e : Value} (h : Bx5 W B a b c d e) (x : Value) : Bx5 (W.setCell ⟨B, 3, none⟩ x) B a b c x e := by
  obtain ⟨T, h⟩ := h; exact ⟨T, by simpa using h.set_ 3 x⟩
theorem Bx5.p4 {W : World} {B : Nat} {a b c d e : Value} (h : Bx5 W B a b c d e) (x : Value) : Bx5 (W.setCell ⟨B, 4, none⟩ x) B a b c d x := by
  obtain ⟨T, h⟩ := h; exact ⟨T, by simpa using h.set_ 4 x⟩
def DB (w : World) (g l : Bool) (dg pw : ByteArray) (bh : Int) (W : World) : Prop := Below w.heap.size w W ∧ Bx5 W w.heap.size (.bool g) (.bool l) (.string dg) (.string pw) (.int .i64 bh)
theorem DB.low {w : World} {g l : Bool} {dg pw : ByteArray} {bh : Int} {W : World} (h : DB w g l dg pw bh W) : Below w.heap.size w W := h.1
theorem DB.box {w : World} {g l : Bool} {dg pw : ByteArray} {bh : Int} {W : World} (h : DB w g l dg pw bh W) : Bx5 W w.heap.size (.bool g) (.bool l) (.string dg) (.string pw) (.int .i64 bh) := h.2
theorem DB.step {w : World} {g l : Bool} {dg pw : ByteArray} {bh : Int} {W W' : World} (h : DB w g l dg pw bh W) (hb : Below W.heap.size W W') : DB w g l dg pw bh W' := ⟨below_chain h.1 hb, h.2.step hb⟩
theorem DB.q0 {w : World} {g l : Bool} {dg pw : ByteArray} {bh : Int} {W : World} (h : DB w g l dg pw bh W) (x : Bool) : DB w x l dg pw bh (W.setCell ⟨w.heap.size, 0, none⟩ (.bool x)) := ⟨h.1.setCell (p := ⟨w.heap.size, 0, none⟩) (Nat.le_refl _) _, h.2.p0 _⟩
theorem DB.q1 {w : World} {g l : Bool} {dg pw : ByteArray} {bh : Int} {W : World} (h : DB w g l dg pw bh W) (x : Bool) : DB w g x dg pw bh (W.setCell ⟨w.heap.size, 1, none⟩ (.bool x)) := ⟨h.1.setCell (p := ⟨w.heap.size, 1, none⟩) (Nat.le_refl _) _, h.2.p1 _⟩
theorem DB.q2 {w : World} {g l : Bool} {dg pw : ByteArray} {bh : Int} {W : World} (h : DB w g l dg pw bh W) (x : ByteArray) : DB w g l x pw bh (W.setCell ⟨w.heap.size, 2, none⟩ (.string x)) := ⟨h.1.setCell (p := ⟨w.heap.size, 2, none⟩) (Nat.le_refl _) _, h.2.p2 _⟩
theorem DB.q3 {w : World} {g l : Bool} {dg pw : ByteArray} {bh : Int} {W : World} (h : DB w g l dg pw bh W) (x : ByteArray) : DB w g l dg x bh (W.setCell ⟨w.heap.size, 3, none⟩ (.string x)) := ⟨h.1.setCell (p := ⟨w.heap.size, 3, none⟩) (Nat.le_refl _) _, h.2.p3 _⟩
theorem DB.q4 {w : World} {g l : Bool} {dg pw : ByteArray} {bh : Int} {W : World} (h : DB w g l dg pw bh W) (x : Int) : DB w g l dg pw x (W.setCell ⟨w.heap.size, 4, none⟩ (.int .i64 x)) := ⟨h.1.setCell (p := ⟨w.heap.size, 4, none⟩) (Nat.le_refl _) _, h.2.p4 _⟩
set_option maxRecDepth 100000 in
theorem PisDigit_c (c : UInt8) (w : World) : Calls Tryz.prog 154 #[.int .u8 (c.toNat : Int)] w fun e w' => e = .returned (.bool (isDgB c)) ∧ w = w' := by
  by_cases h1 : 48 ≤ c.toNat <;> by_cases h2 : c.toNat ≤ 57
  all_goals
    have e : isDgB c = (decide (48 ≤ c.toNat) && decide (c.toNat ≤ 57)) := by unfold isDgB; simp
    have q1 : decide ((48 : Int) ≤ (c.toNat : Int)) = decide (48 ≤ c.toNat) := by rw [Bool.eq_iff_iff, decide_eq_true_iff, decide_eq_true_iff]; omega
    have q2 : decide ((c.toNat : Int) ≤ 57) = decide (c.toNat ≤ 57) := by rw [Bool.eq_iff_iff, decide_eq_true_iff, decide_eq_true_iff]; omega
    first | rw [decide_eq_true h1] at e q1 | rw [decide_eq_false h1] at e q1
    first | rw [decide_eq_true h2] at e q2 | rw [decide_eq_false h2] at e q2
    rw [e]
    have n1 : ((48 : Int) ≤ (c.toNat : Int)) = (48 ≤ c.toNat) := by rw [eq_iff_iff]; omega
    clear h1 h2 e n1
    go_enter Tryz.func154, Tryz.ntmps154
    go_wp2
    go_ret
    exact ⟨by first | rfl | simp, rfl⟩
def FrS (w : World) (s0 : ByteArray) (k f : Int) (a : Act) : Prop := a.tmps.size = 116 ∧ a.defers = [] ∧ a.tmps[0]? = some (.string s0) ∧ a.tmps[2]? = some (.pointer (some ⟨w.heap.size, 0, none⟩)) ∧ a.tmps[3]? = some (.bool false) ∧ a.tmps[4]? = some (.int .i64 k) ∧ a.tmps[5]? = some (.int .i64 f)
theorem arr_range {α : Type} (A : Array α) (d : α) (n : Nat) (h : A.size = n) : A = ((List.range n).map fun i => A.getD i d).toArray := by
  subst h
  apply Array.ext
  · simp
  · intro i h1 h2
    simp [h1]
set_option maxRecDepth 10000 in
theorem FrS.ex {w : World} {s0 : ByteArray} {k f : Int} {a : Act} (h : FrS w s0 k f a) : ∃ U : Nat → Value, a = { tmps := #[U 0, U 1, U 2, U 3, U 4, U 5, U 6, U 7, U 8, U 9, U 10, U 11, U 12, U 13, U 14, U 15, U 16, U 17, U 18, U 19, U 20, U 21, U 22, U 23, U 24, U 25, U 26, U 27, U 28, U 29, U 30, U 31, U 32, U 33, U 34, U 35, U 36, U 37, U 38, U 39, U 40, U 41, U 42, U 43, U 44, U 45, U 46, U 47, U 48, U 49, U 50, U 51, U 52, U 53, U 54, U 55, U 56, U 57, U 58, U 59, U 60, U 61, U 62, U 63, U 64, U 65, U 66, U 67, U 68, U 69, U 70, U 71, U 72, U 73, U 74, U 75, U 76, U 77, U 78, U 79, U 80, U 81, U 82, U 83, U 84, U 85, U 86, U 87, U 88, U 89, U 90, U 91, U 92, U 93, U 94, U 95, U 96, U 97, U 98, U 99, U 100, U 101, U 102, U 103, U 104, U 105, U 106, U 107, U 108, U 109, U 110, U 111, U 112, U 113, U 114, U 115], defers := [] } ∧ U 0 = .string s0 ∧ U 2 = .pointer (some ⟨w.heap.size, 0, none⟩) ∧ U 3 = .bool false ∧ U 4 = .int .i64 k ∧ U 5 = .int .i64 f := by
  obtain ⟨h1, h2, p0, p2, p3, p4, p5⟩ := h
  have e := arr_range a.tmps undef 116 h1
  obtain ⟨A, D⟩ := a
  simp only at h1 h2 p0 p2 p3 p4 p5 e
  subst h2
  have g : ∀ {i : Nat} {v : Value}, A[i]? = some v → A.getD i undef = v := fun h => by rw [Array.getD_eq_getD_getElem?, h]; rfl
  refine ⟨fun i => A.getD i undef, ?_, g p0, g p2, g p3, g p4, g p5⟩
  congr 1
def JF (w : World) (s0 u : ByteArray) (g : Bool) (a' : Act) (w' : World) : Prop := ∃ (k : Nat), FrS w s0 (k : Int) (0 : Int) a' ∧ DB w g false ⟨#[]⟩ ⟨#[]⟩ 0 w' ∧ ¬ isAt u 0 48 ∧ k ≤ zN u
def JW (w : World) (s0 u : ByteArray) (g : Bool) (a' : Act) (w' : World) : Prop := ∃ (k : Nat), FrS w s0 (k : Int) (0 : Int) a' ∧ DB w g false ⟨#[]⟩ ⟨#[]⟩ 0 w' ∧ ((k = 1 ∧ isAt u 0 48) ∨ (k = zN u ∧ ¬ isAt u 0 48))
def JP (w : World) (s0 u : ByteArray) (g : Bool) (a' : Act) (w' : World) : Prop := ∃ (k : Nat), FrS w s0 (k : Int) ((zN u + 1 : Nat) : Int) a' ∧ DB w g false (u.extract 0 (zN u)) ⟨#[]⟩ 0 w' ∧ zPt u = true ∧ (0 < zN u ∧ (zN u = 1 ∨ ¬ isAt u 0 48)) ∧ zN u + 1 < k ∧ k ≤ zM u
def JE (w : World) (s0 u : ByteArray) (g : Bool) (a' : Act) (w' : World) : Prop := ∃ (k : Nat) (f : Int) (dg : ByteArray) (bh : Int), FrS w s0 (k : Int) (f : Int) a' ∧ DB w g false dg ⟨#[]⟩ bh w' ∧ ((∃ h : k < u.size, isDgB u[k] = true ∧ ¬ zOk u) ∨ (k = zM u ∧ (0 < zN u ∧ (zN u = 1 ∨ ¬ isAt u 0 48)) ∧ (zPt u = true → zN u + 1 < zM u) ∧ dg = zD u ∧ bh = (zB u : Int)))
def JM (w : World) (s0 u : ByteArray) (g : Bool) (a' : Act) (w' : World) : Prop := ∃ (k : Nat), FrS w s0 (k : Int) ((zJ u : Nat) : Int) a' ∧ DB w g (zL u) (zD u) ⟨#[]⟩ (zB u : Int) w' ∧ zX u = true ∧ (0 < zN u ∧ (zN u = 1 ∨ ¬ isAt u 0 48)) ∧ (zPt u = true → zN u + 1 < zM u) ∧ ¬ isAt u (zJ u) 48 ∧ zJ u < k ∧ k ≤ zE u (zJ u)
def JD (w : World) (s0 u : ByteArray) (g : Bool) (a' : Act) (w' : World) : Prop := ∃ (k : Nat), FrS w s0 (k : Int) ((zJ u : Nat) : Int) a' ∧ DB w g (zL u) (zD u) ⟨#[]⟩ (zB u : Int) w' ∧ zX u = true ∧ zL u = false ∧ (0 < zN u ∧ (zN u = 1 ∨ ¬ isAt u 0 48)) ∧ (zPt u = true → zN u + 1 < zM u) ∧ isAt u (zJ u) 48 ∧ k = zJ u + 1
def JZ (w : World) (s0 u : ByteArray) (g : Bool) (a' : Act) (w' : World) : Prop := ∃ (k : Nat) (f : Int) (l : Bool) (dg pw : ByteArray) (bh : Int), FrS w s0 (k : Int) (f : Int) a' ∧ DB w g l dg pw bh w' ∧ k ≤ u.size ∧ (k = u.size ↔ zOk u) ∧ (zOk u → l = zL u ∧ dg = zD u ∧ pw = zP u ∧ bh = (zB u : Int))
def JS (w : World) (s0 u : ByteArray) (g : Bool) (l : Nat) (a' : Act) (w' : World) : Prop := (l = 1 ∧ JF w s0 u g a' w') ∨ (l = 0 ∧ JW w s0 u g a' w') ∨ (l = 3 ∧ JP w s0 u g a' w') ∨ (l = 2 ∧ JE w s0 u g a' w') ∨ (l = 6 ∧ JM w s0 u g a' w') ∨ (l = 5 ∧ JD w s0 u g a' w') ∨ (l = 4 ∧ JZ w s0 u g a' w')
def rkL (l : Nat) : Nat := if l = 1 then 6 else if l = 0 then 5 else if l = 3 then 4 else if l = 2 then 3 else if l = 6 then 2 else if l = 5 then 1 else 0
def atA (a : Act) : Nat := match a.tmps[4]? with
  | some (Value.int _ q) => q.toNat
  | _ => 0
def muS (u : ByteArray) (l : Nat) (a : Act) : Nat := rkL l * (u.size + 2) + (u.size + 1 - atA a)
structure S0 (s0 u : ByteArray) : Prop where
  sz : s0.size = u.size + 1
  at_ : ∀ k (h : k < u.size) (h' : k < s0.size), s0[k] = u[k]
  end_ : ∀ (h : u.size < s0.size), s0[u.size] = 0
  ext : ∀ i j, j ≤ u.size → s0.extract i j = u.extract i j
theorem s0_of (u : ByteArray) : S0 (u ++ ⟨#[0]⟩) u := by
  have e : (u ++ ⟨#[0]⟩ : ByteArray).data.toList = u.data.toList ++ [0] := by rw [ba_app]
  have hs : (u ++ ⟨#[0]⟩ : ByteArray).size = u.size + 1 := by rw [ByteArray.size_append]; rfl
  refine ⟨hs, fun k h h' => ?_, fun h => ?_, fun i j hj => ?_⟩
  · show (u ++ ⟨#[0]⟩ : ByteArray).data.toList[k]'(by exact h') = u.data.toList[k]'(by exact h)
    simp only [e]
    rw [List.getElem_append_left]
  · show (u ++ ⟨#[0]⟩ : ByteArray).data.toList[u.size]'(by exact h) = 0
    simp only [e]
    rw [List.getElem_append_right (by exact Nat.le_refl _)]
    simp
  · apply ba_eq
    rw [ba_ext, ba_ext, e]
    by_cases hi : i ≤ u.size
    · rw [List.drop_append_of_le_length (by exact hi), List.take_append_of_le_length]
      rw [List.length_drop]; show j - i ≤ u.size - i; omega
    · rw [show j - i = 0 by omega, List.take_zero, List.take_zero]
end Go.Proofs.YtajcapliokblfaaGreatDoor
namespace Go.Proofs.YtajcapliokblfaaGreatDoor
open Go Go.RowKit Nt
noncomputable def scanC : Code := match Tryz.f102.body with
  | some (.seq _ (.scope c)) => c
  | _ => .skip
def ScP (u : ByteArray) (g : Bool) (w : World) (e : Ending) (w' : World) : Prop := (∃ (a b : Bool) (x y : ByteArray) (n : Int) (ok : Bool), e = .returned (.tuple #[.agg #[.bool a, .bool b, .string x, .string y, .int .i64 n], .bool ok]) ∧ (ok = true ↔ zOk u) ∧ (ok = true → a = g ∧ b = zL u ∧ x = zD u ∧ y = zP u ∧ n = (zB u : Int))) ∧ Below w.heap.size w w'
theorem ScP.no {u : ByteArray} {g a b : Bool} {x y : ByteArray} {n : Int} {w : World} {w' : World} (h : ¬ zOk u) (hb : Below w.heap.size w w') : ScP u g w (.returned (.tuple #[.agg #[.bool a, .bool b, .string x, .string y, .int .i64 n], .bool false])) w' := ⟨⟨a, b, x, y, n, false, rfl, ⟨fun c => absurd c Bool.false_ne_true, fun c => absurd c h⟩, fun c => absurd c Bool.false_ne_true⟩, hb⟩
theorem ScP.of {u : ByteArray} {g l : Bool} {dg pw : ByteArray} {bh : Int} {ok : Bool} {w w' : World} (h : ok = true ↔ zOk u) (h2 : zOk u → l = zL u ∧ dg = zD u ∧ pw = zP u ∧ bh = (zB u : Int)) (hb : Below w.heap.size w w') : ScP u g w (.returned (.tuple #[.agg #[.bool g, .bool l, .string dg, .string pw, .int .i64 bh], .bool ok])) w' :=
  ⟨⟨g, l, dg, pw, bh, ok, rfl, h, fun c => ⟨rfl, h2 (h.1 c)⟩⟩, hb⟩
theorem below_put5 {n : Nat} {w W : World} {A : Nat} (hb : Below n w W) (hA : n ≤ A) (a b c d e : Value) : Below n w (((((W.setCell ⟨A, 0, none⟩ a).setCell ⟨A, 1, none⟩ b).setCell ⟨A, 2, none⟩ c).setCell ⟨A, 3, none⟩ d).setCell ⟨A, 4, none⟩ e) :=
  ((((hb.setCell (p := ⟨A, 0, none⟩) hA a).setCell (p := ⟨A, 1, none⟩) hA b).setCell (p := ⟨A, 2, none⟩) hA c).setCell (p := ⟨A, 3, none⟩) hA d).setCell (p := ⟨A, 4, none⟩) hA e
theorem S0.dig {s0 u : ByteArray} (h : S0 s0 u) (i k : Nat) (hi : i ≤ u.size) (h1 : i ≤ k) (h2 : k ≤ zE u i) (h' : k < s0.size) : (k < zE u i → isDgB s0[k] = true ∧ k < u.size) ∧ (k = zE u i → isDgB s0[k] = false) := by
  have hle := zE_le u i hi
  constructor
  · intro h3
    have h4 : k < u.size := by omega
    rw [h.at_ k h4 h']
    exact ⟨zE_in u i k h1 h3 h4, h4⟩
  · intro h3
    by_cases h4 : k < u.size
    · rw [h.at_ k h4 h']
      subst h3
      exact zE_out u i hi h4
    · have h5 : k = u.size := by omega
      subst h5
      rw [h.end_ h']; decide
theorem S0.byte {s0 u : ByteArray} (h : S0 s0 u) (k c : Nat) (hc : c ≠ 0) (hk : k ≤ u.size) (h' : k < s0.size) : (isAt u k c → ((s0[k].toNat : Int) == (c : Int)) = true ∧ k < u.size) ∧ (¬ isAt u k c → ((s0[k].toNat : Int) == (c : Int)) = false) := by
  constructor
  · rintro ⟨h1, h2⟩
    rw [h.at_ k h1 h', h2]; simp [h1]
  · intro h2
    rw [beq_eq_false_iff_ne]
    intro h3
    by_cases h4 : k < u.size
    · rw [h.at_ k h4 h'] at h3
      exact h2 ⟨h4, by omega⟩
    · have h5 : k = u.size := by omega
      subst h5
      rw [h.end_ h'] at h3
      have : (0 : UInt8).toNat = 0 := rfl
      omega
theorem bne_of5 {a b : Int} {c : Bool} (h : (a == b) = c) : (a != b) = !c := by rw [bne, h]
theorem zN_le (u : ByteArray) : zN u ≤ u.size := by unfold zN; exact zE_le u 0 (Nat.zero_le _)
open Classical in
theorem zPt_iff {u : ByteArray} : zPt u = true ↔ isAt u (zN u) 46 := by unfold zPt; exact decide_eq_true_iff
open Classical in
theorem zX_iff {u : ByteArray} : zX u = true ↔ isAt u (zM u) 101 := by unfold zX; exact decide_eq_true_iff
open Classical in
theorem zL_iff {u : ByteArray} : zL u = true ↔ isAt u (zM u) 101 ∧ isAt u (zM u + 1) 45 := by unfold zL; exact decide_eq_true_iff
theorem zM_t {u : ByteArray} (h : zPt u = true) : zM u = zE u (zN u + 1) := by unfold zM; rw [if_pos h]
theorem zM_f {u : ByteArray} (h : ¬ zPt u = true) : zM u = zN u := by unfold zM; rw [if_neg h]
theorem zM_le (u : ByteArray) : zM u ≤ u.size := by
  by_cases h : zPt u = true
  · obtain ⟨h1, _⟩ := zPt_iff.1 h
    rw [zM_t h]; exact zE_le u _ h1
  · rw [zM_f h]; exact zN_le u
theorem zJ_t {u : ByteArray} (h : zL u = true) : zJ u = zM u + 2 := by unfold zJ; rw [if_pos h]
theorem zJ_f {u : ByteArray} (h : ¬ zL u = true) : zJ u = zM u + 1 := by unfold zJ; rw [if_neg h]
theorem zJ_le {u : ByteArray} (h : zX u = true) : zJ u ≤ u.size := by
  obtain ⟨h1, _⟩ := zX_iff.1 h
  by_cases k : zL u = true
  · obtain ⟨_, h2, _⟩ := zL_iff.1 k
    rw [zJ_t k]; omega
  · rw [zJ_f k]; omega
theorem zOk_x {u : ByteArray} (hX : zX u = true) (hH : 0 < zN u ∧ (zN u = 1 ∨ ¬ isAt u 0 48)) (hP : zPt u = true → zN u + 1 < zM u) : zOk u ↔ zJ u < u.size ∧ zE u (zJ u) = u.size ∧ (isAt u (zJ u) 48 → zL u = false ∧ u.size = zJ u + 1) :=
  ⟨fun h => h.2.2.2.2 hX, fun h => ⟨hH.1, hH.2, hP, fun c => absurd hX c, fun _ => h⟩⟩
theorem zOk_n {u : ByteArray} (hX : ¬ zX u = true) (hH : 0 < zN u ∧ (zN u = 1 ∨ ¬ isAt u 0 48)) (hP : zPt u = true → zN u + 1 < zM u) : zM u = u.size ↔ zOk u :=
  ⟨fun h => ⟨hH.1, hH.2, hP, fun _ => h, fun c => absurd c hX⟩, fun h => h.2.2.2.1 hX⟩
theorem zP_t {u : ByteArray} (h : zX u = true) : zP u = u.extract (zJ u) u.size := by unfold zP; rw [if_pos h]
theorem zP_f {u : ByteArray} (h : ¬ zX u = true) : zP u = ⟨#[]⟩ := by unfold zP; rw [if_neg h]
theorem zL_n {u : ByteArray} (h : ¬ zX u = true) : zL u = false := Bool.eq_false_iff.2 fun c => h (zX_iff.2 (zL_iff.1 c).1)
theorem zD_f {u : ByteArray} (h : ¬ zPt u = true) : zD u = u.extract 0 (zN u) ∧ zB u = 0 := by
  unfold zD zB
  rw [if_neg h, if_neg h]
  exact ⟨ba_eq (by rw [ba_app]; exact List.append_nil _), rfl⟩
theorem zD_t {u : ByteArray} (h : zPt u = true) : zD u = u.extract 0 (zN u) ++ u.extract (zN u + 1) (zM u) ∧ zB u = zM u - (zN u + 1) := by
  unfold zD zB
  rw [if_pos h, if_pos h]
  exact ⟨rfl, rfl⟩
theorem ext_full {s : ByteArray} {i j : Nat} (h : i < j) (hj : j ≤ s.size) : ¬ (s.extract i j).toList = [] ∧ (s.extract i j).toList.isEmpty = false ∧ ((s.extract i j).toList == []) = false := by
  have hz : (s.extract i j).size = j - i := by rw [ByteArray.size_extract]; omega
  have h1 : ¬ (s.extract i j).toList = [] := fun c => by
    rw [ba_toList] at c
    have : (s.extract i j).size = 0 := by show (s.extract i j).data.toList.length = 0; rw [c]; rfl
    omega
  exact ⟨h1, by simpa using h1, by simpa using h1⟩
theorem wp_mono5 {P : Program} {c : Code} {Q Q' : Exit → Act → World → Prop} {a : Act} {w : World} (h : ∀ e a w, Q e a w → Q' e a w) (hw : c.wp P Q a w) : c.wp P Q' a w := fun b k cs => by
  obtain ⟨e, a', w', hq, ha⟩ := hw b k cs
  exact ⟨e, a', w', h _ _ _ hq, ha⟩
theorem jumps_mono5 {J : Nat → Act → World → Prop} {μ : Nat → Act → Nat} {n m : Nat} {Q : Exit → Act → World → Prop} (h : n ≤ m) (e : Exit) (a : Act) (w : World) (hq : Exit.jumps (fun l a w => J l a w ∧ μ l a < n) Q e a w) : Exit.jumps (fun l a w => J l a w ∧ μ l a < m) Q e a w := by
  cases e with
  | goto l => exact ⟨hq.1, Nat.lt_of_lt_of_le hq.2 h⟩
  | normal => exact hq
  | exit id => exact hq
  | ret => exact hq
  | panic ch => exact hq
  | outgrown => exact hq
theorem ext_nil {s : ByteArray} (i : Nat) : s.extract i i = ⟨#[]⟩ := ba_eq (by rw [ba_ext, Nat.sub_self]; rfl)
set_option maxRecDepth 100000 in
set_option maxHeartbeats 4000000 in
theorem scan_4 (w : World) (s0 u : ByteArray) (g : Bool) (hS : S0 s0 u) (hz : u.size + 1 ≤ 9223372036854775807) (a : Act) (w' : World) (hJ : JZ w s0 u g a w') : ∃ rest, findLabel scanC 4 = some rest ∧ rest.wp Tryz.prog (Exit.jumps (fun l' a' w'' => JS w s0 u g l' a' w'' ∧ muS u l' a' < muS u 4 a) (bodyPost Tryz.prog Tryz.f102 (ScP u g w))) a w' := by
  refine ⟨_, rfl, ?_⟩
  obtain ⟨k, f, l, dg, pw, bh, hFr, hD, hk, hok, hfl⟩ := hJ
  obtain ⟨U, rfl, U0, U2, U3, U4, U5⟩ := hFr.ex
  rw [U0, U2, U3, U4, U5]
  clear U0 U2 U3 U4 U5 hFr
  obtain ⟨b0, ⟨c0, c1, c2, c3, c4⟩, z0, z1, z2, z3, z4⟩ := hD.box.facts
  have hsz := hS.sz
  generalize hQ : Exit.jumps _ _ = QQ
  have HQ := Lib.hid hQ
  have HD := Lib.hid hD
  have HS := Lib.hid hS
  clear hQ hD hS
  have hw : IntKind.i64.wrap ((s0.size : Int) - 1) = (u.size : Int) := by rw [IntWalk.i64_in _ ⟨by omega, by omega⟩]; omega
  have HO := Lib.hid hok
  have HF := Lib.hid hfl
  by_cases c : k = u.size
  · have q1 : ((k : Int) == (u.size : Int)) = true := by rw [beq_iff_eq]; omega
    have HC := Lib.hid c
    clear hok hfl hsz c hk
    go_wp2
    rw [← HQ.out]
    show bodyPost Tryz.prog Tryz.f102 (ScP u g w) Exit.ret _ _
    refine bodyPost_ret (v := .tuple #[.agg #[.bool g, .bool l, .string dg, .string pw, .int .i64 bh], .bool true]) (by simp [results, Tryz.results102, go_sem, c0, c1, c2, c3, c4, z0, z1, z2, z3, z4]) rfl (ScP.of ⟨fun _ => HO.out.1 HC.out, fun _ => rfl⟩ HF.out (below_put5 HD.out.low (Nat.le_refl _) _ _ _ _ _))
  · have q1 : ((k : Int) == (u.size : Int)) = false := by rw [beq_eq_false_iff_ne]; omega
    have HC := Lib.hid c
    clear hok hfl hsz c hk
    go_wp2
    rw [← HQ.out]
    show bodyPost Tryz.prog Tryz.f102 (ScP u g w) Exit.ret _ _
    refine bodyPost_ret (v := .tuple #[.agg #[.bool g, .bool l, .string dg, .string pw, .int .i64 bh], .bool false]) (by simp [results, Tryz.results102, go_sem, c0, c1, c2, c3, c4, z0, z1, z2, z3, z4]) rfl (ScP.of ⟨fun k => absurd k Bool.false_ne_true, fun k => absurd (HO.out.2 k) HC.out⟩ HF.out (below_put5 HD.out.low (Nat.le_refl _) _ _ _ _ _))
set_option maxRecDepth 100000 in
set_option maxHeartbeats 4000000 in
theorem scan_1 (w : World) (s0 u : ByteArray) (g : Bool) (hS : S0 s0 u) (hz : u.size + 1 ≤ 9223372036854775807) (a : Act) (w' : World) (hJ : JF w s0 u g a w') : ∃ rest, findLabel scanC 1 = some rest ∧ rest.wp Tryz.prog (Exit.jumps (fun l' a' w'' => JS w s0 u g l' a' w'' ∧ muS u l' a' < muS u 1 a) (bodyPost Tryz.prog Tryz.f102 (ScP u g w))) a w' := by
  refine ⟨_, rfl, ?_⟩
  obtain ⟨k, hFr, hD, hn48, hk⟩ := hJ
  obtain ⟨U, rfl, U0, U2, U3, U4, U5⟩ := hFr.ex
  rw [U0, U2, U3, U4, U5]
  clear U0 U2 U3 U4 U5 hFr
  obtain ⟨b0, ⟨c0, c1, c2, c3, c4⟩, z0, z1, z2, z3, z4⟩ := hD.box.facts
  have hsz := hS.sz
  generalize hQ : Exit.jumps _ _ = QQ
  have HQ := Lib.hid hQ
  have HD := Lib.hid hD
  have HS := Lib.hid hS
  clear hQ hD hS
  have hle : zN u ≤ u.size := by unfold zN; exact zE_le u 0 (Nat.zero_le _)
  have hk2 : k < s0.size := by omega
  have hdg := HS.out.dig 0 k (Nat.zero_le _) (Nat.zero_le _) (by unfold zN at hk; exact hk) hk2
  have H4 := Lib.hid hn48
  by_cases c : k < zN u
  · have hd : isDgB s0[k] = true := (hdg.1 (by unfold zN at c; exact c)).1
    clear hdg hn48
    go_wp2_with (first | (go_at_call 154; (with_reducible refine (PisDigit_c _ _).mono ?_); rintro ee w1 ⟨rfl, rfl⟩))
    go_step3
    rw [← HQ.out]
    refine ⟨(Or.inl ⟨rfl, k + 1, ⟨rfl, rfl, rfl, rfl, rfl, rfl, rfl⟩, HD.out, H4.out, by omega⟩), ?_⟩
    first | (simp [muS, rkL, atA]; done) | (simp [muS, rkL, atA]; omega)
  · have hd : isDgB s0[k] = false := hdg.2 (by unfold zN at hk c; omega)
    have hkn : k = zN u := by omega
    have HK := Lib.hid hkn
    clear hdg hn48 hkn
    go_wp2_with (first | (go_at_call 154; (with_reducible refine (PisDigit_c _ _).mono ?_); rintro ee w1 ⟨rfl, rfl⟩))
    go_step3
    rw [← HQ.out]
    refine ⟨(Or.inr (Or.inl ⟨rfl, k, ⟨rfl, rfl, rfl, rfl, rfl, rfl, rfl⟩, HD.out, Or.inr ⟨HK.out, H4.out⟩⟩)), ?_⟩
    first | (simp [muS, rkL, atA]; done) | (simp [muS, rkL, atA]; omega)
set_option maxRecDepth 100000 in
set_option maxHeartbeats 4000000 in
theorem scan_0 (w : World) (s0 u : ByteArray) (g : Bool) (hS : S0 s0 u) (hz : u.size + 1 ≤ 9223372036854775807) (a : Act) (w' : World) (hJ : JW w s0 u g a w') : ∃ rest, findLabel scanC 0 = some rest ∧ rest.wp Tryz.prog (Exit.jumps (fun l' a' w'' => JS w s0 u g l' a' w'' ∧ muS u l' a' < muS u 0 a) (bodyPost Tryz.prog Tryz.f102 (ScP u g w))) a w' := by
  refine ⟨_, rfl, ?_⟩
  obtain ⟨k, hFr, hD, hfacts⟩ := hJ
  obtain ⟨U, rfl, U0, U2, U3, U4, U5⟩ := hFr.ex
  rw [U0, U2, U3, U4, U5]
  clear U0 U2 U3 U4 U5 hFr
  obtain ⟨b0, ⟨c0, c1, c2, c3, c4⟩, z0, z1, z2, z3, z4⟩ := hD.box.facts
  have hsz := hS.sz
  generalize hQ : Exit.jumps _ _ = QQ
  have HQ := Lib.hid hQ
  have HD := Lib.hid hD
  have HS := Lib.hid hS
  clear hQ hD hS
  have hNl := zN_le u
  have hkl : k ≤ u.size := by rcases hfacts with ⟨h, h2, _⟩ | ⟨h, _⟩ <;> omega
  have hk2 : k < s0.size := by omega
  obtain ⟨dg, hdg⟩ : ∃ dg, dg = s0.extract 0 k := ⟨_, rfl⟩
  have hdg2 : dg = u.extract 0 k := hdg.trans (HS.out.ext _ _ hkl)
  have r0 : ∀ w, (Instr.slice 9 (.string s0) none (some (.int .i64 (k : Int))) none).run Tryz.prog w = .ok (.string dg) w := fun w => by
    have h := run_slice_string_h (P := Tryz.prog) w 9 s0 Tryz.underlying9 .i64 (k : Int) (by omega) (by omega)
    rw [Int.toNat_natCast, ← hdg] at h
    exact h
  have h46 := HS.out.byte k 46 (by decide) hkl hk2
  clear hdg
  by_cases ck : k = 0
  · have hno : ¬ zOk u := fun c => by rcases hfacts with ⟨h, _⟩ | ⟨h, _⟩; omega; have := c.1; omega
    have HN := Lib.hid hno
    have q0 : ((k : Int) == 0) = true := by rw [beq_iff_eq]; omega
    clear hno hfacts h46 hdg2 ck
    go_wp2_with (first | (go_at_call 154; (with_reducible refine (PisDigit_c _ _).mono ?_); rintro ee w1 ⟨rfl, rfl⟩))
    obtain ⟨-, ⟨y0, y1, y2, y3, y4⟩, -⟩ := ((((((HD.out.q2 dg).box.p0 (.bool false)).p1 (.bool false)).p2 (.string ⟨#[]⟩)).p3 (.string ⟨#[]⟩)).p4 (.int .i64 0)).facts
    rw [← HQ.out]
    show bodyPost Tryz.prog Tryz.f102 (ScP u g w) Exit.ret _ _
    refine bodyPost_ret (v := .tuple #[.agg #[.bool false, .bool false, .string ⟨#[]⟩, .string ⟨#[]⟩, .int .i64 0], .bool false]) (by simp [results, Tryz.results102, go_sem, y0, y1, y2, y3, y4]) rfl (ScP.no HN.out (below_put5 (HD.out.q2 dg).low (Nat.le_refl _) _ _ _ _ _))
  · have q0 : ((k : Int) == 0) = false := by rw [beq_eq_false_iff_ne]; omega
    have q0p := beq_eq_false_iff_ne.1 q0
    by_cases cb : k = zN u
    · have hH : 0 < zN u ∧ (zN u = 1 ∨ ¬ isAt u 0 48) := ⟨by omega, by rcases hfacts with ⟨h, _⟩ | ⟨_, h⟩; exact Or.inl (by omega); exact Or.inr h⟩
      have HH := Lib.hid hH
      have HK := Lib.hid cb
      have hdgN : dg = u.extract 0 (zN u) := by rw [hdg2, cb]
      by_cases hPt : zPt u = true
      · have hp1 := zPt_iff.1 hPt
        rw [← cb] at hp1
        obtain ⟨q1, hks⟩ := h46.1 hp1
        have q1n := bne_of5 q1
        obtain ⟨f, hf⟩ : ∃ f, f = zN u + 1 := ⟨_, rfl⟩
        have e1 : (k : Int) + 1 = (f : Int) := by omega
        have hf2 : f < s0.size := by omega
        have hdd := HS.out.dig f f (by omega) (Nat.le_refl _) (zE_ge u f) hf2
        have hMt := zM_t hPt
        rw [← hf] at hMt
        have HF := Lib.hid hf
        have HPt := Lib.hid hPt
        have hge := zE_ge u f
        have HS2 := Lib.hid hdgN
        by_cases cz : f < zE u f
        · have hd := (hdd.1 cz).1
          have HZ : Hid (f < zM u) := Lib.hid (by omega)
          clear hfacts h46 hp1 hdd hMt hPt hH cb hdg2 hdgN hge cz hf hks
          go_wp2_with (first | (go_at_call 154; (with_reducible refine (PisDigit_c _ _).mono ?_); rintro ee w1 ⟨rfl, rfl⟩))
          go_step3
          go_wp2_with (first | (go_at_call 154; (with_reducible refine (PisDigit_c _ _).mono ?_); rintro ee w1 ⟨rfl, rfl⟩))
          go_step3
          rw [← HQ.out]
          refine ⟨(Or.inr (Or.inr (Or.inl ⟨rfl, f + 1, (by rw [← HF.out]; exact ⟨rfl, rfl, rfl, rfl, rfl, rfl, rfl⟩), (by rw [← HS2.out]; exact HD.out.q2 dg), HPt.out, HH.out, by have := HF.out; omega, HZ.out⟩))), ?_⟩
          first | (simp [muS, rkL, atA]; done) | (simp [muS, rkL, atA]; omega)
        · have hd := hdd.2 (by omega)
          have hno : ¬ zOk u := fun c => by have := c.2.2.1 hPt; omega
          have HN := Lib.hid hno
          clear hfacts h46 hp1 hdd hMt hPt hH cb hdg2 hdgN hge cz hf hks hno
          go_wp2_with (first | (go_at_call 154; (with_reducible refine (PisDigit_c _ _).mono ?_); rintro ee w1 ⟨rfl, rfl⟩))
          go_step3
          go_wp2_with (first | (go_at_call 154; (with_reducible refine (PisDigit_c _ _).mono ?_); rintro ee w1 ⟨rfl, rfl⟩))
          obtain ⟨-, ⟨y0, y1, y2, y3, y4⟩, -⟩ := (((((((HD.out.q2 dg).q4 0).box.p0 (.bool false)).p1 (.bool false)).p2 (.string ⟨#[]⟩)).p3 (.string ⟨#[]⟩)).p4 (.int .i64 0)).facts
          rw [← HQ.out]
          show bodyPost Tryz.prog Tryz.f102 (ScP u g w) Exit.ret _ _
          refine bodyPost_ret (v := .tuple #[.agg #[.bool false, .bool false, .string ⟨#[]⟩, .string ⟨#[]⟩, .int .i64 0], .bool false]) (by simp [results, Tryz.results102, go_sem, y0, y1, y2, y3, y4]) rfl (ScP.no HN.out (below_put5 ((HD.out.q2 dg).q4 0).low (Nat.le_refl _) _ _ _ _ _))
      · have q1 := h46.2 (fun c => hPt (zPt_iff.2 (by rw [← cb]; exact c)))
        have q1n := bne_of5 q1
        obtain ⟨hD1, hB1⟩ := zD_f hPt
        have hMf := zM_f hPt
        have HP : Hid (k = zM u) := Lib.hid (by omega)
        have HPt := Lib.hid hPt
        have HB := Lib.hid hB1
        have HE := Lib.hid (hdgN.trans hD1.symm)
        clear hfacts h46 hPt hH cb hdg2 hdgN hD1 hB1 hMf
        go_wp2_with (first | (go_at_call 154; (with_reducible refine (PisDigit_c _ _).mono ?_); rintro ee w1 ⟨rfl, rfl⟩))
        go_step3
        rw [← HQ.out]
        refine ⟨(Or.inr (Or.inr (Or.inr (Or.inl ⟨rfl, k, _, _, _, ⟨rfl, rfl, rfl, rfl, rfl, rfl, rfl⟩, (HD.out.q2 dg), Or.inr ⟨HP.out, HH.out, fun c => absurd c HPt.out, HE.out, by rw [HB.out]; rfl⟩⟩)))), ?_⟩
        first | (simp [muS, rkL, atA]; done) | (simp [muS, rkL, atA]; omega)
    · obtain ⟨h1, h48⟩ : k = 1 ∧ isAt u 0 48 := by rcases hfacts with h | ⟨h, _⟩; exact h; exact absurd h cb
      obtain ⟨h49, h50⟩ := h48
      have h1N : 1 ≤ zN u := by
        refine Nat.not_lt.1 fun c => ?_
        have h2 : zE u 0 = 0 := by have := c; unfold zN at this; omega
        have h3 := zE_out u 0 (Nat.zero_le _) (by omega)
        have e : u[zE u 0]'(by omega) = u[0] := by congr 1
        rw [e] at h3
        unfold isDgB at h3
        have := of_decide_eq_false h3
        omega
      have hkz : k < u.size := by omega
      have hdig : isDgB u[k] = true := zE_in u 0 k (Nat.zero_le _) (by unfold zN at cb hNl h1N; omega) hkz
      have hno : ¬ zOk u := fun c => by rcases c.2.1 with h | h; omega; exact h ⟨h49, h50⟩
      have q1 : ((s0[k].toNat : Int) == 46) = false := by
        rw [HS.out.at_ k hkz hk2, beq_eq_false_iff_ne]
        have := of_decide_eq_true hdig
        omega
      have q1n := bne_of5 q1
      have HN : Hid (∃ h : k < u.size, isDgB u[k] = true ∧ ¬ zOk u) := Lib.hid ⟨hkz, hdig, hno⟩
      clear hfacts h46 hdg2 cb h1N hdig hno h50 h49 h1
      go_wp2_with (first | (go_at_call 154; (with_reducible refine (PisDigit_c _ _).mono ?_); rintro ee w1 ⟨rfl, rfl⟩))
      go_step3
      rw [← HQ.out]
      refine ⟨(Or.inr (Or.inr (Or.inr (Or.inl ⟨rfl, k, _, _, _, ⟨rfl, rfl, rfl, rfl, rfl, rfl, rfl⟩, (HD.out.q2 dg), Or.inl HN.out⟩)))), ?_⟩
      first | (simp [muS, rkL, atA]; done) | (simp [muS, rkL, atA]; omega)
set_option maxRecDepth 100000 in
set_option maxHeartbeats 4000000 in
theorem scan_2c (w : World) (s0 u : ByteArray) (g : Bool) (hS : S0 s0 u) (hz : u.size + 1 ≤ 9223372036854775807) (a : Act) (w' : World) (hJ : JE w s0 u g a w') : ∃ rest, findLabel scanC 2 = some (Code.skip.seq rest) ∧ rest.wp Tryz.prog (Exit.jumps (fun l' a' w'' => JS w s0 u g l' a' w'' ∧ muS u l' a' < muS u 2 a) (bodyPost Tryz.prog Tryz.f102 (ScP u g w))) a w' := by
  refine ⟨_, rfl, ?_⟩
  obtain ⟨k, f, dg, bh, hFr, hD, hfacts⟩ := hJ
  obtain ⟨U, rfl, U0, U2, U3, U4, U5⟩ := hFr.ex
  rw [U0, U2, U3, U4, U5]
  clear U0 U2 U3 U4 U5 hFr
  obtain ⟨b0, ⟨c0, c1, c2, c3, c4⟩, z0, z1, z2, z3, z4⟩ := hD.box.facts
  have hsz := hS.sz
  generalize hQ : Exit.jumps _ _ = QQ
  have HQ := Lib.hid hQ
  have HD := Lib.hid hD
  have HS := Lib.hid hS
  clear hQ hD hS
  rcases hfacts with ⟨hkz, hdig, hno⟩ | ⟨hk, hH, hP, rfl, rfl⟩
  · have hk2 : k < s0.size := by omega
    have q1 : ((s0[k].toNat : Int) == 101) = false := by
      rw [HS.out.at_ k hkz hk2, beq_eq_false_iff_ne]
      have := of_decide_eq_true hdig
      omega
    have q1n := bne_of5 q1
    have HN := Lib.hid hno
    have HZ : Hid (k < u.size) := Lib.hid hkz
    clear hno hdig
    go_wp2_with (first | (go_at_call 154; (with_reducible refine (PisDigit_c _ _).mono ?_); rintro ee w1 ⟨rfl, rfl⟩))
    go_step3
    rw [← HQ.out]
    refine ⟨(Or.inr (Or.inr (Or.inr (Or.inr (Or.inr (Or.inr ⟨rfl, k, _, _, _, _, _, ⟨rfl, rfl, rfl, rfl, rfl, rfl, rfl⟩, HD.out, Nat.le_of_lt HZ.out, ⟨fun c => absurd HZ.out (by omega), fun c => absurd c HN.out⟩, fun c => absurd c HN.out⟩)))))), ?_⟩
    first | (simp [muS, rkL, atA]; done) | (simp [muS, rkL, atA]; omega)
  · have hkle : k ≤ u.size := by rw [hk]; exact zM_le u
    have hk2 : k < s0.size := by omega
    have HK := Lib.hid hk
    have HH := Lib.hid hH
    have HP := Lib.hid hP
    have hb1 := HS.out.byte k 101 (by decide) hkle hk2
    skip
    by_cases hX : zX u = true
    · have hX1 := zX_iff.1 hX
      rw [← hk] at hX1
      obtain ⟨q1, hks⟩ := hb1.1 hX1
      have q1n := bne_of5 q1
      have HX := Lib.hid hX
      have hjl := zJ_le hX
      have hm2 : zJ u < s0.size := by omega
      have hzo := zOk_x hX hH hP
      have HZ := Lib.hid hzo
      have hb0 := HS.out.byte (zJ u) 48 (by decide) hjl hm2
      have hdg := HS.out.dig (zJ u) (zJ u) hjl (Nat.le_refl _) (zE_ge u (zJ u)) hm2
      have hge := zE_ge u (zJ u)
      have hEl := zE_le u (zJ u) hjl
      have r1 : ∀ w, (Instr.slice 9 (.string s0) (some (.int .i64 ((zJ u : Nat) : Int))) (some (.int .i64 ((zJ u : Nat) : Int))) none).run Tryz.prog w = .ok (.string ⟨#[]⟩) w := fun w => by
        have h := run_slice_string (P := Tryz.prog) w 9 s0 .i64 .i64 ((zJ u : Nat) : Int) ((zJ u : Nat) : Int) Tryz.underlying9 (by omega) (by omega) (by omega)
        rw [Int.toNat_natCast, ext_nil] at h
        exact h
      by_cases hL : zL u = true
      · obtain ⟨_, hL2⟩ := zL_iff.1 hL
        obtain ⟨j, hj⟩ : ∃ j, j = k + 1 := ⟨_, rfl⟩
        rw [← hk, ← hj] at hL2
        have hJ := zJ_t hL
        have hj2 : j < s0.size := by omega
        have hbj := HS.out.byte j 45 (by decide) (by omega) hj2
        obtain ⟨q2, hjs⟩ := hbj.1 hL2
        have e1 : (k : Int) + 1 = (j : Int) := by omega
        have e2 : (j : Int) + 1 = ((zJ u : Nat) : Int) := by omega
        have HL := Lib.hid hL
        by_cases h0 : isAt u (zJ u) 48
        · have q3 := (hb0.1 h0).1
          have HA := Lib.hid h0
          clear hb1 hb0 hdg hbj hX hX1 hzo hH hP hk hge hEl hL hL2 hJ hj h0
          go_wp2_with (first | (go_at_call 154; (with_reducible refine (PisDigit_c _ _).mono ?_); rintro ee w1 ⟨rfl, rfl⟩))
          obtain ⟨-, ⟨y0, y1, y2, y3, y4⟩, -⟩ := (((((((HD.out.q1 true)).box.p0 (.bool false)).p1 (.bool false)).p2 (.string ⟨#[]⟩)).p3 (.string ⟨#[]⟩)).p4 (.int .i64 0)).facts
          rw [← HQ.out]
          show bodyPost Tryz.prog Tryz.f102 (ScP u g w) Exit.ret _ _
          refine bodyPost_ret (v := .tuple #[.agg #[.bool false, .bool false, .string ⟨#[]⟩, .string ⟨#[]⟩, .int .i64 0], .bool false]) (by simp [results, Tryz.results102, go_sem, y0, y1, y2, y3, y4]) rfl (ScP.no (fun c => by have := ((HZ.out.1 c).2.2 HA.out).1; rw [HL.out] at this; cases this) (below_put5 (HD.out.q1 true).low (Nat.le_refl _) _ _ _ _ _))
        · have q3 := hb0.2 h0
          have q3p := beq_eq_false_iff_ne.1 q3
          have HA := Lib.hid h0
          by_cases cz : zJ u < zE u (zJ u)
          · have hd := (hdg.1 cz).1
            have HE := Lib.hid cz
            clear hb1 hb0 hdg hbj hX hX1 hzo hH hP hk hge hEl hL hL2 hJ hj h0 cz
            go_wp2_with (first | (go_at_call 154; (with_reducible refine (PisDigit_c _ _).mono ?_); rintro ee w1 ⟨rfl, rfl⟩))
            go_step3
            go_wp2_with (first | (go_at_call 154; (with_reducible refine (PisDigit_c _ _).mono ?_); rintro ee w1 ⟨rfl, rfl⟩))
            go_step3
            rw [← HQ.out]
            refine ⟨(Or.inr (Or.inr (Or.inr (Or.inr (Or.inl ⟨rfl, zJ u + 1, ⟨rfl, rfl, rfl, rfl, rfl, rfl, rfl⟩, (by rw [HL.out]; exact (HD.out.q1 true)), HX.out, HH.out, HP.out, HA.out, by omega, HE.out⟩))))), ?_⟩
            first | (simp [muS, rkL, atA]; done) | (simp [muS, rkL, atA]; omega)
          · have hd := hdg.2 (by omega)
            have hno : ¬ zOk u := fun c => by obtain ⟨a, b, _⟩ := hzo.1 c; omega
            have HN := Lib.hid hno
            clear hb1 hb0 hdg hbj hX hX1 hzo hH hP hk hge hEl hL hL2 hJ hj h0 cz hno
            go_wp2_with (first | (go_at_call 154; (with_reducible refine (PisDigit_c _ _).mono ?_); rintro ee w1 ⟨rfl, rfl⟩))
            go_step3
            go_wp2_with (first | (go_at_call 154; (with_reducible refine (PisDigit_c _ _).mono ?_); rintro ee w1 ⟨rfl, rfl⟩))
            go_step3
            go_wp2_with (first | (go_at_call 154; (with_reducible refine (PisDigit_c _ _).mono ?_); rintro ee w1 ⟨rfl, rfl⟩))
            obtain ⟨-, ⟨y0, y1, y2, y3, y4⟩, -⟩ := (((((((HD.out.q1 true).q3 ⟨#[]⟩).box.p0 (.bool false)).p1 (.bool false)).p2 (.string ⟨#[]⟩)).p3 (.string ⟨#[]⟩)).p4 (.int .i64 0)).facts
            rw [← HQ.out]
            show bodyPost Tryz.prog Tryz.f102 (ScP u g w) Exit.ret _ _
            refine bodyPost_ret (v := .tuple #[.agg #[.bool false, .bool false, .string ⟨#[]⟩, .string ⟨#[]⟩, .int .i64 0], .bool false]) (by simp [results, Tryz.results102, go_sem, y0, y1, y2, y3, y4]) rfl (ScP.no HN.out (below_put5 ((HD.out.q1 true).q3 ⟨#[]⟩).low (Nat.le_refl _) _ _ _ _ _))
      · have hJ := zJ_f hL
        have hbj := HS.out.byte (zJ u) 45 (by decide) hjl hm2
        have q2 := hbj.2 (fun c => hL (zL_iff.2 ⟨zX_iff.1 hX, by rw [← hJ]; exact c⟩))
        have e1 : (k : Int) + 1 = ((zJ u : Nat) : Int) := by omega
        have HL := Lib.hid (Bool.eq_false_iff.2 hL)
        by_cases h0 : isAt u (zJ u) 48
        · have q3 := (hb0.1 h0).1
          have HA := Lib.hid h0
          clear hb1 hb0 hdg hbj hX hX1 hzo hH hP hk hge hEl hL hJ h0
          go_wp2_with (first | (go_at_call 154; (with_reducible refine (PisDigit_c _ _).mono ?_); rintro ee w1 ⟨rfl, rfl⟩))
          go_step3
          rw [← HQ.out]
          refine ⟨(Or.inr (Or.inr (Or.inr (Or.inr (Or.inr (Or.inl ⟨rfl, zJ u + 1, ⟨rfl, rfl, rfl, rfl, rfl, rfl, rfl⟩, (by rw [HL.out]; exact (HD.out.q1 false)), HX.out, HL.out, HH.out, HP.out, HA.out, rfl⟩)))))), ?_⟩
          first | (simp [muS, rkL, atA]; done) | (simp [muS, rkL, atA]; omega)
        · have q3 := hb0.2 h0
          have q3p := beq_eq_false_iff_ne.1 q3
          have HA := Lib.hid h0
          by_cases cz : zJ u < zE u (zJ u)
          · have hd := (hdg.1 cz).1
            have HE := Lib.hid cz
            clear hb1 hb0 hdg hbj hX hX1 hzo hH hP hk hge hEl hL hJ h0 cz
            go_wp2_with (first | (go_at_call 154; (with_reducible refine (PisDigit_c _ _).mono ?_); rintro ee w1 ⟨rfl, rfl⟩))
            go_step3
            go_wp2_with (first | (go_at_call 154; (with_reducible refine (PisDigit_c _ _).mono ?_); rintro ee w1 ⟨rfl, rfl⟩))
            go_step3
            rw [← HQ.out]
            refine ⟨(Or.inr (Or.inr (Or.inr (Or.inr (Or.inl ⟨rfl, zJ u + 1, ⟨rfl, rfl, rfl, rfl, rfl, rfl, rfl⟩, (by rw [HL.out]; exact (HD.out.q1 false)), HX.out, HH.out, HP.out, HA.out, by omega, HE.out⟩))))), ?_⟩
            first | (simp [muS, rkL, atA]; done) | (simp [muS, rkL, atA]; omega)
          · have hd := hdg.2 (by omega)
            have hno : ¬ zOk u := fun c => by obtain ⟨a, b, _⟩ := hzo.1 c; omega
            have HN := Lib.hid hno
            clear hb1 hb0 hdg hbj hX hX1 hzo hH hP hk hge hEl hL hJ h0 cz hno
            go_wp2_with (first | (go_at_call 154; (with_reducible refine (PisDigit_c _ _).mono ?_); rintro ee w1 ⟨rfl, rfl⟩))
            go_step3
            go_wp2_with (first | (go_at_call 154; (with_reducible refine (PisDigit_c _ _).mono ?_); rintro ee w1 ⟨rfl, rfl⟩))
            go_step3
            go_wp2_with (first | (go_at_call 154; (with_reducible refine (PisDigit_c _ _).mono ?_); rintro ee w1 ⟨rfl, rfl⟩))
            obtain ⟨-, ⟨y0, y1, y2, y3, y4⟩, -⟩ := (((((((HD.out.q1 false).q3 ⟨#[]⟩).box.p0 (.bool false)).p1 (.bool false)).p2 (.string ⟨#[]⟩)).p3 (.string ⟨#[]⟩)).p4 (.int .i64 0)).facts
            rw [← HQ.out]
            show bodyPost Tryz.prog Tryz.f102 (ScP u g w) Exit.ret _ _
            refine bodyPost_ret (v := .tuple #[.agg #[.bool false, .bool false, .string ⟨#[]⟩, .string ⟨#[]⟩, .int .i64 0], .bool false]) (by simp [results, Tryz.results102, go_sem, y0, y1, y2, y3, y4]) rfl (ScP.no HN.out (below_put5 ((HD.out.q1 false).q3 ⟨#[]⟩).low (Nat.le_refl _) _ _ _ _ _))
    · have q1 := hb1.2 (fun c => hX (zX_iff.2 (by rw [← hk]; exact c)))
      have q1n := bne_of5 q1
      have HX := Lib.hid hX
      have HL : Hid (k ≤ u.size) := Lib.hid hkle
      clear hb1 hX hH hP hk
      go_wp2_with (first | (go_at_call 154; (with_reducible refine (PisDigit_c _ _).mono ?_); rintro ee w1 ⟨rfl, rfl⟩))
      go_step3
      rw [← HQ.out]
      refine ⟨(Or.inr (Or.inr (Or.inr (Or.inr (Or.inr (Or.inr ⟨rfl, k, _, _, _, _, _, ⟨rfl, rfl, rfl, rfl, rfl, rfl, rfl⟩, HD.out, HL.out, (by rw [HK.out]; exact zOk_n HX.out HH.out HP.out), fun _ => ⟨(zL_n HX.out).symm, rfl, (zP_f HX.out).symm, rfl⟩⟩)))))), ?_⟩
      first | (simp [muS, rkL, atA]; done) | (simp [muS, rkL, atA]; omega)
theorem scan_2 (w : World) (s0 u : ByteArray) (g : Bool) (hS : S0 s0 u) (hz : u.size + 1 ≤ 9223372036854775807) (a : Act) (w' : World) (hJ : JE w s0 u g a w') : ∃ rest, findLabel scanC 2 = some rest ∧ rest.wp Tryz.prog (Exit.jumps (fun l' a' w'' => JS w s0 u g l' a' w'' ∧ muS u l' a' < muS u 2 a) (bodyPost Tryz.prog Tryz.f102 (ScP u g w))) a w' := by
  obtain ⟨rest, h1, h2⟩ := scan_2c w s0 u g hS hz a w' hJ
  exact ⟨_, h1, wp_seq (wp_skip h2)⟩
theorem scan_2r (w : World) (s0 u : ByteArray) (g : Bool) (hS : S0 s0 u) (hz : u.size + 1 ≤ 9223372036854775807) (rest : Code) (hr : findLabel scanC 2 = some (Code.skip.seq rest)) (a : Act) (w' : World) (hJ : JE w s0 u g a w') : rest.wp Tryz.prog (Exit.jumps (fun l' a' w'' => JS w s0 u g l' a' w'' ∧ muS u l' a' < muS u 2 a) (bodyPost Tryz.prog Tryz.f102 (ScP u g w))) a w' := by
  obtain ⟨rest', h1, h2⟩ := scan_2c w s0 u g hS hz a w' hJ
  have h3 := Option.some.inj (hr.symm.trans h1)
  obtain rfl : rest = rest' := by injection h3
  exact h2
set_option maxRecDepth 100000 in
set_option maxHeartbeats 4000000 in
theorem scan_3 (w : World) (s0 u : ByteArray) (g : Bool) (hS : S0 s0 u) (hz : u.size + 1 ≤ 9223372036854775807) (a : Act) (w' : World) (hJ : JP w s0 u g a w') : ∃ rest, findLabel scanC 3 = some rest ∧ rest.wp Tryz.prog (Exit.jumps (fun l' a' w'' => JS w s0 u g l' a' w'' ∧ muS u l' a' < muS u 3 a) (bodyPost Tryz.prog Tryz.f102 (ScP u g w))) a w' := by
  refine ⟨_, rfl, ?_⟩
  obtain ⟨k, hFr, hD, hPt, hH, hk1, hk0⟩ := hJ
  obtain ⟨U, rfl, U0, U2, U3, U4, U5⟩ := hFr.ex
  rw [U0, U2, U3, U4, U5]
  clear U0 U2 U3 U4 U5 hFr
  obtain ⟨b0, ⟨c0, c1, c2, c3, c4⟩, z0, z1, z2, z3, z4⟩ := hD.box.facts
  have hsz := hS.sz
  generalize hQ : Exit.jumps _ _ = QQ
  have HQ := Lib.hid hQ
  have HD := Lib.hid hD
  have HS := Lib.hid hS
  clear hQ hD hS
  have hps : zN u < u.size := by obtain ⟨h, _⟩ := zPt_iff.1 hPt; exact h
  have hMt := zM_t hPt
  have hMl := zM_le u
  have hk2 : k < s0.size := by omega
  have hdg := HS.out.dig (zN u + 1) k hps (by omega) (by omega) hk2
  have HPt := Lib.hid hPt
  have HHd := Lib.hid hH
  by_cases cm : k < zM u
  · have hd := (hdg.1 (by omega)).1
    clear hdg hPt hMt hps hH
    go_wp2_with (first | (go_at_call 154; (with_reducible refine (PisDigit_c _ _).mono ?_); rintro ee w1 ⟨rfl, rfl⟩))
    go_step3
    rw [← HQ.out]
    refine ⟨(Or.inr (Or.inr (Or.inl ⟨rfl, k + 1, ⟨rfl, rfl, rfl, rfl, rfl, rfl, rfl⟩, HD.out, HPt.out, HHd.out, by omega, by omega⟩))), ?_⟩
    first | (simp [muS, rkL, atA]; done) | (simp [muS, rkL, atA]; omega)
  · have hd := hdg.2 (by omega)
    have hk : k = zM u := by omega
    have hP : zPt u = true → zN u + 1 < zM u := fun _ => by omega
    obtain ⟨hD1, hB1⟩ := zD_t hPt
    obtain ⟨f, hf⟩ : ∃ f, f = zN u + 1 := ⟨_, rfl⟩
    rw [← hf]
    rw [← hf] at hB1 hD1
    have e0 : (k : Int) - (f : Int) = ((zB u : Nat) : Int) := by omega
    have q0 : (((zB u : Nat) : Int) == 0) = false := by rw [beq_eq_false_iff_ne]; omega
    have q0p := beq_eq_false_iff_ne.1 q0
    obtain ⟨pt, hpt⟩ : ∃ pt, pt = s0.extract f k := ⟨_, rfl⟩
    have hpt2 : pt = u.extract f (zM u) := by rw [hpt, hk]; exact HS.out.ext _ _ hMl
    have r0 : ∀ w, (Instr.slice 9 (.string s0) (some (.int .i64 ((f : Nat) : Int))) (some (.int .i64 ((k : Nat) : Int))) none).run Tryz.prog w = .ok (.string pt) w := fun w => by
      have h := run_slice_string (P := Tryz.prog) w 9 s0 .i64 .i64 ((f : Nat) : Int) ((k : Nat) : Int) Tryz.underlying9 (by omega) (by omega) (by omega)
      rw [Int.toNat_natCast, Int.toNat_natCast, ← hpt] at h
      exact h
    have hz0 : (u.extract 0 (zN u)).size + pt.size ≤ 9223372036854775807 := by rw [hpt2, ByteArray.size_extract, ByteArray.size_extract]; omega
    have hcat : u.extract 0 (zN u) ++ pt = zD u := by rw [hD1, hpt2]
    obtain ⟨A0, hA0⟩ : ∃ A0, A0 = u.extract 0 (zN u) := ⟨_, rfl⟩
    rw [← hA0] at hcat hz0 c2 HD
    clear hA0 hpt hpt2 hD1
    have hz1 : ¬ 9223372036854775807 < A0.size + pt.size := by omega
    clear hdg hPt hMt hps hB1 hz0 hk0 hk1 cm hf
    have HK := Lib.hid hk
    have HH := Lib.hid hH
    have HP := Lib.hid hP
    clear hk hH hP
    go_upto_region 19 with (first | (go_at_call 154; (with_reducible refine (PisDigit_c _ _).mono ?_); rintro ee w1 ⟨rfl, rfl⟩))
    go_region
    go_wp2_with (first | (go_at_call 154; (with_reducible refine (PisDigit_c _ _).mono ?_); rintro ee w1 ⟨rfl, rfl⟩))
    have HD3 := Lib.hid (((HD.out.q4 ((zB u : Nat) : Int)).q2 (zD u)).step (Below.refl _ _).drew)
    go_step3
    simp only [Exit.then]
    apply_assumption
    rw [← HQ.out]
    refine wp_mono5 (jumps_mono5 ?hm) (scan_2r w s0 u g HS.out hz _ rfl _ _ ?hJ)
    case hJ => exact ⟨k, _, zD u, ((zB u : Nat) : Int), ⟨rfl, rfl, rfl, rfl, rfl, rfl, rfl⟩, HD3.out, Or.inr ⟨HK.out, HH.out, HP.out, rfl, rfl⟩⟩
    case hm => first | (simp [muS, rkL, atA]; done) | (simp [muS, rkL, atA]; omega)
set_option maxRecDepth 100000 in
set_option maxHeartbeats 4000000 in
theorem scan_6 (w : World) (s0 u : ByteArray) (g : Bool) (hS : S0 s0 u) (hz : u.size + 1 ≤ 9223372036854775807) (a : Act) (w' : World) (hJ : JM w s0 u g a w') : ∃ rest, findLabel scanC 6 = some rest ∧ rest.wp Tryz.prog (Exit.jumps (fun l' a' w'' => JS w s0 u g l' a' w'' ∧ muS u l' a' < muS u 6 a) (bodyPost Tryz.prog Tryz.f102 (ScP u g w))) a w' := by
  refine ⟨_, rfl, ?_⟩
  obtain ⟨k, hFr, hD, hX, hH, hP, h48, hk1, hk⟩ := hJ
  obtain ⟨U, rfl, U0, U2, U3, U4, U5⟩ := hFr.ex
  rw [U0, U2, U3, U4, U5]
  clear U0 U2 U3 U4 U5 hFr
  obtain ⟨b0, ⟨c0, c1, c2, c3, c4⟩, z0, z1, z2, z3, z4⟩ := hD.box.facts
  have hsz := hS.sz
  generalize hQ : Exit.jumps _ _ = QQ
  have HQ := Lib.hid hQ
  have HD := Lib.hid hD
  have HS := Lib.hid hS
  clear hQ hD hS
  have hj := zJ_le hX
  have hle := zE_le u (zJ u) hj
  have hk2 : k < s0.size := by omega
  have hdg := HS.out.dig (zJ u) k hj (by omega) hk hk2
  have HX := Lib.hid hX
  have HH := Lib.hid hH
  have HP := Lib.hid hP
  have H4 := Lib.hid h48
  clear hX hH hP h48
  by_cases c : k < zE u (zJ u)
  · have hd : isDgB s0[k] = true := (hdg.1 c).1
    clear hdg
    go_wp2_with (first | (go_at_call 154; (with_reducible refine (PisDigit_c _ _).mono ?_); rintro ee w1 ⟨rfl, rfl⟩))
    go_step3
    rw [← HQ.out]
    refine ⟨(Or.inr (Or.inr (Or.inr (Or.inr (Or.inl ⟨rfl, k + 1, ⟨rfl, rfl, rfl, rfl, rfl, rfl, rfl⟩, HD.out, HX.out, HH.out, HP.out, H4.out, by omega, by omega⟩))))), ?_⟩
    first | (simp [muS, rkL, atA]; done) | (simp [muS, rkL, atA]; omega)
  · have hd : isDgB s0[k] = false := hdg.2 (by omega)
    have hkE : k = zE u (zJ u) := by omega
    obtain ⟨pw, hpw⟩ : ∃ pw, pw = s0.extract (zJ u) (k) := ⟨_, rfl⟩
    have hfull := ext_full (s := s0) (i := zJ u) (j := k) (by omega) (by omega)
    have hext : pw = u.extract (zJ u) (k) := hpw.trans (HS.out.ext _ _ (by omega))
    rw [← hpw] at hfull
    obtain ⟨f1, f2, f3⟩ := hfull
    have hw : IntKind.i64.wrap ((s0.size : Int) - 1) = (u.size : Int) := by rw [IntWalk.i64_in _ ⟨by omega, by omega⟩]; omega
    have r1 : ∀ w, (Instr.slice 9 (.string s0) (some (.int .i64 ((zJ u : Nat) : Int))) (some (.int .i64 ((k : Nat) : Int))) none).run Tryz.prog w = .ok (.string pw) w := fun w => by
      have h := run_slice_string (P := Tryz.prog) w 9 s0 .i64 .i64 ((zJ u : Nat) : Int) ((k : Nat) : Int) Tryz.underlying9 (by omega) (by omega) (by omega)
      rw [Int.toNat_natCast, Int.toNat_natCast, ← hpw] at h
      exact h
    have HE := Lib.hid hkE
    have HT := Lib.hid hext
    have hz2 := zOk_x HX.out HH.out HP.out
    have HZ := Lib.hid hz2
    have HJ : Hid (zJ u < k) := Lib.hid hk1
    by_cases ce : k = u.size
    · have q1 : ((k : Int) == (u.size : Int)) = true := by rw [beq_iff_eq]; omega
      have HC := Lib.hid ce
      clear hdg hkE hpw hext hz2 hle hj c ce hk hk1 hsz
      go_wp2_with (first | (go_at_call 154; (with_reducible refine (PisDigit_c _ _).mono ?_); rintro ee w1 ⟨rfl, rfl⟩))
      go_step3
      go_wp2_with (first | (go_at_call 154; (with_reducible refine (PisDigit_c _ _).mono ?_); rintro ee w1 ⟨rfl, rfl⟩))
      go_step3
      go_wp2_with (first | (go_at_call 154; (with_reducible refine (PisDigit_c _ _).mono ?_); rintro ee w1 ⟨rfl, rfl⟩))
      rw [← HQ.out]
      show bodyPost Tryz.prog Tryz.f102 (ScP u g w) Exit.ret _ _
      refine bodyPost_ret (v := .tuple #[.agg #[.bool g, .bool (zL u), .string (zD u), .string pw, .int .i64 (zB u : Int)], .bool true]) (by simp [results, Tryz.results102, go_sem, c0, c1, c2, c3, c4, z0, z1, z2, z3, z4]) rfl (ScP.of ⟨fun _ => HZ.out.2 ⟨by have := HJ.out; have := HC.out; omega, HE.out.symm.trans HC.out, fun c => absurd c H4.out⟩, fun _ => rfl⟩ (fun _ => ⟨rfl, rfl, by rw [HT.out, HC.out, zP_t HX.out], rfl⟩) (below_put5 (HD.out.q3 pw).low (Nat.le_refl _) _ _ _ _ _))
    · have q1 : ((k : Int) == (u.size : Int)) = false := by rw [beq_eq_false_iff_ne]; omega
      have HC := Lib.hid ce
      clear hdg hkE hpw hext hz2 hle hj c ce hk hk1 hsz
      go_wp2_with (first | (go_at_call 154; (with_reducible refine (PisDigit_c _ _).mono ?_); rintro ee w1 ⟨rfl, rfl⟩))
      go_step3
      go_wp2_with (first | (go_at_call 154; (with_reducible refine (PisDigit_c _ _).mono ?_); rintro ee w1 ⟨rfl, rfl⟩))
      go_step3
      go_wp2_with (first | (go_at_call 154; (with_reducible refine (PisDigit_c _ _).mono ?_); rintro ee w1 ⟨rfl, rfl⟩))
      rw [← HQ.out]
      show bodyPost Tryz.prog Tryz.f102 (ScP u g w) Exit.ret _ _
      refine bodyPost_ret (v := .tuple #[.agg #[.bool g, .bool (zL u), .string (zD u), .string pw, .int .i64 (zB u : Int)], .bool false]) (by simp [results, Tryz.results102, go_sem, c0, c1, c2, c3, c4, z0, z1, z2, z3, z4]) rfl (ScP.no (fun c => HC.out (HE.out.trans (HZ.out.1 c).2.1)) (below_put5 (HD.out.q3 pw).low (Nat.le_refl _) _ _ _ _ _))
set_option maxRecDepth 100000 in
set_option maxHeartbeats 4000000 in
theorem scan_5 (w : World) (s0 u : ByteArray) (g : Bool) (hS : S0 s0 u) (hz : u.size + 1 ≤ 9223372036854775807) (a : Act) (w' : World) (hJ : JD w s0 u g a w') : ∃ rest, findLabel scanC 5 = some rest ∧ rest.wp Tryz.prog (Exit.jumps (fun l' a' w'' => JS w s0 u g l' a' w'' ∧ muS u l' a' < muS u 5 a) (bodyPost Tryz.prog Tryz.f102 (ScP u g w))) a w' := by
  refine ⟨_, rfl, ?_⟩
  obtain ⟨k, hFr, hD, hX, hL, hH, hP, h48, hk⟩ := hJ
  obtain ⟨U, rfl, U0, U2, U3, U4, U5⟩ := hFr.ex
  rw [U0, U2, U3, U4, U5]
  clear U0 U2 U3 U4 U5 hFr
  obtain ⟨b0, ⟨c0, c1, c2, c3, c4⟩, z0, z1, z2, z3, z4⟩ := hD.box.facts
  have hsz := hS.sz
  generalize hQ : Exit.jumps _ _ = QQ
  have HQ := Lib.hid hQ
  have HD := Lib.hid hD
  have HS := Lib.hid hS
  clear hQ hD hS
  have hj := zJ_le hX
  obtain ⟨hj1, hj2⟩ := h48
  have hz2 := zOk_x hX hH hP
  have hE : zJ u + 1 = u.size → zE u (zJ u) = u.size := fun h => by
    have h1 := zE_le u (zJ u) hj
    have h2 := zE_ge u (zJ u)
    refine Classical.not_not.1 fun c => ?_
    have h3 : zE u (zJ u) = zJ u := by omega
    have h4 := zE_out u (zJ u) hj (by omega)
    have e : u[zE u (zJ u)]'(by omega) = u[zJ u] := by congr 1
    rw [e] at h4
    unfold isDgB at h4
    have := of_decide_eq_false h4
    omega
  have hok : k = u.size ↔ zOk u := by
    rw [hk, hz2]
    exact ⟨fun h => ⟨hj1, hE h, fun _ => ⟨hL, by omega⟩⟩, fun h => ((h.2.2 ⟨hj1, hj2⟩).2).symm⟩
  obtain ⟨pw, hpw⟩ : ∃ pw, pw = s0.extract (zJ u) (k) := ⟨_, rfl⟩
  have hfull := ext_full (s := s0) (i := zJ u) (j := k) (by omega) (by omega)
  have hext : pw = u.extract (zJ u) (k) := hpw.trans (HS.out.ext _ _ (by omega))
  rw [← hpw] at hfull
  obtain ⟨f1, f2, f3⟩ := hfull
  have hw : IntKind.i64.wrap ((s0.size : Int) - 1) = (u.size : Int) := by rw [IntWalk.i64_in _ ⟨by omega, by omega⟩]; omega
  have r1 : ∀ w, (Instr.slice 9 (.string s0) (some (.int .i64 ((zJ u : Nat) : Int))) (some (.int .i64 ((k : Nat) : Int))) none).run Tryz.prog w = .ok (.string pw) w := fun w => by
    have h := run_slice_string (P := Tryz.prog) w 9 s0 .i64 .i64 ((zJ u : Nat) : Int) ((k : Nat) : Int) Tryz.underlying9 (by omega) (by omega) (by omega)
    rw [Int.toNat_natCast, Int.toNat_natCast, ← hpw] at h
    exact h
  have HO := Lib.hid hok
  have HX := Lib.hid hX
  have HT := Lib.hid hext
  clear hpw hext hz2 hE hok hH hP hL hX hj2
  have HK := Lib.hid hk
  by_cases ce : k = u.size
  · have q1 : ((k : Int) == (u.size : Int)) = true := by rw [beq_iff_eq]; omega
    have HC := Lib.hid ce
    clear ce hj hj1 hsz hk
    go_wp2_with (first | (go_at_call 154; (with_reducible refine (PisDigit_c _ _).mono ?_); rintro ee w1 ⟨rfl, rfl⟩))
    go_step3
    go_wp2_with (first | (go_at_call 154; (with_reducible refine (PisDigit_c _ _).mono ?_); rintro ee w1 ⟨rfl, rfl⟩))
    rw [← HQ.out]
    show bodyPost Tryz.prog Tryz.f102 (ScP u g w) Exit.ret _ _
    refine bodyPost_ret (v := .tuple #[.agg #[.bool g, .bool (zL u), .string (zD u), .string pw, .int .i64 (zB u : Int)], .bool true]) (by simp [results, Tryz.results102, go_sem, c0, c1, c2, c3, c4, z0, z1, z2, z3, z4]) rfl (ScP.of ⟨fun _ => HO.out.1 HC.out, fun _ => rfl⟩ (fun _ => ⟨rfl, rfl, by rw [HT.out, HC.out, zP_t HX.out], rfl⟩) (below_put5 (HD.out.q3 pw).low (Nat.le_refl _) _ _ _ _ _))
  · have q1 : ((k : Int) == (u.size : Int)) = false := by rw [beq_eq_false_iff_ne]; omega
    have HC := Lib.hid ce
    clear ce hj hj1 hsz hk
    go_wp2_with (first | (go_at_call 154; (with_reducible refine (PisDigit_c _ _).mono ?_); rintro ee w1 ⟨rfl, rfl⟩))
    go_step3
    go_wp2_with (first | (go_at_call 154; (with_reducible refine (PisDigit_c _ _).mono ?_); rintro ee w1 ⟨rfl, rfl⟩))
    rw [← HQ.out]
    show bodyPost Tryz.prog Tryz.f102 (ScP u g w) Exit.ret _ _
    refine bodyPost_ret (v := .tuple #[.agg #[.bool g, .bool (zL u), .string (zD u), .string pw, .int .i64 (zB u : Int)], .bool false]) (by simp [results, Tryz.results102, go_sem, c0, c1, c2, c3, c4, z0, z1, z2, z3, z4]) rfl (ScP.no (fun c => HC.out (HO.out.2 c)) (below_put5 (HD.out.q3 pw).low (Nat.le_refl _) _ _ _ _ _))
end Go.Proofs.YtajcapliokblfaaGreatDoor
namespace Go.Proofs.YtajcapliokblfaaGreatDoor
open Go Go.RowKit Nt
theorem DB.start (w : World) (T : TypeId) : DB w false false ⟨#[]⟩ ⟨#[]⟩ 0 (w.alloc (.cells #[.bool false, .bool false, .string ⟨#[]⟩, .string ⟨#[]⟩, .int .i64 0] T)) := ⟨(Below.refl _ _).alloc (Nat.le_refl _) _, Bx5.new w _ _ _ _ _ T⟩
set_option maxRecDepth 100000 in
set_option maxHeartbeats 4000000 in
theorem scan_c (s : ByteArray) (w : World) (hs : s.size + 1 ≤ 9223372036854775807) : Calls Tryz.prog 102 #[.string s] w (ScP (offB 45 s) (begB 45 s) w) := by
  have K : Hid (∀ w, Calls Tryz.prog 98 #[.string s, .string ⟨#[45]⟩] w fun e w' => e = .returned (.tuple #[.string (offB 45 s), .bool (begB 45 s)]) ∧ Below w.heap.size w w') := Lib.hid fun w => PCutPrefix_c 45 s w
  have hz : (offB 45 s).size + 1 ≤ 9223372036854775807 := by have := offB_size 45 s; omega
  generalize offB 45 s = u at *
  generalize begB 45 s = g at *
  clear hs
  have hS0 := s0_of u
  obtain ⟨s0, hs0⟩ : ∃ s0, s0 = u ++ ⟨#[0]⟩ := ⟨_, rfl⟩
  rw [← hs0] at hS0
  have hcat : u ++ ⟨#[0]⟩ = s0 := hs0.symm
  clear hs0
  have hsz := hS0.sz
  have HS := Lib.hid hS0
  have h1 : (ByteArray.mk #[0]).size = 1 := rfl
  have hz1 : ¬ 9223372036854775807 < u.size + (ByteArray.mk #[0]).size := by rw [h1]; omega
  have hz2 : ¬ 9223372036854775807 < u.size + 1 := by omega
  have T0 := DB.start w 121
  have hb1 := HS.out.byte 0 48 (by decide) (Nat.zero_le _) (by omega)
  have hdg := HS.out.dig 0 0 (Nat.zero_le _) (Nat.le_refl _) (zE_ge u 0) (by omega)
  have hk2 : 0 < s0.size := by omega
  clear hS0 h1
  go_enter Tryz.func102, Tryz.ntmps102
  go_wp2
  refine wp_scope_labels (JS w s0 u g) (fun l a _ => muS u l a) ?first ?pass
  case pass =>
    intro l a w' h
    rcases h with ⟨rfl, h⟩ | ⟨rfl, h⟩ | ⟨rfl, h⟩ | ⟨rfl, h⟩ | ⟨rfl, h⟩ | ⟨rfl, h⟩ | ⟨rfl, h⟩
    · exact scan_1 w s0 u g HS.out hz a w' h
    · exact scan_0 w s0 u g HS.out hz a w' h
    · exact scan_3 w s0 u g HS.out hz a w' h
    · exact scan_2 w s0 u g HS.out hz a w' h
    · exact scan_6 w s0 u g HS.out hz a w' h
    · exact scan_5 w s0 u g HS.out hz a w' h
    · exact scan_4 w s0 u g HS.out hz a w' h
  case first =>
    generalize hQ : Exit.jumps _ _ = QQ
    have HQ := Lib.hid hQ
    clear hQ
    by_cases h0 : isAt u 0 48
    · have q1 := (hb1.1 h0).1
      have HA := Lib.hid h0
      clear hb1 hdg h0
      go_wp2_with (first | (go_at_call 98; (with_reducible refine (K.out _).mono ?_); rintro ee w1 ⟨rfl, hb⟩; replace T0 := T0.step hb; clear hb; obtain ⟨b0, ⟨c0, c1, c2, c3, c4⟩, z0, z1, z2, z3, z4⟩ := T0.box.facts) | (go_at_call 154; (with_reducible refine (PisDigit_c _ _).mono ?_); rintro ee w1 ⟨rfl, rfl⟩))
      go_step3
      rw [← HQ.out]
      exact (Or.inr (Or.inl ⟨rfl, 1, ⟨rfl, rfl, rfl, rfl, rfl, rfl, rfl⟩, T0.q0 g, Or.inl ⟨rfl, HA.out⟩⟩))
    · have q1 := hb1.2 h0
      have q1p := beq_eq_false_iff_ne.1 q1
      have HA := Lib.hid h0
      by_cases cz : 0 < zE u 0
      · have hd := (hdg.1 cz).1
        have HZ : Hid (1 ≤ zN u) := Lib.hid (by unfold zN; omega)
        clear hb1 hdg h0 cz
        go_wp2_with (first | (go_at_call 98; (with_reducible refine (K.out _).mono ?_); rintro ee w1 ⟨rfl, hb⟩; replace T0 := T0.step hb; clear hb; obtain ⟨b0, ⟨c0, c1, c2, c3, c4⟩, z0, z1, z2, z3, z4⟩ := T0.box.facts) | (go_at_call 154; (with_reducible refine (PisDigit_c _ _).mono ?_); rintro ee w1 ⟨rfl, rfl⟩))
        go_step3
        go_wp2_with (first | (go_at_call 98; (with_reducible refine (K.out _).mono ?_); rintro ee w1 ⟨rfl, hb⟩; replace T0 := T0.step hb; clear hb; obtain ⟨b0, ⟨c0, c1, c2, c3, c4⟩, z0, z1, z2, z3, z4⟩ := T0.box.facts) | (go_at_call 154; (with_reducible refine (PisDigit_c _ _).mono ?_); rintro ee w1 ⟨rfl, rfl⟩))
        go_step3
        rw [← HQ.out]
        exact (Or.inl ⟨rfl, 1, ⟨rfl, rfl, rfl, rfl, rfl, rfl, rfl⟩, T0.q0 g, HA.out, HZ.out⟩)
      · have hd := hdg.2 (by omega)
        have HZ : Hid (0 = zN u) := Lib.hid (by unfold zN; omega)
        clear hb1 hdg h0 cz
        go_wp2_with (first | (go_at_call 98; (with_reducible refine (K.out _).mono ?_); rintro ee w1 ⟨rfl, hb⟩; replace T0 := T0.step hb; clear hb; obtain ⟨b0, ⟨c0, c1, c2, c3, c4⟩, z0, z1, z2, z3, z4⟩ := T0.box.facts) | (go_at_call 154; (with_reducible refine (PisDigit_c _ _).mono ?_); rintro ee w1 ⟨rfl, rfl⟩))
        go_step3
        go_wp2_with (first | (go_at_call 98; (with_reducible refine (K.out _).mono ?_); rintro ee w1 ⟨rfl, hb⟩; replace T0 := T0.step hb; clear hb; obtain ⟨b0, ⟨c0, c1, c2, c3, c4⟩, z0, z1, z2, z3, z4⟩ := T0.box.facts) | (go_at_call 154; (with_reducible refine (PisDigit_c _ _).mono ?_); rintro ee w1 ⟨rfl, rfl⟩))
        go_step3
        rw [← HQ.out]
        exact (Or.inr (Or.inl ⟨rfl, 0, ⟨rfl, rfl, rfl, rfl, rfl, rfl, rfl⟩, T0.q0 g, Or.inr ⟨HZ.out, HA.out⟩⟩))
end Go.Proofs.YtajcapliokblfaaGreatDoor
namespace Go.Proofs.YtajcapliokblfaaGreatDoor
open Go Go.RowKit Nt Go.Lib
def itPos (W : World) (B : Nat) : Nat := match W.heap[B]? with
  | some (.stringIter _ p) => p
  | _ => 0
theorem itPos_of {W : World} {B p : Nat} {s : ByteArray} (h : W.heap[B]? = some (.stringIter s p)) : itPos W B = p := by unfold itPos; rw [h]
@[irreducible] def smV (s : ByteArray) (k : Nat) : Nat := min (preV s k) 5001
theorem smV_zero (s : ByteArray) : smV s 0 = 0 := by unfold smV; rw [preV_zero]; rfl
theorem smV_le (s : ByteArray) (k : Nat) : smV s k ≤ 5001 := by unfold smV; exact Nat.min_le_right _ _
theorem smV_succ (s : ByteArray) (k : Nat) (h : k < s.size) : smV s (k + 1) = min (10 * smV s k + (s[k].toNat - 48)) 5001 := by
  unfold smV
  rw [preV_succ s k h]
  omega
set_option maxRecDepth 100000 in
set_option maxHeartbeats 1000000 in
theorem PSmall_c (s : ByteArray) (w : World) (hd : Digits s) (hz : s.size ≤ 9223372036854775807) : Calls Tryz.prog 155 #[.string s] w fun e w' => e = .returned (.int .i64 (smV s s.size : Nat)) ∧ Below w.heap.size w w' := by
  have HD := Lib.hid hd
  clear hd
  have h0 : (w.iter s 0).heap[w.heap.size]? = some (.stringIter s 0) := heap_alloc_new w (.stringIter s 0)
  have hb0 : Below w.heap.size w (w.iter s 0) := (Below.refl _ _).alloc (Nat.le_refl _) _
  go_enter Tryz.func155, Tryz.ntmps155
  go_wp2
  revert h0 hb0
  generalize w.iter s 0 = w0
  intro h0 hb0
  go_loopw [3] (fun v wr => ∃ (k n : Nat), v = .int .i64 (n : Nat) ∧ k ≤ s.size ∧ Hid (n = smV s k) ∧ Hid (wr.heap[w.heap.size]? = some (.stringIter s k)) ∧ Hid (Below w.heap.size w wr)) (fun _ wr => s.size - itPos wr w.heap.size)
  case atStart => exact ⟨0, 0, rfl, Nat.zero_le _, Lib.hid (smV_zero s).symm, Lib.hid h0, Lib.hid hb0⟩
  case round =>
    obtain ⟨k, n, rfl, hk, hn, hi, hb⟩ := hrel
    by_cases hlt : k < s.size
    · have hdk := HD.out k hlt
      unfold isDig at hdk
      have hsv := smV_succ s k hlt
      have hn0 : ∀ ty, (Instr.next (.pointer (some ⟨w.heap.size, 0, none⟩)) true ty).run Tryz.prog wr = .ok (.tuple #[.bool true, .int .i64 (k : Nat), .int .i32 (s[k].toNat : Nat)]) (wr.iterAt w.heap.size s (k + 1)) := fun ty => run_next_ascii_at wr w.heap.size s k ty hi.out hlt (by omega)
      have hi2 := iterAt_heap wr w.heap.size s k (k + 1) hi.out
      have hb2 := below_iterAt hb.out (Nat.le_refl _) s (k + 1)
      have hp1 := itPos_of hi.out
      have hp2 := itPos_of hi2
      have hnl := smV_le s k
      have hn2 := hn.out
      revert hn0 hi2 hb2 hsv hp2
      generalize wr.iterAt w.heap.size s (k + 1) = wq
      generalize s[k].toNat = c at *
      intro hsv hn0 hi2 hb2 hp2
      obtain ⟨n2, hn3⟩ : ∃ n2, n2 = smV s (k + 1) := ⟨_, rfl⟩
      rw [← hn2] at hsv hnl
      rw [← hn3] at hsv
      have HS := Lib.hid hsv
      have HN := Lib.hid hn3
      have HI := Lib.hid hi2
      have HB := Lib.hid hb2
      have HP1 := Lib.hid hp1
      have HP2 := Lib.hid hp2
      clear hsv hn3 hi2 hb2 hn2 hi hb hn hp1 hp2
      go_wp2
      go_round
      case rel => exact ⟨k + 1, n2, by have := HS.out; congr 1; omega, hlt, HN, HI, HB⟩
      case measure => rw [HP1.out, HP2.out]; omega
    · have hke : k = s.size := by omega
      have hn0 : ∀ ty, (Instr.next (.pointer (some ⟨w.heap.size, 0, none⟩)) true ty).run Tryz.prog wr = .ok (.tuple #[.bool false]) wr := fun ty => run_next_end_at wr w.heap.size s k ty hi.out hlt
      have HK := Lib.hid hke
      clear hke hlt
      go_wp2
      go_ret
      exact ⟨by rw [hn.out, HK.out]; rfl, hb.out⟩
end Go.Proofs.YtajcapliokblfaaGreatDoor
namespace Go.Proofs.YtajcapliokblfaaGreatDoor
open Go Go.RowKit Nt Go.Lib
theorem ten_pow (b e k n : Nat) (hb : 1 < b) (h10 : 10 ≤ b) (h : n < e * k) : 10 ^ n < (b ^ e) ^ k := by
  rw [← Nat.pow_mul]
  exact Nat.lt_of_le_of_lt (Nat.pow_le_pow_left h10 n) (Nat.pow_lt_pow_right hb h)
theorem ten_lt (n : Nat) (h : n ≤ 9096) : 10 ^ n < W ^ 600 := by
  have e : W = 16 ^ 16 := by rw [W_eq]
  rw [e]
  exact ten_pow 16 16 600 n (by decide) (by decide) (by omega)
theorem ten_nd (n : Nat) (h : n ≤ 9096) : nd W (10 ^ n) ≤ 600 := nd_le W2 (ten_lt n h)
theorem ten_fits (n : Nat) (h : n ≤ 9096) : fits (10 ^ n) := by
  unfold fits
  refine nd_le (by omega) ?_
  have h1 := ten_pow 256 1 16384 n (by decide) (by decide) (by omega)
  rwa [Nat.pow_one] at h1
theorem nd2_10 : nd 2 10 = 4 := nd_unique (b := 2) (n := 10) (k := 3) (by omega) (by decide) (by decide)
theorem Pow10_c (n : Nat) (w : World) (h : n ≤ 9096) : Calls Tryz.prog 156 #[.string (natS 10), .int .i64 (n : Nat)] w (StrPost (natS (10 ^ n)) 0 w) := by
  rcases Nat.lt_or_ge n 2 with h2 | h2
  · rcases (show n = 0 ∨ n = 1 by omega) with rfl | rfl
    · exact NPow_zero 10 w fits_10
    · exact NPow_same 10 1 w fits_10 (by omega) (Or.inr rfl)
  · have hp := NPow_c 10 n w fits_10 (by rw [nd2_10]; omega) h2 (by omega) (by rw [nd2_10]; omega)
    rw [resS_ok (ten_fits n h), resE_ok (ten_fits n h)] at hp
    exact hp
structure Dm where
  (neg : Bool) (less : Bool) (dg : ByteArray) (pw : ByteArray) (bh : Nat)
@[reducible] def Dm.cells (d : Dm) : Array Value := #[.bool d.neg, .bool d.less, .string d.dg, .string d.pw, .int .i64 (d.bh : Nat)]
def VKd (d : Dm) (w : World) (k pos : Nat) (W : World) : Prop := Below w.heap.size w W ∧ Blk W w.heap.size 121 d.cells ∧ (∃ b y z, Bx3 W (w.heap.size + 1) (.bool b, y, z)) ∧ w.heap.size + 1 < k ∧ W.heap[k]? = some (.stringIter d.dg pos)
theorem VKd.step {d : Dm} {w : World} {k pos : Nat} {W W' : World} (h : VKd d w k pos W) (hb : Below W.heap.size W W') : VKd d w k pos W' := by
  obtain ⟨h1, h2, ⟨b, y, z, h3⟩, h4, h5⟩ := h
  exact ⟨below_chain h1 hb, h2.below hb h2.lt, ⟨b, y, z, h3.step hb⟩, h4, (hb.block k (Array.getElem?_eq_some_iff.1 h5).1).trans h5⟩
theorem VKd.drawn {d : Dm} {w : World} {k pos : Nat} {W : World} (h : VKd d w k pos W) (n : Nat) : VKd d w k pos (W.drewN n) := h.step (below_drewN (Below.refl _ _) n)
theorem VKd.drew {d : Dm} {w : World} {k pos : Nat} {W : World} (h : VKd d w k pos W) : VKd d w k pos W.drew := h.step (Below.refl _ _).drew
theorem VKd.next {d : Dm} {w : World} {k pos : Nat} {W : World} (h : VKd d w k pos W) (q : Nat) : VKd d w k q (W.iterAt k d.dg q) := by
  obtain ⟨h1, h2, ⟨b, y, z, T, h3⟩, h4, h5⟩ := h
  refine ⟨below_iterAt h1 (by omega) _ _, (iterAt_other _ _ _ _ _ (by omega)).trans h2, ⟨b, y, z, T, (iterAt_other _ _ _ _ _ (by omega)).trans h3⟩, h4, iterAt_heap _ _ _ _ _ h5⟩
theorem VKd.put {d : Dm} {w : World} {k pos : Nat} {W : World} (h : VKd d w k pos W) (x : Bool) (y z : Value) : VKd d w k pos (((W.setCell ⟨w.heap.size + 1, 0, none⟩ (.bool x)).setCell ⟨w.heap.size + 1, 1, none⟩ y).setCell ⟨w.heap.size + 1, 2, none⟩ z) := by
  obtain ⟨h1, h2, ⟨b, y', z', h3⟩, h4, h5⟩ := h
  refine ⟨below_put3 h1 (by omega) _ _ _, ((h2.far (p := ⟨w.heap.size + 1, 0, none⟩) (by simp) _).far (p := ⟨w.heap.size + 1, 1, none⟩) (by simp) _).far (p := ⟨w.heap.size + 1, 2, none⟩) (by simp) _, ⟨_, _, _, h3.put _ _ _⟩, h4, ?_⟩
  have : ∀ (U : World) (i : Nat) (v : Value), (U.setCell ⟨w.heap.size + 1, i, none⟩ v).heap[k]? = U.heap[k]? := fun U i v => by
    simp [World.setCell, Array.getElem?_modify]; omega
  rw [this, this, this]; exact h5
theorem VKd.cells {d : Dm} {w : World} {k pos : Nat} {W : World} (h : VKd d w k pos W) : w.heap.size + 1 < W.heap.size ∧ W.cell? ⟨w.heap.size, 0, none⟩ = some (.bool d.neg) ∧ W.cell? ⟨w.heap.size, 1, none⟩ = some (.bool d.less) ∧ W.cell? ⟨w.heap.size, 2, none⟩ = some (.string d.dg) ∧ W.cell? ⟨w.heap.size, 3, none⟩ = some (.string d.pw) ∧ W.cell? ⟨w.heap.size, 4, none⟩ = some (.int .i64 (d.bh : Nat)) := by
  obtain ⟨h1, h2, ⟨b, y, z, h3⟩, h4, h5⟩ := h
  exact ⟨h3.facts.1, by rw [h2.cell]; rfl, by rw [h2.cell]; rfl, by rw [h2.cell]; rfl, by rw [h2.cell]; rfl, by rw [h2.cell]; rfl⟩
theorem VKd.res {d : Dm} {w : World} {k pos : Nat} {W : World} (h : VKd d w k pos W) : w.heap.size + 1 < W.heap.size ∧ W.cell? ⟨w.heap.size + 1, 0, none⟩ = some (celAt W (w.heap.size + 1) 0) ∧ W.cell? ⟨w.heap.size + 1, 1, none⟩ = some (celAt W (w.heap.size + 1) 1) ∧ W.cell? ⟨w.heap.size + 1, 2, none⟩ = some (celAt W (w.heap.size + 1) 2) ∧ W.frozen? ⟨w.heap.size + 1, 0, none⟩ = false ∧ W.frozen? ⟨w.heap.size + 1, 1, none⟩ = false ∧ W.frozen? ⟨w.heap.size + 1, 2, none⟩ = false := by
  obtain ⟨h1, h2, ⟨b, y, z, hc⟩, h4, h5⟩ := h
  obtain ⟨r0, r1, r2, r3, r4, r5, r6⟩ := hc.facts
  exact ⟨r0, celAt_eq r1, celAt_eq r2, celAt_eq r3, r4, r5, r6⟩
def VBd (d : Dm) (w : World) (W : World) : Prop := Below w.heap.size w W ∧ Blk W w.heap.size 121 d.cells ∧ ∃ b y z, Bx3 W (w.heap.size + 1) (.bool b, y, z)
theorem VBd.start (d : Dm) (w : World) (T : TypeId) : VBd d w ((w.alloc (.cells d.cells 121)).alloc (.cells #[.bool false, .string ⟨#[]⟩, .string ⟨#[]⟩] T)) := by
  refine ⟨((Below.refl _ _).alloc (Nat.le_refl _) _).alloc (by simp) _, (Blk.new w _ _).alloc _, false, .string ⟨#[]⟩, .string ⟨#[]⟩, ?_⟩
  have := Bx3.new (w.alloc (.cells d.cells 121)) (.bool false) (.string ⟨#[]⟩) (.string ⟨#[]⟩) T
  simpa using this
theorem VBd.step {d : Dm} {w W W' : World} (h : VBd d w W) (hb : Below W.heap.size W W') : VBd d w W' := by
  obtain ⟨h1, h2, b, y, z, h3⟩ := h
  exact ⟨below_chain h1 hb, h2.below hb h2.lt, b, y, z, h3.step hb⟩
theorem VBd.iter {d : Dm} {w W : World} (h : VBd d w W) : VKd d w W.heap.size 0 (W.iter d.dg 0) := by
  obtain ⟨h1, h2, b, y, z, h3⟩ := h.step (W' := W.iter d.dg 0) ((Below.refl _ _).alloc (Nat.le_refl _) _)
  obtain ⟨_, _, b', y', z', h3'⟩ := h
  exact ⟨h1, h2, ⟨b, y, z, h3⟩, h3'.facts.1, World.iter_heap W d.dg 0⟩
theorem VBd.cells {d : Dm} {w W : World} (h : VBd d w W) : w.heap.size + 1 < W.heap.size ∧ W.cell? ⟨w.heap.size, 0, none⟩ = some (.bool d.neg) ∧ W.cell? ⟨w.heap.size, 1, none⟩ = some (.bool d.less) ∧ W.cell? ⟨w.heap.size, 2, none⟩ = some (.string d.dg) ∧ W.cell? ⟨w.heap.size, 3, none⟩ = some (.string d.pw) ∧ W.cell? ⟨w.heap.size, 4, none⟩ = some (.int .i64 (d.bh : Nat)) := by
  obtain ⟨h1, h2, b, y, z, h3⟩ := h
  exact ⟨h3.facts.1, by rw [h2.cell]; rfl, by rw [h2.cell]; rfl, by rw [h2.cell]; rfl, by rw [h2.cell]; rfl, by rw [h2.cell]; rfl⟩
end Go.Proofs.YtajcapliokblfaaGreatDoor
namespace Go.Proofs.YtajcapliokblfaaGreatDoor
open Go Go.RowKit Nt Go.Lib
set_option maxRecDepth 100000 in
set_option maxHeartbeats 2000000 in
theorem PValue_long (neg less : Bool) (dg pw : ByteArray) (bh : Nat) (w : World) (hd : Digits pw) (hz : pw.size ≤ 9223372036854775807) (hb5 : bh ≤ 4096) (hl : smV pw pw.size = 5001) : Calls Tryz.prog 103 #[.agg #[.bool neg, .bool less, .string dg, .string pw, .int .i64 (bh : Nat)]] w fun e w' => e = .returned (.tuple #[.agg #[.bool false, .string ⟨#[]⟩, .string ⟨#[]⟩], .int .i64 4]) ∧ Below w.heap.size w w' := by
  have KS := Lib.hid (fun w => PSmall_c pw w hd hz)
  rw [hl] at KS
  clear hl hd
  have T0 := VBd.start ⟨neg, less, dg, pw, bh⟩ w 24
  have TC := T0.cells
  dsimp only [Dm.cells] at TC T0
  obtain ⟨p0, p1, p2, p3, p5, p4⟩ := TC
  go_enter Tryz.func103, Tryz.ntmps103
  go_wp2_with fail
  refine (KS.out _).mono ?_
  rintro ee w1 ⟨rfl, hb⟩
  replace T0 := T0.step hb
  clear hb p0 p1 p2 p3 p4 p5
  have TC := T0.cells
  dsimp only at TC
  obtain ⟨p0, p1, p2, p3, p5, p4⟩ := TC
  obtain ⟨q1, q2, b, y, z, q3⟩ := T0
  obtain ⟨r0, r1, r2, r3, r4, r5, r6⟩ := q3.facts
  have hfin := below_put3 q1 (show w.heap.size ≤ w.heap.size + 1 by omega)
  go_wp2_with fail
  refine bodyPost_ret (v := .tuple #[.agg #[.bool false, .string ⟨#[]⟩, .string ⟨#[]⟩], .int .i64 4]) (by simp [results, Tryz.results103, go_sem, r0, r1, r2, r3]) rfl ⟨rfl, hfin _ _ _⟩
theorem Row.iter {w : World} {B L n k : Nat} {A : Option Addr} {s : ByteArray} {p : Nat} (h : Row w B A n L) (hk : w.heap[k]? = some (.stringIter s p)) (q : Nat) : Row (w.iterAt k s q) B A n L := fun hL => by
  obtain ⟨g, e, hg, hc⟩ := h hL
  have hne : g ≠ k := by
    intro hgk
    have := hc 0 hL
    unfold World.cell? at this
    rw [show (⟨g, 0, none⟩ : Addr).block = k from hgk, hk] at this
    cases this
  refine ⟨g, e, hg, fun j hj => ?_⟩
  rw [← hc j hj]
  unfold World.cell?
  rw [iterAt_other _ _ _ _ _ (show (⟨g, j, none⟩ : Addr).block ≠ k from hne)]
theorem ten_prod (dg : ByteArray) (h : Digits dg) (u : Nat) (hu : dg.size + u ≤ 9096) : nd W (preV dg dg.size) + nd W (10 ^ u) ≤ 1000000000 ∧ nd W (preV dg dg.size * 10 ^ u) ≤ 9000 := by
  have h1 := Nat.le_of_lt (dig_pre h dg.size (Nat.le_refl _))
  have h2 := nd_mono (b := W) W2 h1
  have h3 := ten_nd dg.size (by omega)
  have h4 := ten_nd u (by omega)
  have h5 : preV dg dg.size * 10 ^ u ≤ 10 ^ (dg.size + u) := by rw [Nat.pow_add]; exact Nat.mul_le_mul_right _ h1
  have h6 := nd_mono (b := W) W2 h5
  have h7 := ten_nd (dg.size + u) hu
  omega
set_option maxRecDepth 100000 in
set_option maxHeartbeats 2000000 in
theorem PValue_f (neg : Bool) (dg pw : ByteArray) (bh : Nat) (w : World) (hd : Digits pw) (hz : pw.size ≤ 9223372036854775807) (hb5 : bh ≤ 4096) (hdg : Digits dg) (hz2 : dg.size ≤ 4096) (hl : smV pw pw.size ≤ 5000) (u v : Nat) (hu : u = smV pw pw.size - bh) (hv : v = bh - smV pw pw.size) : Calls Tryz.prog 103 #[.agg #[.bool neg, .bool false, .string dg, .string pw, .int .i64 (bh : Nat)]] w (LwPost (fr neg (preV dg dg.size * 10 ^ u) (10 ^ v)) w) := by
  have KS := Lib.hid (fun w => PSmall_c pw w hd hz)
  generalize smV pw pw.size = n at *
  have HDG := Lib.hid hdg
  have HU0 := Lib.hid hu
  have HV0 := Lib.hid hv
  clear hd hdg hu hv
  have T0 := VBd.start ⟨neg, false, dg, pw, bh⟩ w 24
  have TC := T0.cells
  dsimp only [Dm.cells] at TC T0
  obtain ⟨p0, p1, p2, p3, p5, p4⟩ := TC
  go_enter Tryz.func103, Tryz.ntmps103
  go_wp2_with fail
  refine (KS.out _).mono ?_
  rintro ee w1 ⟨rfl, hb⟩
  replace T0 := T0.step hb
  clear hb p0 p1 p2 p3 p4 p5
  have TC := T0.cells
  dsimp only at TC
  obtain ⟨p0, p1, p2, p3, p5, p4⟩ := TC
  go_wp2_with fail
  have T2 := T0.iter
  clear T0 p0 p1 p2 p3 p4 p5
  generalize w1.iter dg 0 = w2 at *
  generalize w1.heap.size = K at *
  go_loopw [5] (fun v wr => ∃ (k c : Nat) (A : Option Addr), v = .slice A (nd W (preV dg k)) c ∧ k ≤ dg.size ∧ Hid (Row wr wr.heap.size A (preV dg k) (nd W (preV dg k))) ∧ Hid (VKd ⟨neg, false, dg, pw, bh⟩ w K k wr)) (fun _ wr => dg.size - itPos wr K)
  case atStart => exact ⟨0, 0, none, by rw [preV_zero, nd_zero], Nat.zero_le _, Lib.hid (by rw [preV_zero, nd_zero]; exact Row.none_), Lib.hid T2⟩
  case round =>
    obtain ⟨k, c, A, rfl, hk, hr, hi⟩ := hrel
    by_cases hlt : k < dg.size
    · have hdk := HDG.out k hlt
      unfold isDig at hdk
      have hsv := preV_succ dg k hlt
      have hn0 : ∀ ty, (Instr.next (.pointer (some ⟨K, 0, none⟩)) true ty).run Tryz.prog wr = .ok (.tuple #[.bool true, .int .i64 (k : Nat), .int .i32 (dg[k].toNat : Nat)]) (wr.iterAt K dg (k + 1)) := fun ty => run_next_ascii_at wr K dg k ty hi.out.2.2.2.2 hlt (by omega)
      have hi2 := hi.out.next (k + 1)
      have hb2 : Row (wr.iterAt K dg (k + 1)) (wr.iterAt K dg (k + 1)).heap.size A (preV dg k) (nd W (preV dg k)) := by rw [iterAt_size]; exact hr.out.iter hi.out.2.2.2.2 (k + 1)
      have hp1 := itPos_of hi.out.2.2.2.2
      have hp2 := itPos_of hi2.2.2.2.2
      revert hn0 hi2 hb2 hsv hp2
      generalize wr.iterAt K dg (k + 1) = wq
      generalize dg[k].toNat = m at *
      intro hsv hn0 hi2 hb2 hp2
      have hput := Put_c A c (preV dg k) 10 (m - 48) wq.heap.size wq (by omega) (by omega) (by have := ten_nd k (by omega); have := nd_mono (b := W) W2 (Nat.le_of_lt (dig_pre HDG.out k hk)); omega) hb2 (Nat.le_refl _)
      rw [show preV dg k * 10 + (m - 48) = preV dg (k + 1) by omega] at hput
      have HPUT := Lib.hid hput
      have HI := Lib.hid hi2
      have HP1 := Lib.hid hp1
      have HP2 := Lib.hid hp2
      have HM : 48 ≤ m ∧ m ≤ 57 := by omega
      clear hsv hi2 hb2 hi hr hp1 hp2 hput
      go_wp2_with fail
      rw [show (m : Int) - 48 = ((m - 48 : Nat) : Int) by omega]
      refine HPUT.out.mono ?_
      rintro ee w4 hp
      obtain ⟨A1, c1, rfl, hc1, hr1, hb1⟩ := hp.get
      have HI2 := Lib.hid (HI.out.step hb1)
      have HP3 := Lib.hid (itPos_of HI2.out.2.2.2.2)
      have HR1 := Lib.hid hr1
      clear hp hr1 hb1 hn0 HPUT
      go_wp2_with fail
      go_round
      case rel => exact ⟨k + 1, c1, A1, rfl, hlt, HR1, HI2⟩
      case measure => rw [HP1.out, HP3.out]; omega
    · have hke : k = dg.size := by omega
      subst hke
      have hn0 : ∀ ty, (Instr.next (.pointer (some ⟨K, 0, none⟩)) true ty).run Tryz.prog wr = .ok (.tuple #[.bool false]) wr := fun ty => run_next_end_at wr K dg dg.size ty hi.out.2.2.2.2 hlt
      clear hlt
      have TC := hi.out.cells
      dsimp only at TC
      obtain ⟨p0, p1, p2, p3, p5, p4⟩ := TC
      go_wp2_with fail
      have KO := Lib.hid (fun w => Of_n 10 w (by decide))
      have KP := Lib.hid (fun n w h => Pow10_c n w h)
      refine (KO.out _).mono ?_
      rintro ee w7 ⟨rfl, hb⟩
      have HI := Lib.hid (hi.out.step hb)
      have HR := Lib.hid ((hr.out.below hb).more hb.size)
      clear hb hn0 hi hr p0 p1 p2 p3 p4 p5
      have HU : u ≤ 9096 := by have := HU0.out; omega
      have HV : v ≤ 9096 := by have := HV0.out; omega
      go_wp2_with fail
      rw [show max ((n : Int) - bh) 0 = ((u : Nat) : Int) by have := HU0.out; omega]
      refine (KP.out _ _ HU).mono ?_
      rintro ee w8 ⟨rfl, hb⟩
      replace HI := Lib.hid (HI.out.step hb)
      replace HR := Lib.hid ((HR.out.below hb).more hb.size)
      clear hb
      go_wp2_with fail
      refine (KO.out _).mono ?_
      rintro ee w9 ⟨rfl, hb⟩
      replace HI := Lib.hid (HI.out.step hb)
      replace HR := Lib.hid ((HR.out.below hb).more hb.size)
      clear hb
      go_wp2_with fail
      rw [show max (-((n : Int) - bh)) 0 = ((v : Nat) : Int) by have := HV0.out; omega]
      refine (KP.out _ _ HV).mono ?_
      rintro ee w10 ⟨rfl, hb⟩
      replace HI := Lib.hid (HI.out.step hb)
      replace HR := Lib.hid ((HR.out.below hb).more hb.size)
      clear hb
      have HX := ten_prod dg HDG.out u (show dg.size + u ≤ 9096 by have := HU0.out; omega)
      obtain ⟨HX1, HX2⟩ := HX
      have HX3 := ten_nd v HV
      have HD0 : 10 ^ v ≠ 0 := Nat.pos_iff_ne_zero.1 (Nat.pow_pos (by omega))
      have KWU := Lib.hid (fun w => Pwords_c (10 ^ u) w (ten_fits _ HU))
      have KWV := Lib.hid (fun w => Pwords_c (10 ^ v) w (ten_fits _ HV))
      generalize 10 ^ u = tu at *
      generalize 10 ^ v = tv at *
      generalize preV dg dg.size = N at *
      have KM := Lib.hid (fun (A A' : Option Addr) (c c' : Nat) (W' : World) (r1 : Row W' W'.heap.size A N (nd W N)) (r2 : Row W' W'.heap.size A' tu (nd W tu)) => Mul_c A A' c c' N tu W'.heap.size W' (by omega) r1 r2 (Nat.le_refl _))
      have KF := Lib.hid (fun (A A' : Option Addr) (c c' : Nat) (W' : World) (hc : nd W (N * tu) ≤ c) (hc' : nd W tv ≤ c') (r1 : Row W' W'.heap.size A (N * tu) (nd W (N * tu))) (r2 : Row W' W'.heap.size A' tv (nd W tv)) => Flow_c neg (N * tu) tv A A' c c' W' HD0 (by omega) (by omega) hc hc' r1 r2)
      clear HX1 HX2 HX3 HD0 KP KO KS HU HV
      have hra : Row w10.drew w10.drew.heap.size A N (nd W N) := HR.out.drewN 1
      have TT := HI.out.drew
      clear HR
      generalize dg.size = kk at *
      have M1 := fun U (hU : VKd ⟨neg, false, dg, pw, bh⟩ w K kk U) => hU.res.2.1
      have M2 := fun U (hU : VKd ⟨neg, false, dg, pw, bh⟩ w K kk U) => hU.res.2.2.1
      have M3 := fun U (hU : VKd ⟨neg, false, dg, pw, bh⟩ w K kk U) => hU.res.2.2.2.1
      have M4 := fun U (hU : VKd ⟨neg, false, dg, pw, bh⟩ w K kk U) => hU.res.2.2.2.2.1
      have M5 := fun U (hU : VKd ⟨neg, false, dg, pw, bh⟩ w K kk U) => hU.res.2.2.2.2.2.1
      have M6 := fun U (hU : VKd ⟨neg, false, dg, pw, bh⟩ w K kk U) => hU.res.2.2.2.2.2.2
      have L0 := fun U (hU : VKd ⟨neg, false, dg, pw, bh⟩ w K kk U) => hU.cells.2.1
      dsimp only at L0
      go_wp2_with fail
      go_region_held3 (VKd ⟨neg, false, dg, pw, bh⟩ w K kk) (first | assumption | exact VKd.step (by assumption) (by assumption) | exact VKd.put (by assumption) _ _ _ | exact VKd.drew (by assumption) | exact VKd.drawn (by assumption) _)
        (first
          | (go_at_call 59; (with_reducible refine (KWU.out _).mono ?_); rintro ee wa hp; obtain ⟨A3, c3, rfl, hc3, hr3, hb3⟩ := hp.get; have hrb := (hra.below hb3).more hb3.size; clear hp hra)
          | (go_at_call 129; (refine (KM.out _ _ _ _ _ hrb hr3).mono ?_); rintro ee wb hp; obtain ⟨A4, c4, rfl, hc4, hr4, hb4⟩ := hp.get; clear hp hrb hr3)
          | (go_at_call 59; (with_reducible refine (KWV.out _).mono ?_); rintro ee wc hp; obtain ⟨A5, c5, rfl, hc5, hr5, hb5⟩ := hp.get; have hrc := (hr4.below hb5).more hb5.size; clear hp hr4)
          | (go_at_call 60; (refine (KF.out _ _ _ _ _ hc4 hc5 hrc hr5).mono ?_); rintro ee wd ⟨rfl, hb6⟩; have HSV := Lib.hid (VKd.step (d := ⟨neg, false, dg, pw, bh⟩) (w := w) (by assumption) hb6)))
      obtain ⟨q0, q1, q2, q3, q4, q5, q6⟩ := HSV.out.res
      have hfin := below_put3 HSV.out.1 (show w.heap.size ≤ w.heap.size + 1 by omega)
      generalize fr neg (N * tu) tv = Q at *
      clear L0 M1 M2 M3 M4 M5 M6 TT KF KM KWU KWV HI
      go_wp2_with fail
      refine bodyPost_ret (v := .tuple #[.agg #[.bool (rsG Q), .string (rsN Q), .string (rsD Q)], .int .i64 (rsE Q)]) (by simp [results, Tryz.results103, go_sem, q0, q1, q2, q3]) rfl ⟨rfl, hfin _ _ _⟩
set_option maxRecDepth 100000 in
set_option maxHeartbeats 2000000 in
theorem PValue_t (neg : Bool) (dg pw : ByteArray) (bh : Nat) (w : World) (hd : Digits pw) (hz : pw.size ≤ 9223372036854775807) (hb5 : bh ≤ 4096) (hdg : Digits dg) (hz2 : dg.size ≤ 4096) (hl : smV pw pw.size ≤ 5000) (u v : Nat) (hu : u = 0) (hv : v = smV pw pw.size + bh) : Calls Tryz.prog 103 #[.agg #[.bool neg, .bool true, .string dg, .string pw, .int .i64 (bh : Nat)]] w (LwPost (fr neg (preV dg dg.size * 10 ^ u) (10 ^ v)) w) := by
  have KS := Lib.hid (fun w => PSmall_c pw w hd hz)
  generalize smV pw pw.size = n at *
  have HDG := Lib.hid hdg
  have HU0 := Lib.hid hu
  have HV0 := Lib.hid hv
  clear hd hdg hu hv
  have T0 := VBd.start ⟨neg, true, dg, pw, bh⟩ w 24
  have TC := T0.cells
  dsimp only [Dm.cells] at TC T0
  obtain ⟨p0, p1, p2, p3, p5, p4⟩ := TC
  go_enter Tryz.func103, Tryz.ntmps103
  go_wp2_with fail
  refine (KS.out _).mono ?_
  rintro ee w1 ⟨rfl, hb⟩
  replace T0 := T0.step hb
  clear hb p0 p1 p2 p3 p4 p5
  have TC := T0.cells
  dsimp only at TC
  obtain ⟨p0, p1, p2, p3, p5, p4⟩ := TC
  go_wp2_with fail
  have T2 := T0.iter
  clear T0 p0 p1 p2 p3 p4 p5
  generalize w1.iter dg 0 = w2 at *
  generalize w1.heap.size = K at *
  go_loopw [5] (fun v wr => ∃ (k c : Nat) (A : Option Addr), v = .slice A (nd W (preV dg k)) c ∧ k ≤ dg.size ∧ Hid (Row wr wr.heap.size A (preV dg k) (nd W (preV dg k))) ∧ Hid (VKd ⟨neg, true, dg, pw, bh⟩ w K k wr)) (fun _ wr => dg.size - itPos wr K)
  case atStart => exact ⟨0, 0, none, by rw [preV_zero, nd_zero], Nat.zero_le _, Lib.hid (by rw [preV_zero, nd_zero]; exact Row.none_), Lib.hid T2⟩
  case round =>
    obtain ⟨k, c, A, rfl, hk, hr, hi⟩ := hrel
    by_cases hlt : k < dg.size
    · have hdk := HDG.out k hlt
      unfold isDig at hdk
      have hsv := preV_succ dg k hlt
      have hn0 : ∀ ty, (Instr.next (.pointer (some ⟨K, 0, none⟩)) true ty).run Tryz.prog wr = .ok (.tuple #[.bool true, .int .i64 (k : Nat), .int .i32 (dg[k].toNat : Nat)]) (wr.iterAt K dg (k + 1)) := fun ty => run_next_ascii_at wr K dg k ty hi.out.2.2.2.2 hlt (by omega)
      have hi2 := hi.out.next (k + 1)
      have hb2 : Row (wr.iterAt K dg (k + 1)) (wr.iterAt K dg (k + 1)).heap.size A (preV dg k) (nd W (preV dg k)) := by rw [iterAt_size]; exact hr.out.iter hi.out.2.2.2.2 (k + 1)
      have hp1 := itPos_of hi.out.2.2.2.2
      have hp2 := itPos_of hi2.2.2.2.2
      revert hn0 hi2 hb2 hsv hp2
      generalize wr.iterAt K dg (k + 1) = wq
      generalize dg[k].toNat = m at *
      intro hsv hn0 hi2 hb2 hp2
      have hput := Put_c A c (preV dg k) 10 (m - 48) wq.heap.size wq (by omega) (by omega) (by have := ten_nd k (by omega); have := nd_mono (b := W) W2 (Nat.le_of_lt (dig_pre HDG.out k hk)); omega) hb2 (Nat.le_refl _)
      rw [show preV dg k * 10 + (m - 48) = preV dg (k + 1) by omega] at hput
      have HPUT := Lib.hid hput
      have HI := Lib.hid hi2
      have HP1 := Lib.hid hp1
      have HP2 := Lib.hid hp2
      have HM : 48 ≤ m ∧ m ≤ 57 := by omega
      clear hsv hi2 hb2 hi hr hp1 hp2 hput
      go_wp2_with fail
      rw [show (m : Int) - 48 = ((m - 48 : Nat) : Int) by omega]
      refine HPUT.out.mono ?_
      rintro ee w4 hp
      obtain ⟨A1, c1, rfl, hc1, hr1, hb1⟩ := hp.get
      have HI2 := Lib.hid (HI.out.step hb1)
      have HP3 := Lib.hid (itPos_of HI2.out.2.2.2.2)
      have HR1 := Lib.hid hr1
      clear hp hr1 hb1 hn0 HPUT
      go_wp2_with fail
      go_round
      case rel => exact ⟨k + 1, c1, A1, rfl, hlt, HR1, HI2⟩
      case measure => rw [HP1.out, HP3.out]; omega
    · have hke : k = dg.size := by omega
      subst hke
      have hn0 : ∀ ty, (Instr.next (.pointer (some ⟨K, 0, none⟩)) true ty).run Tryz.prog wr = .ok (.tuple #[.bool false]) wr := fun ty => run_next_end_at wr K dg dg.size ty hi.out.2.2.2.2 hlt
      clear hlt
      have TC := hi.out.cells
      dsimp only at TC
      obtain ⟨p0, p1, p2, p3, p5, p4⟩ := TC
      go_wp2_with fail
      have KO := Lib.hid (fun w => Of_n 10 w (by decide))
      have KP := Lib.hid (fun n w h => Pow10_c n w h)
      refine (KO.out _).mono ?_
      rintro ee w7 ⟨rfl, hb⟩
      have HI := Lib.hid (hi.out.step hb)
      have HR := Lib.hid ((hr.out.below hb).more hb.size)
      clear hb hn0 hi hr p0 p1 p2 p3 p4 p5
      have HU : u ≤ 9096 := by have := HU0.out; omega
      have HV : v ≤ 9096 := by have := HV0.out; omega
      go_wp2_with fail
      rw [show max (-(n : Int) - bh) 0 = ((u : Nat) : Int) by have := HU0.out; omega]
      refine (KP.out _ _ HU).mono ?_
      rintro ee w8 ⟨rfl, hb⟩
      replace HI := Lib.hid (HI.out.step hb)
      replace HR := Lib.hid ((HR.out.below hb).more hb.size)
      clear hb
      go_wp2_with fail
      refine (KO.out _).mono ?_
      rintro ee w9 ⟨rfl, hb⟩
      replace HI := Lib.hid (HI.out.step hb)
      replace HR := Lib.hid ((HR.out.below hb).more hb.size)
      clear hb
      go_wp2_with fail
      rw [show max (-(-(n : Int) - bh)) 0 = ((v : Nat) : Int) by have := HV0.out; omega]
      refine (KP.out _ _ HV).mono ?_
      rintro ee w10 ⟨rfl, hb⟩
      replace HI := Lib.hid (HI.out.step hb)
      replace HR := Lib.hid ((HR.out.below hb).more hb.size)
      clear hb
      have HX := ten_prod dg HDG.out u (show dg.size + u ≤ 9096 by have := HU0.out; omega)
      obtain ⟨HX1, HX2⟩ := HX
      have HX3 := ten_nd v HV
      have HD0 : 10 ^ v ≠ 0 := Nat.pos_iff_ne_zero.1 (Nat.pow_pos (by omega))
      have KWU := Lib.hid (fun w => Pwords_c (10 ^ u) w (ten_fits _ HU))
      have KWV := Lib.hid (fun w => Pwords_c (10 ^ v) w (ten_fits _ HV))
      generalize 10 ^ u = tu at *
      generalize 10 ^ v = tv at *
      generalize preV dg dg.size = N at *
      have KM := Lib.hid (fun (A A' : Option Addr) (c c' : Nat) (W' : World) (r1 : Row W' W'.heap.size A N (nd W N)) (r2 : Row W' W'.heap.size A' tu (nd W tu)) => Mul_c A A' c c' N tu W'.heap.size W' (by omega) r1 r2 (Nat.le_refl _))
      have KF := Lib.hid (fun (A A' : Option Addr) (c c' : Nat) (W' : World) (hc : nd W (N * tu) ≤ c) (hc' : nd W tv ≤ c') (r1 : Row W' W'.heap.size A (N * tu) (nd W (N * tu))) (r2 : Row W' W'.heap.size A' tv (nd W tv)) => Flow_c neg (N * tu) tv A A' c c' W' HD0 (by omega) (by omega) hc hc' r1 r2)
      clear HX1 HX2 HX3 HD0 KP KO KS HU HV
      have hra : Row w10.drew w10.drew.heap.size A N (nd W N) := HR.out.drewN 1
      have TT := HI.out.drew
      clear HR
      generalize dg.size = kk at *
      have M1 := fun U (hU : VKd ⟨neg, true, dg, pw, bh⟩ w K kk U) => hU.res.2.1
      have M2 := fun U (hU : VKd ⟨neg, true, dg, pw, bh⟩ w K kk U) => hU.res.2.2.1
      have M3 := fun U (hU : VKd ⟨neg, true, dg, pw, bh⟩ w K kk U) => hU.res.2.2.2.1
      have M4 := fun U (hU : VKd ⟨neg, true, dg, pw, bh⟩ w K kk U) => hU.res.2.2.2.2.1
      have M5 := fun U (hU : VKd ⟨neg, true, dg, pw, bh⟩ w K kk U) => hU.res.2.2.2.2.2.1
      have M6 := fun U (hU : VKd ⟨neg, true, dg, pw, bh⟩ w K kk U) => hU.res.2.2.2.2.2.2
      have L0 := fun U (hU : VKd ⟨neg, true, dg, pw, bh⟩ w K kk U) => hU.cells.2.1
      dsimp only at L0
      go_wp2_with fail
      go_region_held3 (VKd ⟨neg, true, dg, pw, bh⟩ w K kk) (first | assumption | exact VKd.step (by assumption) (by assumption) | exact VKd.put (by assumption) _ _ _ | exact VKd.drew (by assumption) | exact VKd.drawn (by assumption) _)
        (first
          | (go_at_call 59; (with_reducible refine (KWU.out _).mono ?_); rintro ee wa hp; obtain ⟨A3, c3, rfl, hc3, hr3, hb3⟩ := hp.get; have hrb := (hra.below hb3).more hb3.size; clear hp hra)
          | (go_at_call 129; (refine (KM.out _ _ _ _ _ hrb hr3).mono ?_); rintro ee wb hp; obtain ⟨A4, c4, rfl, hc4, hr4, hb4⟩ := hp.get; clear hp hrb hr3)
          | (go_at_call 59; (with_reducible refine (KWV.out _).mono ?_); rintro ee wc hp; obtain ⟨A5, c5, rfl, hc5, hr5, hb5⟩ := hp.get; have hrc := (hr4.below hb5).more hb5.size; clear hp hr4)
          | (go_at_call 60; (refine (KF.out _ _ _ _ _ hc4 hc5 hrc hr5).mono ?_); rintro ee wd ⟨rfl, hb6⟩; have HSV := Lib.hid (VKd.step (d := ⟨neg, true, dg, pw, bh⟩) (w := w) (by assumption) hb6)))
      obtain ⟨q0, q1, q2, q3, q4, q5, q6⟩ := HSV.out.res
      have hfin := below_put3 HSV.out.1 (show w.heap.size ≤ w.heap.size + 1 by omega)
      generalize fr neg (N * tu) tv = Q at *
      clear L0 M1 M2 M3 M4 M5 M6 TT KF KM KWU KWV HI
      go_wp2_with fail
      refine bodyPost_ret (v := .tuple #[.agg #[.bool (rsG Q), .string (rsN Q), .string (rsD Q)], .int .i64 (rsE Q)]) (by simp [results, Tryz.results103, go_sem, q0, q1, q2, q3]) rfl ⟨rfl, hfin _ _ _⟩
end Go.Proofs.YtajcapliokblfaaGreatDoor
namespace Go.Proofs.YtajcapliokblfaaGreatDoor
open Go Go.RowKit Nt Go.Lib
theorem digits_list {s : ByteArray} : Digits s ↔ ∀ c ∈ s.data.toList, isDig c := by
  constructor
  · intro h c hc
    obtain ⟨j, hj, rfl⟩ := List.getElem_of_mem hc
    exact h j hj
  · intro h k hk
    exact h _ (List.getElem_mem (l := s.data.toList) hk)
theorem digits_ext {t : ByteArray} {i j e : Nat} (he : e ≤ i) (h : j ≤ zE t e) (hj : j ≤ t.size) : Digits (t.extract i j) := by
  intro k hk
  have hs : (t.extract i j).size = min j t.size - i := ByteArray.size_extract
  rw [ByteArray.getElem_extract]
  have := zE_in t e (i + k) (by omega) (by omega) (by omega)
  unfold isDgB at this
  exact of_decide_eq_true this
theorem digits_app {a b : ByteArray} (ha : Digits a) (hb : Digits b) : Digits (a ++ b) := by
  rw [digits_list] at *
  intro c hc
  rw [ByteArray.data_append, Array.toList_append, List.mem_append] at hc
  exact hc.elim (ha c) (hb c)
theorem digits_nil : Digits ⟨#[]⟩ := fun k h => absurd h (Nat.not_lt_zero _)
theorem zD_dig (t : ByteArray) : Digits (zD t) := by
  unfold zD
  refine digits_app (digits_ext (e := 0) (Nat.le_refl _) (by unfold zN; exact Nat.le_refl _) (zN_le t)) ?_
  split
  · rename_i h
    exact digits_ext (e := zN t + 1) (Nat.le_refl _) (by unfold zM; rw [if_pos h]; exact Nat.le_refl _) (zM_le t)
  · exact digits_nil
theorem zP_dig {t : ByteArray} (h : zOk t) : Digits (zP t) := by
  unfold zP
  split
  · rename_i hx
    exact digits_ext (e := zJ t) (Nat.le_refl _) (by rw [(h.2.2.2.2 hx).2.1]; exact Nat.le_refl _) (Nat.le_refl _)
  · exact digits_nil
theorem zNM (t : ByteArray) : zPt t = true → zN t + 1 ≤ zM t := fun h => by
  unfold zM; rw [if_pos h]; exact zE_ge t _
theorem zD_size (t : ByteArray) : (zD t).size ≤ t.size := by
  have h1 := zN_le t
  have h2 := zM_le t
  unfold zD
  rw [ByteArray.size_append, ByteArray.size_extract]
  split
  · rename_i h
    have := zNM t h
    rw [ByteArray.size_extract]; omega
  · show _ + 0 ≤ _
    omega
theorem zB_le (t : ByteArray) : zB t ≤ t.size := by
  have h2 := zM_le t
  unfold zB
  split <;> omega
theorem zP_size (t : ByteArray) : (zP t).size ≤ t.size := by
  unfold zP
  split
  · rw [ByteArray.size_extract]; omega
  · exact Nat.zero_le _
@[irreducible] noncomputable def dcM (t : ByteArray) : Nat := smV (zP t) (zP t).size
theorem dcM_le (t : ByteArray) : dcM t ≤ 5001 := by unfold dcM; exact smV_le _ _
noncomputable section
open Classical
@[irreducible] def dcU (t : ByteArray) : Nat := if zL t = true then 0 else dcM t - zB t
@[irreducible] def dcV (t : ByteArray) : Nat := if zL t = true then dcM t + zB t else zB t - dcM t
@[irreducible] def dcQ (s : ByteArray) : Rat := fr (begB 45 s) (preV (zD (offB 45 s)) (zD (offB 45 s)).size * 10 ^ dcU (offB 45 s)) (10 ^ dcV (offB 45 s))
def dcOk (s : ByteArray) : Prop := s.size ≤ 4096 ∧ zOk (offB 45 s) ∧ dcM (offB 45 s) ≤ 5000
@[irreducible] def dcG (s : ByteArray) : Bool := if dcOk s then rsG (dcQ s) else false
@[irreducible] def dcN (s : ByteArray) : ByteArray := if dcOk s then rsN (dcQ s) else ⟨#[]⟩
@[irreducible] def dcD (s : ByteArray) : ByteArray := if dcOk s then rsD (dcQ s) else ⟨#[]⟩
@[irreducible] def dcE (s : ByteArray) : Int := if dcOk s then rsE (dcQ s) else if s.size ≤ 4096 ∧ ¬ zOk (offB 45 s) then 40 else 4
end
theorem dc_ok {s : ByteArray} (h : dcOk s) : dcG s = rsG (dcQ s) ∧ dcN s = rsN (dcQ s) ∧ dcD s = rsD (dcQ s) ∧ dcE s = rsE (dcQ s) := by
  unfold dcG dcN dcD dcE; rw [if_pos h, if_pos h, if_pos h, if_pos h]; exact ⟨rfl, rfl, rfl, rfl⟩
theorem dc_no {s : ByteArray} (h : ¬ dcOk s) : dcG s = false ∧ dcN s = ⟨#[]⟩ ∧ dcD s = ⟨#[]⟩ := by
  unfold dcG dcN dcD; rw [if_neg h, if_neg h, if_neg h]; exact ⟨rfl, rfl, rfl⟩
theorem dc_long {s : ByteArray} (h : 4096 < s.size) : dcG s = false ∧ dcN s = ⟨#[]⟩ ∧ dcD s = ⟨#[]⟩ ∧ dcE s = 4 := by
  have hn : ¬ dcOk s := fun c => by have := c.1; omega
  obtain ⟨a, b, c⟩ := dc_no hn
  refine ⟨a, b, c, ?_⟩
  unfold dcE; rw [if_neg hn, if_neg (fun c => by have := c.1; omega)]
theorem dc_bad {s : ByteArray} (h : s.size ≤ 4096) (hz : ¬ zOk (offB 45 s)) : dcG s = false ∧ dcN s = ⟨#[]⟩ ∧ dcD s = ⟨#[]⟩ ∧ dcE s = 40 := by
  have hn : ¬ dcOk s := fun c => hz c.2.1
  obtain ⟨a, b, c⟩ := dc_no hn
  refine ⟨a, b, c, ?_⟩
  unfold dcE; rw [if_neg hn, if_pos ⟨h, hz⟩]
theorem dc_far {s : ByteArray} (h : s.size ≤ 4096) (hz : zOk (offB 45 s)) (hm : ¬ dcM (offB 45 s) ≤ 5000) : dcG s = false ∧ dcN s = ⟨#[]⟩ ∧ dcD s = ⟨#[]⟩ ∧ dcE s = 4 := by
  have hn : ¬ dcOk s := fun c => hm c.2.2
  obtain ⟨a, b, c⟩ := dc_no hn
  refine ⟨a, b, c, ?_⟩
  unfold dcE; rw [if_neg hn, if_neg (fun c => c.2 hz)]
def DcPost (s : ByteArray) (w : World) (e : Ending) (w' : World) : Prop := e = .returned (.tuple #[.agg #[.bool (dcG s), .string (dcN s), .string (dcD s)], .int .i64 (dcE s)]) ∧ Below w.heap.size w w'
theorem PValue_c (s : ByteArray) (w : World) (hs : s.size ≤ 4096) (hz : zOk (offB 45 s)) : Calls Tryz.prog 103 #[.agg #[.bool (begB 45 s), .bool (zL (offB 45 s)), .string (zD (offB 45 s)), .string (zP (offB 45 s)), .int .i64 (zB (offB 45 s) : Nat)]] w (DcPost s w) := by
  have ho := offB_size 45 s
  have h1 := zD_size (offB 45 s)
  have h2 := zP_size (offB 45 s)
  have h3 := zB_le (offB 45 s)
  have hm := dcM_le (offB 45 s)
  have hM : dcM (offB 45 s) = smV (zP (offB 45 s)) (zP (offB 45 s)).size := by unfold dcM; rfl
  by_cases h5 : dcM (offB 45 s) ≤ 5000
  · have hok : dcOk s := ⟨hs, hz, h5⟩
    obtain ⟨e1, e2, e3, e4⟩ := dc_ok hok
    unfold DcPost
    rw [e1, e2, e3, e4]
    unfold dcQ
    cases hl : zL (offB 45 s)
    · exact PValue_f (begB 45 s) _ _ _ w (zP_dig hz) (by omega) (by omega) (zD_dig _) (by omega) (by omega) (dcU (offB 45 s)) (dcV (offB 45 s)) (by unfold dcU; rw [hl, if_neg (by decide), hM]) (by unfold dcV; rw [hl, if_neg (by decide), hM])
    · exact PValue_t (begB 45 s) _ _ _ w (zP_dig hz) (by omega) (by omega) (zD_dig _) (by omega) (by omega) (dcU (offB 45 s)) (dcV (offB 45 s)) (by unfold dcU; rw [hl, if_pos rfl]) (by unfold dcV; rw [hl, if_pos rfl, hM])
  · obtain ⟨e1, e2, e3, e4⟩ := dc_far hs hz h5
    unfold DcPost
    rw [e1, e2, e3, e4]
    exact PValue_long (begB 45 s) _ _ _ _ w (zP_dig hz) (by omega) (by omega) (by omega)
set_option maxRecDepth 100000 in
set_option maxHeartbeats 1000000 in
theorem PDecimal_c (s : ByteArray) (w : World) (hs : s.size + 1 ≤ 9223372036854775807) : Calls Tryz.prog 47 #[.string s] w (DcPost s w) := by
  have T0 := BR.start0 w false (.string ⟨#[]⟩) (.string ⟨#[]⟩) 24
  by_cases h4 : 4096 < s.size
  · obtain ⟨e1, e2, e3, e4⟩ := dc_long h4
    unfold DcPost
    rw [e1, e2, e3, e4]
    obtain ⟨q0, q1, q2, q3, q4, q5, q6⟩ := (Bx3.new w (.bool false) (.string ⟨#[]⟩) (.string ⟨#[]⟩) 24).facts
    have hfin := T0.1
    go_enter Tryz.func47, Tryz.ntmps47
    go_wp2_with fail
    refine bodyPost_ret (v := .tuple #[.agg #[.bool false, .string ⟨#[]⟩, .string ⟨#[]⟩], .int .i64 4]) (by simp [results, Tryz.results47, go_sem, q0, q1, q2, q3]) rfl ⟨rfl, hfin⟩
  · have KS := Lib.hid (fun w => scan_c s w hs)
    by_cases hz : zOk (offB 45 s)
    · have KV := Lib.hid (fun w => PValue_c s w (by omega) hz)
      go_enter Tryz.func47, Tryz.ntmps47
      go_wp2_with fail
      refine (KS.out _).mono ?_
      rintro ee w1 ⟨⟨b1, b2, x1, x2, n1, ok, rfl, ho, hv⟩, hb⟩
      have hok := ho.2 hz
      subst hok
      obtain ⟨r1, r2, r3, r4, r5⟩ := hv rfl
      rw [← r1, ← r2, ← r3, ← r4, ← r5] at KV
      clear hv ho r1 r2 r3 r4 r5
      replace T0 := T0.step hb
      clear hb
      go_wp2_with fail
      refine (KV.out _).mono ?_
      rintro ee w2 ⟨rfl, hb2⟩
      replace T0 := (T0.more _).step hb2
      clear hb2
      obtain ⟨q0, q1, q2, q3, q4, q5, q6⟩ := T0.res0
      have hfin := below_put3 T0.1 (Nat.le_refl _)
      go_wp2_with fail
      refine bodyPost_ret (v := .tuple #[.agg #[.bool (dcG s), .string (dcN s), .string (dcD s)], .int .i64 (dcE s)]) (by simp [results, Tryz.results47, go_sem, q0, q1, q2, q3]) rfl ⟨rfl, hfin _ _ _⟩
    · obtain ⟨e1, e2, e3, e4⟩ := dc_bad (by omega) hz
      unfold DcPost
      rw [e1, e2, e3, e4]
      go_enter Tryz.func47, Tryz.ntmps47
      go_wp2_with fail
      refine (KS.out _).mono ?_
      rintro ee w1 ⟨⟨b1, b2, x1, x2, n1, ok, rfl, ho, hv⟩, hb⟩
      have hok : ok = false := by cases ok with
        | false => rfl
        | true => exact absurd (ho.1 rfl) hz
      subst hok
      clear hv ho
      replace T0 := T0.step hb
      clear hb
      obtain ⟨q0, q1, q2, q3, q4, q5, q6⟩ := T0.res0
      have hfin := below_put3 T0.1 (Nat.le_refl _)
      go_wp2_with fail
      refine bodyPost_ret (v := .tuple #[.agg #[.bool false, .string ⟨#[]⟩, .string ⟨#[]⟩], .int .i64 40]) (by simp [results, Tryz.results47, go_sem, q0, q1, q2, q3]) rfl ⟨rfl, (hfin _ _ _).alloc (by simp [World.setCell]; omega) _⟩
end Go.Proofs.YtajcapliokblfaaGreatDoor
namespace Go.Proofs.YtajcapliokblfaaGreatDoor
open Go Go.RowKit Nt Go.Lib
theorem isDgB_iff (c : UInt8) : isDgB c = true ↔ 48 ≤ c.toNat ∧ c.toNat ≤ 57 := by unfold isDgB; exact decide_eq_true_iff
theorem zE_eq {t : ByteArray} {n : Nat} (hn : n ≤ t.size) (h1 : ∀ k (h : k < t.size), k < n → isDgB t[k] = true) (h2 : ∀ h : n < t.size, isDgB t[n] = false) : zE t 0 = n := by
  have hg := zE_le t 0 (Nat.zero_le _)
  rcases Nat.lt_trichotomy (zE t 0) n with h | h | h
  · have a := zE_out t 0 (Nat.zero_le _) (by omega)
    rw [h1 _ (by omega) h] at a; cases a
  · exact h
  · have a := zE_in t 0 n (Nat.zero_le _) h (by omega)
    rw [h2 (by omega)] at a; cases a
set_option maxRecDepth 100000 in
set_option maxHeartbeats 1000000 in
theorem rDigs_c (s : ByteArray) (w : World) (hz : s.size ≤ 9223372036854775807) : Calls Tryz.prog 157 #[.string s] w fun e w' => e = .returned (.int .i64 (zE s 0 : Nat)) ∧ Below w.heap.size w w' := by
  have hg := zE_le s 0 (Nat.zero_le _)
  go_enter Tryz.func157, Tryz.ntmps157
  go_wp2_with fail
  go_loopw [3] (fun v wr => ∃ n : Nat, v = .int .i64 (n : Nat) ∧ n ≤ zE s 0 ∧ wr = w) (fun v _ => s.size - (Lib.intOf v).toNat)
  case atStart => exact ⟨0, rfl, Nat.zero_le _, rfl⟩
  case round =>
    obtain ⟨n, rfl, hn, rfl⟩ := hrel
    by_cases hlt : n < zE s 0
    · have hk : n < s.size := by omega
      have hd := (isDgB_iff _).1 (zE_in s 0 n (Nat.zero_le _) hlt hk)
      obtain ⟨d1, d2⟩ := hd
      go_wp2_with fail
      exact ⟨⟨n + 1, by simp, hlt, trivial⟩, by simp [Lib.intOf]; omega⟩
    · have he : n = zE s 0 := by omega
      by_cases hk : n < s.size
      · have hno : ¬ (48 ≤ (s[zE s 0]'(he ▸ hk)).toNat ∧ (s[zE s 0]'(he ▸ hk)).toNat ≤ 57) := fun c => by
          have a := zE_out s 0 (Nat.zero_le _) (he ▸ hk)
          rw [(isDgB_iff _).2 c] at a; cases a
        go_wp2_with fail
        all_goals first
          | (go_ret; exact ⟨rfl, Below.refl _ _⟩)
          | (exfalso; omega)
      · go_wp2_with fail
        go_ret
        exact ⟨rfl, Below.refl _ _⟩
def bareB (s : ByteArray) : Prop := 0 < s.size ∧ zE s 0 = s.size ∧ (s.size = 1 ∨ ¬ isAt s 0 48)
open Classical in
@[irreducible] noncomputable def bareV (s : ByteArray) : Bool := decide (bareB s)
open Classical in
theorem bareV_t {s : ByteArray} (h : bareB s) : bareV s = true := by unfold bareV; exact decide_eq_true h
open Classical in
theorem bareV_f {s : ByteArray} (h : ¬ bareB s) : bareV s = false := by unfold bareV; exact decide_eq_false h
open Classical in
theorem bareV_iff {s : ByteArray} : bareV s = true ↔ bareB s := by unfold bareV; exact decide_eq_true_iff
set_option maxRecDepth 100000 in
set_option maxHeartbeats 1000000 in
theorem rBare_c (s : ByteArray) (w : World) (hz : s.size ≤ 9223372036854775807) : Calls Tryz.prog 158 #[.string s] w fun e w' => e = .returned (.bool (bareV s)) ∧ Below w.heap.size w w' := by
  have K := Lib.hid (fun w => rDigs_c s w hz)
  have hle := zE_le s 0 (Nat.zero_le _)
  by_cases h0 : s.size = 0
  · rw [bareV_f (fun c => by have := c.1; omega)]
    clear K
    go_enter Tryz.func158, Tryz.ntmps158
    go_wp2_with fail
    go_ret
    exact ⟨rfl, Below.refl _ _⟩
  by_cases h2 : zE s 0 = s.size
  · rw [h2] at K
    by_cases h4 : s.size = 1
    · rw [bareV_t ⟨by omega, by assumption, Or.inl h4⟩]
      clear h2 hle
      go_enter Tryz.func158, Tryz.ntmps158
      go_wp2_with fail
      refine (K.out _).mono ?_
      rintro ee w1 ⟨rfl, hb⟩
      go_wp2_with fail
      go_ret
      exact ⟨rfl, hb⟩
    · have hp : 0 < s.size := Nat.pos_of_ne_zero h0
      have h5 : bareV s = (((s.size : Int) == 1) || (((s[0]'hp).toNat : Int) != 48)) := by
        have e1 : ((s.size : Int) == 1) = false := by rw [beq_eq_false_iff_ne]; omega
        rw [e1, Bool.false_or]
        by_cases h6 : s[0].toNat = 48
        · rw [bareV_f (fun c => (c.2.2.resolve_left h4) ⟨by omega, h6⟩), h6]; rfl
        · rw [bareV_t ⟨by omega, h2, Or.inr (fun ⟨_, c⟩ => h6 c)⟩]
          symm
          rw [bne_iff_ne]; omega
      clear h2 hle
      go_enter Tryz.func158, Tryz.ntmps158
      go_wp2_with fail
      refine (K.out _).mono ?_
      rintro ee w1 ⟨rfl, hb⟩
      go_wp2_with fail
      go_ret
      exact ⟨by rw [h5]; rfl, hb⟩
  · have h3 : ¬ ((zE s 0 : Nat) : Int) = (s.size : Int) := by omega
    rw [bareV_f (fun c => h2 c.2.1)]
    generalize zE s 0 = n at *
    clear h2
    go_enter Tryz.func158, Tryz.ntmps158
    go_wp2_with fail
    refine (K.out _).mono ?_
    rintro ee w1 ⟨rfl, hb⟩
    go_wp2_with fail
    go_ret
    exact ⟨rfl, hb⟩
end Go.Proofs.YtajcapliokblfaaGreatDoor
namespace Go.Proofs.YtajcapliokblfaaGreatDoor
open Go Go.RowKit Nt Go.Lib
theorem zE_ext (t : ByteArray) (i : Nat) (h : i ≤ t.size) : zE (t.extract i t.size) 0 = zE t i - i := by
  have e : (t.extract i t.size).data.toList = t.data.toList.drop i := by
    have h2 : (t.extract i t.size).data = t.data.extract i t.size := ByteArray.data_extract
    rw [h2, Array.toList_extract, List.extract_eq_take_drop]
    exact List.take_of_length_le (by rw [List.length_drop]; exact Nat.le_refl _)
  unfold zE
  rw [List.drop_zero, e]; omega
theorem zE_ext0 (t : ByteArray) (j : Nat) (h : j ≤ zE t 0) (hj : j ≤ t.size) : zE (t.extract 0 j) 0 = j := by
  have hs : (t.extract 0 j).size = j := by rw [ByteArray.size_extract]; omega
  refine zE_eq (by omega) (fun k hk hkj => ?_) (fun c => by omega)
  rw [ByteArray.getElem_extract]
  exact zE_in t 0 (0 + k) (Nat.zero_le _) (by omega) (by omega)
theorem isAt_ext {t : ByteArray} {i j k c : Nat} (hj : j ≤ t.size) (hk : i + k < j) : isAt (t.extract i j) k c ↔ isAt t (i + k) c := by
  have hs : (t.extract i j).size = min j t.size - i := ByteArray.size_extract
  unfold isAt
  constructor
  · rintro ⟨a, b⟩
    rw [ByteArray.getElem_extract] at b
    exact ⟨by omega, b⟩
  · rintro ⟨a, b⟩
    exact ⟨by omega, by rw [ByteArray.getElem_extract]; exact b⟩
@[irreducible] noncomputable def zH (t : ByteArray) : ByteArray := t.extract 0 (zN t)
@[irreducible] noncomputable def zT (t : ByteArray) : ByteArray := if zPt t = true then t.extract (zN t + 1) (zM t) else ⟨#[]⟩
@[irreducible] noncomputable def zW (t : ByteArray) : ByteArray := if zX t = true then t.extract (zM t + 1) t.size else ⟨#[48]⟩
def PtP (t : ByteArray) (w : World) (e : Ending) (w' : World) : Prop := (∃ (a b c : ByteArray) (ok : Bool), e = .returned (.tuple #[.string a, .string b, .string c, .bool ok]) ∧ (ok = true ↔ zOk t) ∧ (ok = true → a = zH t ∧ b = zT t ∧ c = zW t)) ∧ Below w.heap.size w w'
theorem bare_head (t : ByteArray) : bareB (t.extract 0 (zN t)) ↔ 0 < zN t ∧ (zN t = 1 ∨ ¬ isAt t 0 48) := by
  have hn := zN_le t
  have hs : (t.extract 0 (zN t)).size = zN t := by rw [ByteArray.size_extract]; omega
  have h0 : zE (t.extract 0 (zN t)) 0 = zN t := zE_ext0 t _ (by unfold zN; exact Nat.le_refl _) hn
  unfold bareB
  rw [hs, h0]
  by_cases hp : 0 < zN t
  · rw [isAt_ext hn (by omega)]
    simp
  · simp [hp]
theorem bare_tail (t : ByteArray) (j : Nat) (hj : j ≤ t.size) : bareB (t.extract j t.size) ↔ j < t.size ∧ zE t j = t.size ∧ (t.size = j + 1 ∨ ¬ isAt t j 48) := by
  have hs : (t.extract j t.size).size = t.size - j := by rw [ByteArray.size_extract]; omega
  have h0 := zE_ext t j hj
  have h1 := zE_ge t j
  have h2 := zE_le t j hj
  unfold bareB
  rw [hs, h0]
  by_cases hp : j < t.size
  · rw [isAt_ext (Nat.le_refl _) (by omega)]
    rw [Nat.add_zero]
    constructor
    · rintro ⟨a, b, c⟩; exact ⟨hp, by omega, c.imp (fun d => by omega) id⟩
    · rintro ⟨a, b, c⟩; exact ⟨by omega, by omega, c.imp (fun d => by omega) id⟩
  · constructor
    · rintro ⟨a, b, c⟩; omega
    · rintro ⟨a, b, c⟩; omega
theorem ext_from (t : ByteArray) (i a : Nat) : (t.extract i t.size).extract a (t.extract i t.size).size = t.extract (i + a) t.size := by
  apply ba_eq
  rw [ba_from, ba_from, ba_from, List.drop_drop]
theorem ext_mid (t : ByteArray) (i a b : Nat) : (t.extract i t.size).extract a b = t.extract (i + a) (i + b) := by
  apply ba_eq
  rw [ba_ext, ba_from, ba_ext, List.drop_drop]
  congr 1; omega
theorem at_ext (t : ByteArray) (i : Nat) (c : Nat) : isAt t i c ↔ ∃ h : 0 < (t.extract i t.size).size, (t.extract i t.size)[0].toNat = c := by
  have hs : (t.extract i t.size).size = t.size - i := by rw [ByteArray.size_extract]; omega
  constructor
  · rintro ⟨a, b⟩
    refine ⟨by omega, ?_⟩
    rw [ByteArray.getElem_extract]; exact b
  · rintro ⟨a, b⟩
    rw [ByteArray.getElem_extract] at b
    exact ⟨by omega, b⟩
theorem em_iff (r : ByteArray) : r.toList.isEmpty = true ↔ r.size = 0 := by
  rw [List.isEmpty_iff, ba_toList]
  exact ⟨fun c => by show r.data.toList.length = 0; rw [c]; rfl, fun c => List.length_eq_zero_iff.1 c⟩
theorem two_iff (b : ByteArray) : (b.toList == [45, 48]) = true ↔ b.size = 2 ∧ isAt b 0 45 ∧ isAt b 1 48 := by
  rw [ba_toList, beq_iff_eq]
  obtain ⟨⟨l⟩⟩ := b
  constructor
  · intro h
    have h' : l = [45, 48] := h
    subst h'
    exact ⟨rfl, ⟨by decide, rfl⟩, ⟨by decide, rfl⟩⟩
  · rintro ⟨h, ⟨a1, a2⟩, ⟨b1, b2⟩⟩
    have hl : l.length = 2 := h
    match l, hl with
    | [x, y], _ =>
      have e1 : x.toNat = 45 := a2
      have e2 : y.toNat = 48 := b2
      have f1 : x = 45 := UInt8.toNat_inj.1 e1
      have f2 : y = 48 := UInt8.toNat_inj.1 e2
      show [x, y] = [45, 48]
      rw [f1, f2]
theorem two_ext {t : ByteArray} (hx : zX t = true) (hl : zL t = true) : ((t.extract (zM t + 1) t.size).toList == [45, 48]) = true ↔ t.size = zJ t + 1 ∧ isAt t (zJ t) 48 := by
  have hs : (t.extract (zM t + 1) t.size).size = t.size - (zM t + 1) := by rw [ByteArray.size_extract, Nat.min_self]
  have h45 := (zL_iff.1 hl).2
  rw [two_iff, hs, zJ_t hl]
  constructor
  · rintro ⟨a, b, c⟩
    exact ⟨by omega, (isAt_ext (Nat.le_refl _) (show zM t + 1 + 1 < t.size by omega)).1 c⟩
  · rintro ⟨a, b⟩
    exact ⟨by omega, (isAt_ext (Nat.le_refl _) (show zM t + 1 + 0 < t.size by omega)).2 h45, (isAt_ext (Nat.le_refl _) (show zM t + 1 + 1 < t.size by omega)).2 b⟩
theorem PtP.no {t : ByteArray} {a b c : ByteArray} {w w' : World} (h : ¬ zOk t) (hb : Below w.heap.size w w') : PtP t w (.returned (.tuple #[.string a, .string b, .string c, .bool false])) w' := ⟨⟨a, b, c, false, rfl, ⟨fun k => absurd k Bool.false_ne_true, fun k => absurd k h⟩, fun k => absurd k Bool.false_ne_true⟩, hb⟩
theorem PtP.of {t : ByteArray} {a b c : ByteArray} {ok : Bool} {w w' : World} (h : ok = true ↔ zOk t) (h1 : a = zH t) (h2 : b = zT t) (h3 : c = zW t) (hb : Below w.heap.size w w') : PtP t w (.returned (.tuple #[.string a, .string b, .string c, .bool ok])) w' := ⟨⟨a, b, c, ok, rfl, h, fun _ => ⟨h1, h2, h3⟩⟩, hb⟩
end Go.Proofs.YtajcapliokblfaaGreatDoor
namespace Go.Proofs.YtajcapliokblfaaGreatDoor
open Go Go.RowKit Nt Go.Lib
set_option maxRecDepth 100000 in
set_option maxHeartbeats 8000000 in
theorem rParted_no (t : ByteArray) (w : World) (hz : t.size ≤ 9223372036854775807) (hbv : bareV (t.extract 0 (zN t)) = false) : Calls Tryz.prog 104 #[.string t] w (PtP t w) := by
  have KD := Lib.hid (fun w => rDigs_c t w hz)
  have hn := zN_le t
  have hnz : zE t 0 = zN t := by unfold zN; rfl
  rw [hnz] at KD
  have KB := Lib.hid (fun w => rBare_c (t.extract 0 (zN t)) w (by rw [ByteArray.size_extract]; omega))
  have BH := bare_head t
  have HH : t.extract 0 (zN t) = zH t := by unfold zH; rfl
  obtain ⟨r0, hr0⟩ : ∃ r0, r0 = t.extract (zN t) t.size := ⟨_, rfl⟩
  have hrs : r0.size = t.size - zN t := by rw [hr0, ByteArray.size_extract]; omega
  have hP : zPt t = true ↔ ∃ h : 0 < r0.size, r0[0].toNat = 46 := by subst hr0; exact zPt_iff.trans (at_ext t _ _)
  obtain ⟨r1, hr1⟩ : ∃ r1, r1 = t.extract (zM t) t.size := ⟨_, rfl⟩
  have hr1s : r1.size = t.size - zM t := by rw [hr1, ByteArray.size_extract, Nat.min_self]
  have hX : zX t = true ↔ ∃ h : 0 < r1.size, r1[0].toNat = 101 := by subst hr1; exact zX_iff.trans (at_ext t _ _)
  have hEm : r1.toList.isEmpty = true ↔ zM t = t.size := (em_iff r1).trans (by rw [hr1s]; have := zM_le t; clear hX hP; omega)
  obtain ⟨pw, hpw⟩ : ∃ pw, pw = r1.extract 1 r1.size := ⟨_, rfl⟩
  have hpwt : pw = t.extract (zM t + 1) t.size := by rw [hpw, hr1]; exact ext_from t _ _
  have hpws : pw.size = t.size - (zM t + 1) := by rw [hpwt, ByteArray.size_extract, Nat.min_self]
  have hL : zX t = true → (zL t = true ↔ ∃ h : 1 < r1.size, r1[1].toNat = 45) := fun hx => by
    have hi : isAt t (zM t + 1) 45 ↔ isAt r1 1 45 := by
      subst hr1
      by_cases hlt : zM t + 1 < t.size
      · exact (isAt_ext (Nat.le_refl _) hlt).symm
      · exact ⟨fun ⟨a, _⟩ => absurd a hlt, fun ⟨a, _⟩ => absurd (show zM t + 1 < t.size by rw [hr1s] at a; clear hX hP; omega) hlt⟩
    rw [zL_iff, hi]
    exact ⟨fun c => c.2, fun c => ⟨zX_iff.1 hx, c⟩⟩
  have HR1 := Lib.hid hr1
  have HR1S := Lib.hid hr1s
  have HX := Lib.hid hX
  have HEM := Lib.hid hEm
  have HPW := Lib.hid hpw
  have HPWT := Lib.hid hpwt
  have HPWS := Lib.hid hpws
  have HL := Lib.hid hL
  clear hr1 hr1s hX hEm hpw hpwt hpws hL
  have HR0 := Lib.hid hr0
  have HBH := Lib.hid BH
  have HHH := Lib.hid HH
  have HP := Lib.hid hP
  have HRS := Lib.hid hrs
  have HHN := Lib.hid hn
  have K2 := Lib.hid (fun w => rDigs_c (r0.extract 1 r0.size) w (by rw [ByteArray.size_extract]; omega))
  have hk1 : r0.extract 1 r0.size = t.extract (zN t + 1) t.size := by rw [hr0]; exact ext_from t _ _
  have HK1 := Lib.hid hk1
  clear BH HH hP hr0 hrs hnz hk1
  go_enter Tryz.func104, Tryz.ntmps104
  go_wp2_with fail
  refine (KD.out _).mono ?_
  rintro ee w1 ⟨rfl, hb⟩
  go_wp2_with fail
  go_region_held3 (fun _ => True) (trivial) (fail)
  rw [← HR0.out]
  generalize t.extract 0 (zN t) = hd at *
  clear hn
  go_wp2_with fail
  refine (KB.out _).mono ?_
  rintro ee w2 ⟨rfl, hb2⟩
  replace hb := below_chain hb.drew hb2
  clear hb2 KD KB
  rw [hbv]
  have hno : ¬ zOk t := fun c => by
    have := bareV_iff.2 (HBH.out.2 ⟨c.1, c.2.1⟩)
    rw [hbv] at this; cases this
  go_wp2_with fail
  refine bodyPost_ret (v := .tuple #[.string ⟨#[]⟩, .string ⟨#[]⟩, .string ⟨#[]⟩, .bool false]) (by simp [results, Tryz.results104, go_sem]) rfl (PtP.no hno hb)
set_option maxRecDepth 100000 in
set_option maxHeartbeats 8000000 in
theorem rParted_pt (t : ByteArray) (w : World) (hz : t.size ≤ 9223372036854775807) (hbv : bareV (t.extract 0 (zN t)) = true) (hpt : zPt t = true) : Calls Tryz.prog 104 #[.string t] w (PtP t w) := by
  have KD := Lib.hid (fun w => rDigs_c t w hz)
  have hn := zN_le t
  have hnz : zE t 0 = zN t := by unfold zN; rfl
  rw [hnz] at KD
  have KB := Lib.hid (fun w => rBare_c (t.extract 0 (zN t)) w (by rw [ByteArray.size_extract]; omega))
  have BH := bare_head t
  have HH : t.extract 0 (zN t) = zH t := by unfold zH; rfl
  obtain ⟨r0, hr0⟩ : ∃ r0, r0 = t.extract (zN t) t.size := ⟨_, rfl⟩
  have hrs : r0.size = t.size - zN t := by rw [hr0, ByteArray.size_extract]; omega
  have hP : zPt t = true ↔ ∃ h : 0 < r0.size, r0[0].toNat = 46 := by subst hr0; exact zPt_iff.trans (at_ext t _ _)
  obtain ⟨r1, hr1⟩ : ∃ r1, r1 = t.extract (zM t) t.size := ⟨_, rfl⟩
  have hr1s : r1.size = t.size - zM t := by rw [hr1, ByteArray.size_extract, Nat.min_self]
  have hX : zX t = true ↔ ∃ h : 0 < r1.size, r1[0].toNat = 101 := by subst hr1; exact zX_iff.trans (at_ext t _ _)
  have hEm : r1.toList.isEmpty = true ↔ zM t = t.size := (em_iff r1).trans (by rw [hr1s]; have := zM_le t; clear hX hP; omega)
  obtain ⟨pw, hpw⟩ : ∃ pw, pw = r1.extract 1 r1.size := ⟨_, rfl⟩
  have hpwt : pw = t.extract (zM t + 1) t.size := by rw [hpw, hr1]; exact ext_from t _ _
  have hpws : pw.size = t.size - (zM t + 1) := by rw [hpwt, ByteArray.size_extract, Nat.min_self]
  have hL : zX t = true → (zL t = true ↔ ∃ h : 1 < r1.size, r1[1].toNat = 45) := fun hx => by
    have hi : isAt t (zM t + 1) 45 ↔ isAt r1 1 45 := by
      subst hr1
      by_cases hlt : zM t + 1 < t.size
      · exact (isAt_ext (Nat.le_refl _) hlt).symm
      · exact ⟨fun ⟨a, _⟩ => absurd a hlt, fun ⟨a, _⟩ => absurd (show zM t + 1 < t.size by rw [hr1s] at a; clear hX hP; omega) hlt⟩
    rw [zL_iff, hi]
    exact ⟨fun c => c.2, fun c => ⟨zX_iff.1 hx, c⟩⟩
  have HR1 := Lib.hid hr1
  have HR1S := Lib.hid hr1s
  have HX := Lib.hid hX
  have HEM := Lib.hid hEm
  have HPW := Lib.hid hpw
  have HPWT := Lib.hid hpwt
  have HPWS := Lib.hid hpws
  have HL := Lib.hid hL
  clear hr1 hr1s hX hEm hpw hpwt hpws hL
  have HR0 := Lib.hid hr0
  have HBH := Lib.hid BH
  have HHH := Lib.hid HH
  have HP := Lib.hid hP
  have HRS := Lib.hid hrs
  have HHN := Lib.hid hn
  have K2 := Lib.hid (fun w => rDigs_c (r0.extract 1 r0.size) w (by rw [ByteArray.size_extract]; omega))
  have hk1 : r0.extract 1 r0.size = t.extract (zN t + 1) t.size := by rw [hr0]; exact ext_from t _ _
  have HK1 := Lib.hid hk1
  clear BH HH hP hr0 hrs hnz hk1
  go_enter Tryz.func104, Tryz.ntmps104
  go_wp2_with fail
  refine (KD.out _).mono ?_
  rintro ee w1 ⟨rfl, hb⟩
  go_wp2_with fail
  go_region_held3 (fun _ => True) (trivial) (fail)
  rw [← HR0.out]
  generalize t.extract 0 (zN t) = hd at *
  clear hn
  go_wp2_with fail
  refine (KB.out _).mono ?_
  rintro ee w2 ⟨rfl, hb2⟩
  replace hb := below_chain hb.drew hb2
  clear hb2 KD KB
  rw [hbv]
  have HB0 := Lib.hid (HBH.out.1 (bareV_iff.1 hbv))
  clear HBH hbv
  obtain ⟨hp0, hp1⟩ := HP.out.1 hpt
  have HPT := Lib.hid hpt
  have hkv : zE (r0.extract 1 r0.size) 0 = zM t - (zN t + 1) := by
    rw [HK1.out, zM_t hpt]
    exact zE_ext t (zN t + 1) (by have := HRS.out; have := HHN.out; omega)
  rw [hkv] at K2
  clear hpt hkv HP
  go_wp2_with fail
  refine (K2.out _).mono ?_
  rintro ee w3 ⟨rfl, hb3⟩
  have hb4 := below_chain hb hb3
  clear hb hb3 K2
  have hM0 : zM t - (zN t + 1) ≤ t.size - (zN t + 1) := by have := zM_le t; omega
  have HM0 := Lib.hid (zM_le t)
  obtain ⟨k, hk⟩ : ∃ k, k = zM t - (zN t + 1) := ⟨_, rfl⟩
  rw [← hk] at hM0
  simp only [← hk]
  have HK := Lib.hid hk
  clear hk
  by_cases hk0 : k = 0
  · have hno : ¬ zOk t := fun c => by have := c.2.2.1 HPT.out; have := HK.out; omega
    go_wp2_with fail
    refine bodyPost_ret (v := .tuple #[.string ⟨#[]⟩, .string ⟨#[]⟩, .string ⟨#[]⟩, .bool false]) (by simp [results, Tryz.results104, go_sem]) rfl (PtP.no hno hb4)
  · have hkz : 1 + k ≤ r0.size := by have := HRS.out; omega
    have hrz : r0.size ≤ 9223372036854775807 := by have := HRS.out; omega
    have l1 : IntKind.i64.wrap (1 + (k : Int)) = 1 + (k : Int) := IntWalk.i64_in _ (by omega)
    have l2 : (0 : Int) ≤ 1 + (k : Int) := by omega
    have l3 : (1 : Int) ≤ 1 + (k : Int) := by omega
    have l4 : 1 + (k : Int) ≤ (r0.size : Int) := by omega
    have l5 : (1 + (k : Int)).toNat = 1 + k := by omega
    clear hM0
    go_wp2_with fail
    go_region_held3 (fun _ => True) (trivial) (fail)
    have hq1 : r0.extract 1 (1 + k) = zT t := by
      unfold zT
      rw [if_pos HPT.out, HR0.out, ext_mid]
      congr 1
      have := HK.out; have := HM0.out; omega
    have hq2 : r0.extract (1 + k) r0.size = r1 := by
      rw [HR0.out, HR1.out, ext_from]
      congr 1
      have := HK.out; have := HM0.out; omega
    have HQ : Hid (zPt t = true → zN t + 1 < zM t) := Lib.hid (fun _ => by have := HK.out; omega)
    rw [hq1, hq2]
    have HTL : Hid (zT t = zT t) := Lib.hid rfl
    generalize hqq : zT t = tl at *
    replace HTL : Hid (tl = zT t) := Lib.hid hqq.symm
    clear hqq hq1 hq2
    cases hx : zX t with
    | false =>
      have hwv : zW t = ⟨#[48]⟩ := by unfold zW; rw [hx]; rfl
      have hok : r1.toList.isEmpty = true ↔ zOk t := by
        rw [HEM.out]
        exact ⟨fun c => ⟨HB0.out.1, HB0.out.2, HQ.out, fun _ => c, fun d => by rw [hx] at d; cases d⟩, fun c => c.2.2.2.1 (by rw [hx]; decide)⟩
      have HOK := Lib.hid hok
      have HWV := Lib.hid hwv
      by_cases h10 : 0 < r1.size
      · have h11 : r1[0].toNat ≠ 101 := fun c => by rw [HX.out.2 ⟨h10, c⟩] at hx; cases hx
        clear hok hwv hx HX
        go_wp2_with fail
        refine bodyPost_ret (v := .tuple #[.string hd, .string tl, .string ⟨#[48]⟩, .bool r1.toList.isEmpty]) (by simp [results, Tryz.results104, go_sem]) rfl (PtP.of HOK.out HHH.out HTL.out HWV.out.symm hb4.drew)
      · clear hok hwv hx HX
        go_wp2_with fail
        refine bodyPost_ret (v := .tuple #[.string hd, .string tl, .string ⟨#[48]⟩, .bool r1.toList.isEmpty]) (by simp [results, Tryz.results104, go_sem]) rfl (PtP.of HOK.out HHH.out HTL.out HWV.out.symm hb4.drew)
    | true =>
      obtain ⟨h10, h11⟩ := HX.out.1 hx
      have HX1 := Lib.hid hx
      have HL1 := Lib.hid (HL.out hx)
      have HWV : Hid (zW t = pw) := Lib.hid (by unfold zW; rw [if_pos hx]; exact HPWT.out.symm)
      clear HX HL
      cases hl : zL t with
      | true =>
        obtain ⟨g0, g1⟩ := HL1.out.1 hl
        have HLL := Lib.hid hl
        have g4 : 0 < (r1.extract 1 r1.size).size := by rw [ByteArray.size_extract]; omega
        have g3 : ((((r1.extract 1 r1.size)[0]'g4).toNat : Int) == 45) = true := by
          rw [ByteArray.getElem_extract]
          have : r1[1 + 0].toNat = 45 := g1
          rw [this]; rfl
        have hpj : (r1.extract 1 r1.size).extract 1 (r1.size - 1) = t.extract (zJ t) t.size := by
          have h1 : (r1.extract 1 r1.size).size = r1.size - 1 := by rw [ByteArray.size_extract, Nat.min_self]
          rw [← h1, ext_from, HR1.out, ext_from, zJ_t HLL.out]
        have K3 := Lib.hid (fun w => rBare_c ((r1.extract 1 r1.size).extract 1 (r1.size - 1)) w (by rw [hpj, ByteArray.size_extract]; omega))
        have HPJ := Lib.hid hpj
        clear hl hx HL1 g1 hpj
        have g2 : (1 : Int) < (r1.size : Int) := by omega
        go_wp2_with fail
        refine (K3.out _).mono ?_
        rintro ee w4 ⟨rfl, hb5⟩
        have hb6 := below_chain hb4.drew hb5
        clear hb5 K3
        rw [HPJ.out]
        have HBT := Lib.hid (bare_tail t (zJ t) (zJ_le HX1.out))
        cases hbp : bareV (t.extract (zJ t) t.size) with
        | false =>
          have hno : ¬ zOk t := fun c => by
            have hq := c.2.2.2.2 HX1.out
            have := bareV_iff.2 (HBT.out.2 ⟨hq.1, hq.2.1, Classical.byCases (fun d : isAt t (zJ t) 48 => Or.inl (hq.2.2 d).2) Or.inr⟩)
            rw [hbp] at this; cases this
          go_wp2_with fail
          refine bodyPost_ret (v := .tuple #[.string ⟨#[]⟩, .string ⟨#[]⟩, .string ⟨#[]⟩, .bool false]) (by simp [results, Tryz.results104, go_sem]) rfl (PtP.no hno hb6)
        | true =>
          have HBP := Lib.hid (HBT.out.1 (bareV_iff.1 hbp))
          have H2 := Lib.hid (two_ext HX1.out HLL.out)
          rw [← HPWT.out, HPW.out] at H2
          clear hbp
          cases hm : ((r1.extract 1 r1.size).toList == [45, 48]) with
          | true =>
            have hno : ¬ zOk t := fun c => by
              have := (c.2.2.2.2 HX1.out).2.2 (H2.out.1 hm).2
              rw [HLL.out] at this; cases this.1
            go_wp2_with fail
            refine bodyPost_ret (v := .tuple #[.string ⟨#[]⟩, .string ⟨#[]⟩, .string ⟨#[]⟩, .bool false]) (by simp [results, Tryz.results104, go_sem]) rfl (PtP.no hno hb6)
          | false =>
            have hyes : zOk t := ⟨HB0.out.1, HB0.out.2, HQ.out, fun c => absurd HX1.out c, fun _ => ⟨HBP.out.1, HBP.out.2.1, fun d => by
              have := H2.out.2 ⟨HBP.out.2.2.resolve_right (fun c => c d), d⟩
              rw [hm] at this; cases this⟩⟩
            go_wp2_with fail
            refine bodyPost_ret (v := .tuple #[.string hd, .string tl, .string (r1.extract 1 r1.size), .bool true]) (by simp [results, Tryz.results104, go_sem]) rfl (PtP.of ⟨fun _ => hyes, fun _ => rfl⟩ HHH.out HTL.out (HPW.out.symm.trans HWV.out.symm) hb6)
      | false =>
        have hln : ¬ zL t = true := fun c => by rw [hl] at c; cases c
        have HLL := Lib.hid hln
        have hpj : r1.extract 1 r1.size = t.extract (zJ t) t.size := by
          rw [HR1.out, ext_from, zJ_f hln]
        have hbz : (r1.extract 1 r1.size).size ≤ 9223372036854775807 := by rw [hpj, ByteArray.size_extract]; omega
        have K3 := Lib.hid (fun w => rBare_c (r1.extract 1 r1.size) w hbz)
        have HPJ := Lib.hid hpj
        have HBT := Lib.hid (bare_tail t (zJ t) (zJ_le HX1.out))
        by_cases g2 : (1 : Int) < (r1.size : Int)
        · have g4 : 0 < (r1.extract 1 r1.size).size := by rw [ByteArray.size_extract]; omega
          have g5 : ((r1.extract 1 r1.size)[0]'g4).toNat ≠ 45 := fun c => hln (HL1.out.2 ⟨by omega, by
            rw [ByteArray.getElem_extract] at c
            exact c⟩)
          have g3 : ((((r1.extract 1 r1.size)[0]'g4).toNat : Int) == 45) = false := by rw [beq_eq_false_iff_ne]; omega
          have hm : ((r1.extract 1 r1.size).toList == [45, 48]) = false := by
            cases hmm : ((r1.extract 1 r1.size).toList == [45, 48]) with
            | false => rfl
            | true => exact absurd ((two_iff _).1 hmm).2.1 (fun ⟨_, c⟩ => g5 c)
          clear hl hx HL1 hpj hln g5 hbz
          go_wp2_with fail
          refine (K3.out _).mono ?_
          rintro ee w4 ⟨rfl, hb5⟩
          have hb6 := below_chain hb4.drew hb5
          clear hb5 K3
          cases hbp : bareV (r1.extract 1 r1.size) with
          | false =>
            have hno : ¬ zOk t := fun c => by
              have hq := c.2.2.2.2 HX1.out
              have := bareV_iff.2 (HBT.out.2 ⟨hq.1, hq.2.1, Classical.byCases (fun d : isAt t (zJ t) 48 => Or.inl (hq.2.2 d).2) Or.inr⟩)
              rw [← HPJ.out, hbp] at this; cases this
            go_wp2_with fail
            refine bodyPost_ret (v := .tuple #[.string ⟨#[]⟩, .string ⟨#[]⟩, .string ⟨#[]⟩, .bool false]) (by simp [results, Tryz.results104, go_sem]) rfl (PtP.no hno hb6)
          | true =>
            have HBP := Lib.hid (HBT.out.1 (bareV_iff.1 (HPJ.out ▸ hbp)))
            have hyes : zOk t := ⟨HB0.out.1, HB0.out.2, HQ.out, fun c => absurd HX1.out c, fun _ => ⟨HBP.out.1, HBP.out.2.1, fun d => ⟨by have := HLL.out; cases h : zL t with
              | false => rfl
              | true => exact absurd h this, HBP.out.2.2.resolve_right (fun c => c d)⟩⟩⟩
            clear hbp
            go_wp2_with fail
            refine bodyPost_ret (v := .tuple #[.string hd, .string tl, .string (r1.extract 1 r1.size), .bool true]) (by simp [results, Tryz.results104, go_sem]) rfl (PtP.of ⟨fun _ => hyes, fun _ => rfl⟩ HHH.out HTL.out (HPW.out.symm.trans HWV.out.symm) hb6)
        · have hb0 : bareV (r1.extract 1 r1.size) = false := bareV_f (fun c => by have := c.1; rw [ByteArray.size_extract] at this; omega)
          have hno : ¬ zOk t := fun c => by
            have hq := c.2.2.2.2 HX1.out
            have := bareV_iff.2 (HBT.out.2 ⟨hq.1, hq.2.1, Classical.byCases (fun d : isAt t (zJ t) 48 => Or.inl (hq.2.2 d).2) Or.inr⟩)
            rw [← HPJ.out, hb0] at this; cases this
          have g6 : r1.size = 1 := by omega
          have hbe : bareV ByteArray.empty = false := bareV_f (fun c => absurd c.1 (by decide))
          have K4 := Lib.hid (fun w => rBare_c ByteArray.empty w (by decide))
          rw [hbe] at K4
          clear hl hx HL1 hpj hln hbz g2 hb0
          go_wp2_with fail
          refine (K4.out _).mono ?_
          rintro ee w4 ⟨rfl, hb5⟩
          have hb6 := below_chain hb4.drew hb5
          clear hb5 K4
          go_wp2_with fail
          refine bodyPost_ret (v := .tuple #[.string ⟨#[]⟩, .string ⟨#[]⟩, .string ⟨#[]⟩, .bool false]) (by simp [results, Tryz.results104, go_sem]) rfl (PtP.no hno hb6)
end Go.Proofs.YtajcapliokblfaaGreatDoor
namespace Go.Proofs.YtajcapliokblfaaGreatDoor
open Go Go.RowKit Nt Go.Lib
set_option maxRecDepth 100000 in
set_option maxHeartbeats 8000000 in
theorem rParted_np (t : ByteArray) (w : World) (hz : t.size ≤ 9223372036854775807) (hbv : bareV (t.extract 0 (zN t)) = true) (hpt : zPt t = false) : Calls Tryz.prog 104 #[.string t] w (PtP t w) := by
  have KD := Lib.hid (fun w => rDigs_c t w hz)
  have hn := zN_le t
  have hnz : zE t 0 = zN t := by unfold zN; rfl
  rw [hnz] at KD
  have KB := Lib.hid (fun w => rBare_c (t.extract 0 (zN t)) w (by rw [ByteArray.size_extract]; omega))
  have BH := bare_head t
  have HH : t.extract 0 (zN t) = zH t := by unfold zH; rfl
  obtain ⟨r0, hr0⟩ : ∃ r0, r0 = t.extract (zN t) t.size := ⟨_, rfl⟩
  have hrs : r0.size = t.size - zN t := by rw [hr0, ByteArray.size_extract]; omega
  have hP : zPt t = true ↔ ∃ h : 0 < r0.size, r0[0].toNat = 46 := by subst hr0; exact zPt_iff.trans (at_ext t _ _)
  obtain ⟨r1, hr1⟩ : ∃ r1, r1 = t.extract (zM t) t.size := ⟨_, rfl⟩
  have hr1s : r1.size = t.size - zM t := by rw [hr1, ByteArray.size_extract, Nat.min_self]
  have hX : zX t = true ↔ ∃ h : 0 < r1.size, r1[0].toNat = 101 := by subst hr1; exact zX_iff.trans (at_ext t _ _)
  have hEm : r1.toList.isEmpty = true ↔ zM t = t.size := (em_iff r1).trans (by rw [hr1s]; have := zM_le t; clear hX hP; omega)
  obtain ⟨pw, hpw⟩ : ∃ pw, pw = r1.extract 1 r1.size := ⟨_, rfl⟩
  have hpwt : pw = t.extract (zM t + 1) t.size := by rw [hpw, hr1]; exact ext_from t _ _
  have hpws : pw.size = t.size - (zM t + 1) := by rw [hpwt, ByteArray.size_extract, Nat.min_self]
  have hL : zX t = true → (zL t = true ↔ ∃ h : 1 < r1.size, r1[1].toNat = 45) := fun hx => by
    have hi : isAt t (zM t + 1) 45 ↔ isAt r1 1 45 := by
      subst hr1
      by_cases hlt : zM t + 1 < t.size
      · exact (isAt_ext (Nat.le_refl _) hlt).symm
      · exact ⟨fun ⟨a, _⟩ => absurd a hlt, fun ⟨a, _⟩ => absurd (show zM t + 1 < t.size by rw [hr1s] at a; clear hX hP; omega) hlt⟩
    rw [zL_iff, hi]
    exact ⟨fun c => c.2, fun c => ⟨zX_iff.1 hx, c⟩⟩
  have HR1 := Lib.hid hr1
  have HR1S := Lib.hid hr1s
  have HX := Lib.hid hX
  have HEM := Lib.hid hEm
  have HPW := Lib.hid hpw
  have HPWT := Lib.hid hpwt
  have HPWS := Lib.hid hpws
  have HL := Lib.hid hL
  clear hr1 hr1s hX hEm hpw hpwt hpws hL
  have HR0 := Lib.hid hr0
  have HBH := Lib.hid BH
  have HHH := Lib.hid HH
  have HP := Lib.hid hP
  have HRS := Lib.hid hrs
  have HHN := Lib.hid hn
  have K2 := Lib.hid (fun w => rDigs_c (r0.extract 1 r0.size) w (by rw [ByteArray.size_extract]; omega))
  have hk1 : r0.extract 1 r0.size = t.extract (zN t + 1) t.size := by rw [hr0]; exact ext_from t _ _
  have HK1 := Lib.hid hk1
  clear BH HH hP hr0 hrs hnz hk1
  go_enter Tryz.func104, Tryz.ntmps104
  go_wp2_with fail
  refine (KD.out _).mono ?_
  rintro ee w1 ⟨rfl, hb⟩
  go_wp2_with fail
  go_region_held3 (fun _ => True) (trivial) (fail)
  rw [← HR0.out]
  generalize t.extract 0 (zN t) = hd at *
  clear hn
  go_wp2_with fail
  refine (KB.out _).mono ?_
  rintro ee w2 ⟨rfl, hb2⟩
  replace hb := below_chain hb.drew hb2
  clear hb2 KD KB
  rw [hbv]
  have HB0 := Lib.hid (HBH.out.1 (bareV_iff.1 hbv))
  clear HBH hbv
  have hpf : ¬ zPt t = true := fun c => by rw [hpt] at c; cases c
  have h01 : r0 = r1 := by rw [HR0.out, HR1.out, zM_f hpf]
  have htl : zT t = ⟨#[]⟩ := by unfold zT; rw [if_neg hpf]
  have HTL : Hid ((⟨#[]⟩ : ByteArray) = zT t) := Lib.hid htl.symm
  have HQ : Hid (zPt t = true → zN t + 1 < zM t) := Lib.hid (fun c => absurd c hpf)
  have HNP : Hid (∀ h : 0 < r1.size, r1[0].toNat ≠ 46) := Lib.hid (fun h c => hpf (HP.out.2 ⟨h01 ▸ h, by subst h01; exact c⟩))
  clear HP hpt hpf htl K2 HK1 HRS HR0
  subst h01
  by_cases hp0 : 0 < r0.size
  · have hp1 := HNP.out hp0
    clear HNP
    cases hx : zX t with
    | false =>
      have hwv : zW t = ⟨#[48]⟩ := by unfold zW; rw [hx]; rfl
      have hok : r0.toList.isEmpty = true ↔ zOk t := by
        rw [HEM.out]
        exact ⟨fun c => ⟨HB0.out.1, HB0.out.2, HQ.out, fun _ => c, fun d => by rw [hx] at d; cases d⟩, fun c => c.2.2.2.1 (by rw [hx]; decide)⟩
      have HOK := Lib.hid hok
      have HWV := Lib.hid hwv
      by_cases h10 : 0 < r0.size
      · have h11 : r0[0].toNat ≠ 101 := fun c => by rw [HX.out.2 ⟨h10, c⟩] at hx; cases hx
        clear hok hwv hx HX
        go_wp2_with fail
        refine bodyPost_ret (v := .tuple #[.string hd, .string ⟨#[]⟩, .string ⟨#[48]⟩, .bool r0.toList.isEmpty]) (by simp [results, Tryz.results104, go_sem]) rfl (PtP.of HOK.out HHH.out HTL.out HWV.out.symm hb)
      · exact absurd hp0 h10
    | true =>
      obtain ⟨h10, h11⟩ := HX.out.1 hx
      have HX1 := Lib.hid hx
      have HL1 := Lib.hid (HL.out hx)
      have HWV : Hid (zW t = pw) := Lib.hid (by unfold zW; rw [if_pos hx]; exact HPWT.out.symm)
      clear HX HL
      cases hl : zL t with
      | true =>
        obtain ⟨g0, g1⟩ := HL1.out.1 hl
        have HLL := Lib.hid hl
        have g4 : 0 < (r0.extract 1 r0.size).size := by rw [ByteArray.size_extract]; omega
        have g3 : ((((r0.extract 1 r0.size)[0]'g4).toNat : Int) == 45) = true := by
          rw [ByteArray.getElem_extract]
          have : r0[1 + 0].toNat = 45 := g1
          rw [this]; rfl
        have hpj : (r0.extract 1 r0.size).extract 1 (r0.size - 1) = t.extract (zJ t) t.size := by
          have h1 : (r0.extract 1 r0.size).size = r0.size - 1 := by rw [ByteArray.size_extract, Nat.min_self]
          rw [← h1, ext_from, HR1.out, ext_from, zJ_t HLL.out]
        have K3 := Lib.hid (fun w => rBare_c ((r0.extract 1 r0.size).extract 1 (r0.size - 1)) w (by rw [hpj, ByteArray.size_extract]; omega))
        have HPJ := Lib.hid hpj
        clear hl hx HL1 g1 hpj
        have g2 : (1 : Int) < (r0.size : Int) := by omega
        go_wp2_with fail
        refine (K3.out _).mono ?_
        rintro ee w4 ⟨rfl, hb5⟩
        have hb6 := below_chain hb hb5
        clear hb5 K3
        rw [HPJ.out]
        have HBT := Lib.hid (bare_tail t (zJ t) (zJ_le HX1.out))
        cases hbp : bareV (t.extract (zJ t) t.size) with
        | false =>
          have hno : ¬ zOk t := fun c => by
            have hq := c.2.2.2.2 HX1.out
            have := bareV_iff.2 (HBT.out.2 ⟨hq.1, hq.2.1, Classical.byCases (fun d : isAt t (zJ t) 48 => Or.inl (hq.2.2 d).2) Or.inr⟩)
            rw [hbp] at this; cases this
          go_wp2_with fail
          refine bodyPost_ret (v := .tuple #[.string ⟨#[]⟩, .string ⟨#[]⟩, .string ⟨#[]⟩, .bool false]) (by simp [results, Tryz.results104, go_sem]) rfl (PtP.no hno hb6)
        | true =>
          have HBP := Lib.hid (HBT.out.1 (bareV_iff.1 hbp))
          have H2 := Lib.hid (two_ext HX1.out HLL.out)
          rw [← HPWT.out, HPW.out] at H2
          clear hbp
          cases hm : ((r0.extract 1 r0.size).toList == [45, 48]) with
          | true =>
            have hno : ¬ zOk t := fun c => by
              have := (c.2.2.2.2 HX1.out).2.2 (H2.out.1 hm).2
              rw [HLL.out] at this; cases this.1
            go_wp2_with fail
            refine bodyPost_ret (v := .tuple #[.string ⟨#[]⟩, .string ⟨#[]⟩, .string ⟨#[]⟩, .bool false]) (by simp [results, Tryz.results104, go_sem]) rfl (PtP.no hno hb6)
          | false =>
            have hyes : zOk t := ⟨HB0.out.1, HB0.out.2, HQ.out, fun c => absurd HX1.out c, fun _ => ⟨HBP.out.1, HBP.out.2.1, fun d => by
              have := H2.out.2 ⟨HBP.out.2.2.resolve_right (fun c => c d), d⟩
              rw [hm] at this; cases this⟩⟩
            go_wp2_with fail
            refine bodyPost_ret (v := .tuple #[.string hd, .string ⟨#[]⟩, .string (r0.extract 1 r0.size), .bool true]) (by simp [results, Tryz.results104, go_sem]) rfl (PtP.of ⟨fun _ => hyes, fun _ => rfl⟩ HHH.out HTL.out (HPW.out.symm.trans HWV.out.symm) hb6)
      | false =>
        have hln : ¬ zL t = true := fun c => by rw [hl] at c; cases c
        have HLL := Lib.hid hln
        have hpj : r0.extract 1 r0.size = t.extract (zJ t) t.size := by
          rw [HR1.out, ext_from, zJ_f hln]
        have hbz : (r0.extract 1 r0.size).size ≤ 9223372036854775807 := by rw [hpj, ByteArray.size_extract]; omega
        have K3 := Lib.hid (fun w => rBare_c (r0.extract 1 r0.size) w hbz)
        have HPJ := Lib.hid hpj
        have HBT := Lib.hid (bare_tail t (zJ t) (zJ_le HX1.out))
        by_cases g2 : (1 : Int) < (r0.size : Int)
        · have g4 : 0 < (r0.extract 1 r0.size).size := by rw [ByteArray.size_extract]; omega
          have g5 : ((r0.extract 1 r0.size)[0]'g4).toNat ≠ 45 := fun c => hln (HL1.out.2 ⟨by omega, by
            rw [ByteArray.getElem_extract] at c
            exact c⟩)
          have g3 : ((((r0.extract 1 r0.size)[0]'g4).toNat : Int) == 45) = false := by rw [beq_eq_false_iff_ne]; omega
          have hm : ((r0.extract 1 r0.size).toList == [45, 48]) = false := by
            cases hmm : ((r0.extract 1 r0.size).toList == [45, 48]) with
            | false => rfl
            | true => exact absurd ((two_iff _).1 hmm).2.1 (fun ⟨_, c⟩ => g5 c)
          clear hl hx HL1 hpj hln g5 hbz
          go_wp2_with fail
          refine (K3.out _).mono ?_
          rintro ee w4 ⟨rfl, hb5⟩
          have hb6 := below_chain hb hb5
          clear hb5 K3
          cases hbp : bareV (r0.extract 1 r0.size) with
          | false =>
            have hno : ¬ zOk t := fun c => by
              have hq := c.2.2.2.2 HX1.out
              have := bareV_iff.2 (HBT.out.2 ⟨hq.1, hq.2.1, Classical.byCases (fun d : isAt t (zJ t) 48 => Or.inl (hq.2.2 d).2) Or.inr⟩)
              rw [← HPJ.out, hbp] at this; cases this
            go_wp2_with fail
            refine bodyPost_ret (v := .tuple #[.string ⟨#[]⟩, .string ⟨#[]⟩, .string ⟨#[]⟩, .bool false]) (by simp [results, Tryz.results104, go_sem]) rfl (PtP.no hno hb6)
          | true =>
            have HBP := Lib.hid (HBT.out.1 (bareV_iff.1 (HPJ.out ▸ hbp)))
            have hyes : zOk t := ⟨HB0.out.1, HB0.out.2, HQ.out, fun c => absurd HX1.out c, fun _ => ⟨HBP.out.1, HBP.out.2.1, fun d => ⟨by have := HLL.out; cases h : zL t with
              | false => rfl
              | true => exact absurd h this, HBP.out.2.2.resolve_right (fun c => c d)⟩⟩⟩
            clear hbp
            go_wp2_with fail
            refine bodyPost_ret (v := .tuple #[.string hd, .string ⟨#[]⟩, .string (r0.extract 1 r0.size), .bool true]) (by simp [results, Tryz.results104, go_sem]) rfl (PtP.of ⟨fun _ => hyes, fun _ => rfl⟩ HHH.out HTL.out (HPW.out.symm.trans HWV.out.symm) hb6)
        · have hb0 : bareV (r0.extract 1 r0.size) = false := bareV_f (fun c => by have := c.1; rw [ByteArray.size_extract] at this; omega)
          have hno : ¬ zOk t := fun c => by
            have hq := c.2.2.2.2 HX1.out
            have := bareV_iff.2 (HBT.out.2 ⟨hq.1, hq.2.1, Classical.byCases (fun d : isAt t (zJ t) 48 => Or.inl (hq.2.2 d).2) Or.inr⟩)
            rw [← HPJ.out, hb0] at this; cases this
          have g6 : r0.size = 1 := by omega
          have hbe : bareV ByteArray.empty = false := bareV_f (fun c => absurd c.1 (by decide))
          have K4 := Lib.hid (fun w => rBare_c ByteArray.empty w (by decide))
          rw [hbe] at K4
          clear hl hx HL1 hpj hln hbz g2 hb0
          go_wp2_with fail
          refine (K4.out _).mono ?_
          rintro ee w4 ⟨rfl, hb5⟩
          have hb6 := below_chain hb hb5
          clear hb5 K4
          go_wp2_with fail
          refine bodyPost_ret (v := .tuple #[.string ⟨#[]⟩, .string ⟨#[]⟩, .string ⟨#[]⟩, .bool false]) (by simp [results, Tryz.results104, go_sem]) rfl (PtP.no hno hb6)
  · have hx0 : zX t = false := by
      cases hx : zX t with
      | false => rfl
      | true => exact absurd (HX.out.1 hx).1 hp0
    have hwv : zW t = ⟨#[48]⟩ := by unfold zW; rw [hx0]; rfl
    have HWV := Lib.hid hwv
    have hok : r0.toList.isEmpty = true ↔ zOk t := by
      rw [HEM.out]
      exact ⟨fun c => ⟨HB0.out.1, HB0.out.2, HQ.out, fun _ => c, fun d => by rw [hx0] at d; cases d⟩, fun c => c.2.2.2.1 (by rw [hx0]; decide)⟩
    have HOK := Lib.hid hok
    clear hok hwv HX HNP hx0
    go_wp2_with fail
    refine bodyPost_ret (v := .tuple #[.string hd, .string ⟨#[]⟩, .string ⟨#[48]⟩, .bool r0.toList.isEmpty]) (by simp [results, Tryz.results104, go_sem]) rfl (PtP.of HOK.out HHH.out HTL.out HWV.out.symm hb)
end Go.Proofs.YtajcapliokblfaaGreatDoor
namespace Go.Proofs.YtajcapliokblfaaGreatDoor
open Go Go.RowKit Nt Go.Lib
theorem rParted_c (t : ByteArray) (w : World) (hz : t.size ≤ 9223372036854775807) : Calls Tryz.prog 104 #[.string t] w (PtP t w) := by
  cases hbv : bareV (t.extract 0 (zN t)) with
  | false => exact rParted_no t w hz hbv
  | true =>
    cases hpt : zPt t with
    | true => exact rParted_pt t w hz hbv hpt
    | false => exact rParted_np t w hz hbv hpt
end Go.Proofs.YtajcapliokblfaaGreatDoor
namespace Go.Proofs.YtajcapliokblfaaGreatDoor
open Go Go.RowKit Nt
theorem ten_bytes (n : Nat) : nd 256 (10 ^ n) ≤ 5 * (n / 12 + 1) := by
  refine nd_le (by omega) ?_
  have h1 : (10 : Nat) ^ n ≤ 10 ^ (12 * (n / 12 + 1)) := Nat.pow_le_pow_right (by omega) (by omega)
  rw [Nat.pow_mul] at h1
  rw [Nat.pow_mul]
  exact Nat.lt_of_le_of_lt h1 (Nat.pow_lt_pow_left (by decide) (by omega))
theorem num_bytes {s : ByteArray} (h : Digits s) : nd 256 (preV s s.size) ≤ 5 * (s.size / 12 + 1) :=
  Nat.le_trans (nd_mono (by omega) (Nat.le_of_lt (dig_pre h s.size (Nat.le_refl _)))) (ten_bytes _)
theorem pre_noughts {s : ByteArray} {k : Nat} (hk : k ≤ s.size) (h : ∀ j (hj : j < s.size), j < k → s[j].toNat = 48) : preV s k = 0 := by
  induction k with
  | zero => exact preV_zero s
  | succ k ih =>
    rw [preV_succ s k (by omega), ih (by omega) (fun j hj hjk => h j hj (by omega)), h k (by omega) (by omega)]
theorem pre_from {s : ByteArray} {k : Nat} (hk : k ≤ s.size) (h : ∀ j (hj : j < s.size), j < k → s[j].toNat = 48) : ∀ m, k + m ≤ s.size → preV (s.extract k s.size) m = preV s (k + m) := by
  intro m
  induction m with
  | zero => intro _; rw [preV_zero, Nat.add_zero, pre_noughts hk h]
  | succ m ih =>
    intro hm
    have hs : (s.extract k s.size).size = s.size - k := by rw [ByteArray.size_extract, Nat.min_self]
    rw [preV_succ _ m (by omega), ih (by omega), show k + (m + 1) = (k + m) + 1 by omega, preV_succ s (k + m) (by omega), ByteArray.getElem_extract]
theorem pre_strip {s : ByteArray} {k : Nat} (hk : k ≤ s.size) (h : ∀ j (hj : j < s.size), j < k → s[j].toNat = 48) : preV (s.extract k s.size) (s.extract k s.size).size = preV s s.size := by
  have hs : (s.extract k s.size).size = s.size - k := by rw [ByteArray.size_extract, Nat.min_self]
  rw [hs, pre_from hk h (s.size - k) (by omega)]
  congr 1; omega
theorem dig_from {s : ByteArray} (h : Digits s) (k : Nat) : Digits (s.extract k s.size) := by
  intro j hj
  rw [ByteArray.getElem_extract]
  exact h _ _
theorem rt_strip {s : ByteArray} {k : Nat} (hd : Digits s) (hk : k < s.size) (h : ∀ j (hj : j < s.size), j < k → s[j].toNat = 48) (he : s.size = k + 1 ∨ ∃ hj : k < s.size, s[k].toNat ≠ 48) (hf : fits (preV s s.size)) : rtS (s.extract k s.size) = natS (preV s s.size) ∧ rtE (s.extract k s.size) = 0 := by
  have hs : (s.extract k s.size).size = s.size - k := by rw [ByteArray.size_extract, Nat.min_self]
  have hv : Valid (s.extract k s.size) := by
    refine ⟨by omega, dig_from hd k, fun ⟨c1, c2⟩ => ?_⟩
    rcases he with he | ⟨hj, he⟩
    · omega
    · have := c2 (by omega)
      rw [ByteArray.getElem_extract] at this
      exact he this
  have hp := pre_strip (Nat.le_of_lt hk) h
  unfold rtS rtE
  rw [if_pos hv, if_pos hv, hp, resS_ok hf, resE_ok hf]
  exact ⟨rfl, rfl⟩
@[irreducible] noncomputable def zK (t : ByteArray) : ByteArray := if zL t = true then (zW t).extract 1 (zW t).size else zW t
theorem zL_X {t : ByteArray} (h : zL t = true) : zX t = true := zX_iff.2 (zL_iff.1 h).1
theorem zK_facts {t : ByteArray} (h : zOk t) : Digits (zK t) ∧ (zK t).size ≤ t.size + 1 ∧ smV (zK t) (zK t).size = dcM t ∧ (zW t).size ≤ t.size + 1 ∧ ∃ h0 : 0 < (zW t).size, ((((zW t)[0]'h0).toNat : Int) == 45) = zL t := by
  have hM : dcM t = smV (zP t) (zP t).size := by unfold dcM; rfl
  by_cases hx : zX t = true
  · have hW : zW t = t.extract (zM t + 1) t.size := by unfold zW; rw [if_pos hx]
    have hPx : zP t = t.extract (zJ t) t.size := by unfold zP; rw [if_pos hx]
    have hq := h.2.2.2.2 hx
    have hWs : (zW t).size = t.size - (zM t + 1) := by rw [hW, ByteArray.size_extract, Nat.min_self]
    have hJ : zM t + 1 ≤ zJ t := by
      by_cases hl : zL t = true
      · rw [zJ_t hl]; omega
      · rw [zJ_f hl]; exact Nat.le_refl _
    have hK : zK t = zP t := by
      unfold zK
      by_cases hl : zL t = true
      · rw [if_pos hl, hPx, hW, ext_from, zJ_t hl]
      · rw [if_neg hl, hPx, hW, zJ_f hl]
    rw [hK, ← hM]
    refine ⟨zP_dig h, Nat.le_succ_of_le (zP_size t), rfl, by omega, ⟨by omega, ?_⟩⟩
    have hg : (zW t)[0]'(by omega) = t[zM t + 1]'(by omega) := by
      have : ∀ (u : ByteArray) (hu : u = t.extract (zM t + 1) t.size) (h0 : 0 < u.size), u[0] = t[zM t + 1]'(by omega) := by
        intro u hu h0
        subst hu
        rw [ByteArray.getElem_extract]
      exact this _ hW _
    rw [hg]
    by_cases hl : zL t = true
    · obtain ⟨_, e⟩ := (zL_iff.1 hl).2
      rw [hl, e]; rfl
    · have hl' : zL t = false := by cases hh : zL t with
        | false => rfl
        | true => exact absurd hh hl
      rw [hl', beq_eq_false_iff_ne]
      intro e
      exact hl (zL_iff.2 ⟨zX_iff.1 hx, ⟨by omega, by omega⟩⟩)
  · have hl : ¬ zL t = true := fun c => hx (zL_X c)
    have hl' : zL t = false := by cases hh : zL t with
      | false => rfl
      | true => exact absurd hh hl
    have hW : zW t = ⟨#[48]⟩ := by unfold zW; rw [if_neg hx]
    have hP : zP t = ⟨#[]⟩ := by unfold zP; rw [if_neg hx]
    have hK : zK t = ⟨#[48]⟩ := by unfold zK; rw [if_neg hl, hW]
    rw [hK, hM, hP, hl', hW]
    refine ⟨?_, ?_, ?_, ?_, ⟨by decide, rfl⟩⟩
    · intro j hj
      have : j = 0 := by have : (ByteArray.mk #[48]).size = 1 := rfl
                         omega
      subst this
      show 48 ≤ (48 : UInt8).toNat ∧ (48 : UInt8).toNat ≤ 57
      decide
    · show 1 ≤ _; omega
    · show smV ⟨#[48]⟩ 1 = smV ⟨#[]⟩ 0
      rw [smV_zero, smV_succ _ 0 (by decide), smV_zero]; rfl
    · show 1 ≤ _; omega
theorem zHT (t : ByteArray) : zH t ++ zT t = zD t := by unfold zH zT zD; rfl
theorem zT_size (t : ByteArray) : (zT t).size = zB t := by
  unfold zT zB
  split
  · rename_i h
    have := zM_le t
    rw [ByteArray.size_extract]; omega
  · rfl
theorem zH_size (t : ByteArray) : (zH t).size = zN t := by
  have := zN_le t
  unfold zH
  rw [ByteArray.size_extract]; omega
theorem dc_pow {t : ByteArray} {p : Int} {n : Nat} (hp : p = (if zL t = true then -(dcM t : Int) else (dcM t : Int)) - (zB t : Int)) (hn : n = p.natAbs) : (p < 0 → dcU t = 0 ∧ dcV t = n) ∧ (¬ p < 0 → dcU t = n ∧ dcV t = 0) := by
  unfold dcU dcV
  by_cases hl : zL t = true
  · rw [if_pos hl] at hp ⊢
    rw [if_pos hl]
    constructor <;> intro h <;> constructor <;> omega
  · rw [if_neg hl] at hp ⊢
    rw [if_neg hl]
    constructor <;> intro h <;> constructor <;> omega
theorem dc_fits {s : ByteArray} (h : dcOk s) : Bq (dcQ s) 3900 := by
  obtain ⟨h1, h2, h3⟩ := h
  have hb := zB_le (offB 45 s)
  have ho := offB_size 45 s
  have hd := num_bytes (zD_dig (offB 45 s))
  have hz := zD_size (offB 45 s)
  have hu := ten_bytes (dcU (offB 45 s))
  have hv := ten_bytes (dcV (offB 45 s))
  have hm := dcM_le (offB 45 s)
  have hu2 : dcU (offB 45 s) ≤ 5000 := by unfold dcU; split <;> omega
  have hv2 : dcV (offB 45 s) ≤ 9096 := by unfold dcV; split <;> omega
  unfold dcQ
  refine Bq_fr (Nat.pos_iff_ne_zero.1 (Nat.pow_pos (by omega))) ?_ ?_
  · refine Nat.le_trans (ndB_mul _ _) ?_
    omega
  · omega
end Go.Proofs.YtajcapliokblfaaGreatDoor
