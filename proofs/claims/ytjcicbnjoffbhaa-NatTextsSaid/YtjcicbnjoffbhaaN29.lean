/- Contracts of package nat: Read. -/
import Derived.Test.YtjcicbnjoffbhaaN26
set_option linter.unusedSimpArgs false
set_option linter.unusedVariables false
namespace Go.Proofs.Ytjcicbnjoffbhaa
open Go Go.RowKit Nt

/-- The value of decimal digits, the highest first. -/
def decV (l : List UInt8) : Nat := l.foldl (fun a b => 10 * a + (b.toNat - 48)) 0
theorem decV_snoc (l : List UInt8) (c : UInt8) : decV (l ++ [c]) = 10 * decV l + (c.toNat - 48) := by unfold decV; rw [List.foldl_append]; rfl
/-- Is it a digit? -/
def isDig (c : UInt8) : Prop := 48 ≤ c.toNat ∧ c.toNat ≤ 57
instance (c : UInt8) : Decidable (isDig c) := inferInstanceAs (Decidable (_ ∧ _))
theorem decV_lt : ∀ (n : Nat) (l : List UInt8), l.length = n → (∀ c ∈ l, isDig c) → decV l < 10 ^ n := by
  intro n
  induction n with
  | zero => intro l hl _; rw [List.eq_nil_of_length_eq_zero hl]; simp [decV]
  | succ n ih =>
    intro l hl h
    have hne : l ≠ [] := fun c => by rw [c] at hl; simp at hl
    rw [← List.dropLast_concat_getLast hne]
    have h1 := ih l.dropLast (by rw [List.length_dropLast]; omega) (fun x hx => h x ((List.dropLast_sublist l).subset hx))
    have h2 := h (l.getLast hne) (List.getLast_mem hne)
    unfold isDig at h2
    rw [decV_snoc, Nat.pow_succ]; omega
/-- The value of the digits ahead of the place k. -/
@[irreducible] def preV (s : ByteArray) (k : Nat) : Nat := decV (s.data.toList.take k)
theorem preV_zero (s : ByteArray) : preV s 0 = 0 := by unfold preV; rfl
theorem preV_full (s : ByteArray) : preV s s.size = decV s.data.toList := by
  unfold preV; rw [List.take_of_length_le]; rw [Array.length_toList]; exact Nat.le_refl _
theorem preV_succ (s : ByteArray) (k : Nat) (h : k < s.size) : preV s (k + 1) = 10 * preV s k + (s[k].toNat - 48) := by
  unfold preV
  have hk : k < s.data.toList.length := by rw [Array.length_toList]; exact h
  rw [List.take_succ_eq_append_getElem hk, decV_snoc]; rfl
def Digits (s : ByteArray) : Prop := ∀ k (h : k < s.size), isDig s[k]
def Valid (s : ByteArray) : Prop := 0 < s.size ∧ Digits s ∧ ¬ (1 < s.size ∧ ∀ h : 0 < s.size, s[0].toNat = 48)
theorem dig_pre {s : ByteArray} (h : Digits s) (k : Nat) (hk : k ≤ s.size) : preV s k < 10 ^ k := by
  unfold preV
  refine decV_lt k _ (by rw [List.length_take, Array.length_toList]; exact Nat.min_eq_left hk) (fun c hc => ?_)
  obtain ⟨j, hj, rfl⟩ := List.getElem_of_mem (List.mem_of_mem_take hc)
  rw [Array.length_toList] at hj
  exact h j hj
theorem lt48_no {x : Nat} (h : 48 ≤ x) : ¬ (x : Int) < 48 := by omega
/-- What stands when k digits have been read: x words, then part below ten. -/
def RdOk (s : ByteArray) (k x part ten : Nat) : Prop := preV s k = x * ten + part ∧ part < ten ∧ ∃ j, j < 19 ∧ ten = 10 ^ j
theorem rd_lt {s : ByteArray} {k x part ten : Nat} (h : RdOk s k x part ten) : ten ≤ 1000000000000000000 ∧ part < 1000000000000000000 := by
  obtain ⟨_, h2, j, hj, rfl⟩ := h
  have : (10 : Nat) ^ j ≤ 10 ^ 18 := Nat.pow_le_pow_right (by omega) (by omega)
  have e : (10 : Nat) ^ 18 = 1000000000000000000 := by decide
  omega
theorem rd_step {s : ByteArray} {k x part ten d : Nat} (h : RdOk s k x part ten) (hd : preV s (k + 1) = 10 * preV s k + d) (hd10 : d < 10) :
    preV s (k + 1) = x * (ten * 10) + (part * 10 + d) ∧ part * 10 + d < ten * 10 := by
  obtain ⟨h1, h2, _⟩ := h
  rw [hd, h1]
  constructor
  · rw [Nat.mul_add, ← Nat.mul_assoc x ten 10]; omega
  · omega
theorem rd_keep {s : ByteArray} {k x part ten d : Nat} (h : RdOk s k x part ten) (hd : preV s (k + 1) = 10 * preV s k + d) (hd10 : d < 10) (hne : ten * 10 ≠ 10000000000000000000) : RdOk s (k + 1) x (part * 10 + d) (ten * 10) := by
  obtain ⟨q1, q2⟩ := rd_step h hd hd10
  refine ⟨q1, q2, ?_⟩
  obtain ⟨_, _, j, hj, rfl⟩ := h
  refine ⟨j + 1, ?_, by rw [Nat.pow_succ]⟩
  rcases Nat.lt_or_ge (j + 1) 19 with h3 | h3
  · exact h3
  · exfalso; apply hne
    have : j = 18 := by omega
    subst this; decide
theorem rd_push {s : ByteArray} {k x part ten d : Nat} (h : RdOk s k x part ten) (hd : preV s (k + 1) = 10 * preV s k + d) (hd10 : d < 10) : RdOk s (k + 1) (x * (ten * 10) + (part * 10 + d)) 0 1 := by
  obtain ⟨q1, q2⟩ := rd_step h hd hd10
  exact ⟨by rw [Nat.mul_one, Nat.add_zero]; exact q1, by omega, 0, by omega, by rw [Nat.pow_zero]⟩
@[irreducible] def t19B (x : Nat) : Bool := decide (x = 10000000000000000000)
theorem t19_yes {x : Nat} (h : x = 10000000000000000000) : t19B x = true := by unfold t19B; exact decide_eq_true h
theorem t19_no {x : Nat} (h : x ≠ 10000000000000000000) : t19B x = false := by unfold t19B; exact decide_eq_false h
@[local go_sem] theorem eq_t19 (x : Nat) : ((x : Int) == 10000000000000000000) = t19B x := by
  unfold t19B; rw [Bool.eq_iff_iff, beq_iff_eq, decide_eq_true_iff]; omega
theorem pre_ge {s : ByteArray} (hd : Digits s) (h0 : 0 < s.size) (h1 : s[0].toNat ≠ 48) : ∀ k, k + 1 ≤ s.size → 10 ^ k ≤ preV s (k + 1) := by
  intro k
  induction k with
  | zero =>
    intro _
    rw [preV_succ s 0 h0, preV_zero]
    have := hd 0 h0; unfold isDig at this
    rw [Nat.pow_zero]; omega
  | succ k ih =>
    intro hk
    have := ih (by omega)
    rw [preV_succ s (k + 1) (by omega), Nat.pow_succ]; omega
@[irreducible] def E39 : Nat := 39457
@[irreducible] def E16 : Nat := 16384
theorem E39_eq : E39 = 39457 := by unfold E39; rfl
theorem E16_eq : E16 = 16384 := by unfold E16; rfl
theorem big_ten : (256 : Nat) ^ E16 ≤ 10 ^ E39 := by unfold E16 E39; decide +kernel
theorem not_fits_ten {n : Nat} (h : 10 ^ E39 ≤ n) : ¬ fits n := by
  unfold fits
  rw [← E16_eq, ← lt_pow_iff (by omega)]
  exact Nat.not_lt.2 (Nat.le_trans big_ten h)
theorem long_dec {s : ByteArray} (hd : Digits s) (h0 : 0 < s.size) (h1 : s[0].toNat ≠ 48) (hl : 39457 < s.size) : ¬ fits (preV s s.size) := by
  obtain ⟨m, hm⟩ : ∃ m, s.size = m + 1 := ⟨s.size - 1, by omega⟩
  have := pre_ge hd h0 h1 m (by omega)
  rw [hm]
  exact not_fits_ten (Nat.le_trans (Nat.pow_le_pow_right (by omega) (by rw [E39_eq]; omega)) this)
set_option maxRecDepth 100000 in
theorem NRead_empty (s : ByteArray) (w : World) (h : s.size = 0) :
    Calls Try.prog 55 #[.string s] w (StrPost ⟨#[]⟩ 22 w) := by
  have hE := toList_empty h
  have H := Lib.hid h
  clear h
  go_enter Try.func55, Try.ntmps55
  go_wp2
  go_ret2
  exact ⟨rfl, Below.refl _ _⟩
set_option maxRecDepth 100000 in
theorem NRead_nought (s : ByteArray) (w : World) (h : 1 < s.size) (h0 : s[0].toNat = 48) (hs : s.size ≤ 9223372036854775807) :
    Calls Try.prog 55 #[.string s] w (StrPost ⟨#[]⟩ 22 w) := by
  have hp : 0 < s.size := by omega
  have hE := toList_full hp
  have hE2 := toList_full2 hp
  have h48 : ((s[0].toNat : Int) == 48) = true := by rw [beq_iff_eq]; omega
  have hI : (1 : Int) < (s.size : Int) := by omega
  have H0 := Lib.hid h0
  clear h0
  go_enter Try.func55, Try.ntmps55
  go_wp2
  go_ret2
  exact ⟨rfl, Below.refl _ _⟩
/-- The first test, where it says no. -/
theorem head_no {s : ByteArray} (hp : 0 < s.size) (hn : ¬ (1 < s.size ∧ ∀ h : 0 < s.size, s[0].toNat = 48)) : ((s[0].toNat : Int) == 48) = false ∨ (((s[0].toNat : Int) == 48) = true ∧ ¬ (1 : Int) < (s.size : Int) ∧ ¬ 1 < s.size) := by
  by_cases h : s[0].toNat = 48
  · refine Or.inr ⟨by rw [beq_iff_eq]; omega, ?_, ?_⟩
    · intro c; exact hn ⟨by omega, fun _ => h⟩
    · intro c; exact hn ⟨c, fun _ => h⟩
  · exact Or.inl (by rw [beq_eq_false_iff_ne]; omega)
set_option maxRecDepth 100000 in
set_option maxHeartbeats 1000000 in
theorem NRead_bad (s : ByteArray) (w : World) (hs : s.size ≤ 9223372036854775807) (hp : 0 < s.size) (hn : ¬ (1 < s.size ∧ ∀ h : 0 < s.size, s[0].toNat = 48)) (hd : ¬ Digits s) :
    Calls Try.prog 55 #[.string s] w (StrPost ⟨#[]⟩ 22 w) := by
  have hE := toList_full hp
  have hE2 := toList_full2 hp
  have HD := Lib.hid hd
  have hh := head_no hp hn
  clear hn hd
  rcases hh with h1 | ⟨h1, h2, h3⟩
  all_goals
    go_enter Try.func55, Try.ntmps55
    go_wp2
    go_loop [23] (fun i => ∃ k : Nat, k ≤ s.size ∧ i = .int .i64 k ∧ Hid (∀ j (h : j < s.size), j < k → isDig s[j])) (fun i => s.size - (intOf i).toNat)
    case atStart => exact ⟨0, Nat.zero_le _, rfl, Lib.hid (fun j h hj => by omega)⟩
    case round =>
      obtain ⟨k, hk, rfl, hdg⟩ := hrel
      by_cases hlt : k < s.size
      · by_cases hdk : isDig s[k]
        · have hN : Hid (∀ j (h : j < s.size), j < k + 1 → isDig s[j]) := Lib.hid (fun j h hj => by
            rcases Nat.lt_or_ge j k with h4 | h4
            · exact hdg.out j h h4
            · obtain rfl : j = k := by omega
              exact hdk)
          unfold isDig at hdk
          have q1 : ¬ (s[k].toNat : Int) < 48 := by omega
          have q2 : ¬ (57 : Int) < (s[k].toNat : Int) := by omega
          clear hdk
          go_wp2
          go_round
          case rel => exact ⟨k + 1, by omega, by go_num, hN⟩
          case measure => simp [intOf]; omega
        · unfold isDig at hdk
          by_cases q1 : s[k].toNat < 48
          · have q2 : (s[k].toNat : Int) < 48 := by omega
            clear hdk
            go_wp2
            go_ret2
            exact ⟨rfl, Below.refl _ _⟩
          · have q2 : ¬ (s[k].toNat : Int) < 48 := by omega
            have q3 : (57 : Int) < (s[k].toNat : Int) := by omega
            clear hdk
            go_wp2
            go_ret2
            exact ⟨rfl, Below.refl _ _⟩
      · exact absurd (fun j h => hdg.out j h (by omega)) HD.out
theorem first_no {s : ByteArray} (hd : Digits s) (k : Nat) (h : k < s.size) : ¬ (s[k].toNat : Int) < 48 ∧ ¬ (57 : Int) < (s[k].toNat : Int) := by
  have := hd k h; unfold isDig at this; omega
theorem ndW_dec {n k : Nat} (h : n < 10 ^ k) : nd W n ≤ k := by
  refine nd_le W2 (Nat.lt_of_lt_of_le h (Nat.pow_le_pow_left ?_ k))
  rw [W_eq]; omega
/-- The walk over the digits, up to the second loop. -/
theorem dummy29 : True := trivial
set_option maxRecDepth 100000 in
set_option maxHeartbeats 4000000 in
theorem NRead_ok (s : ByteArray) (w : World) (hs : s.size ≤ 9223372036854775807) (hv : Valid s) (hlong : 39457 < s.size → ¬ fits (preV s s.size)) :
    Calls Try.prog 55 #[.string s] w (StrPost (resS (preV s s.size)) (resE (preV s s.size)) w) := by
  obtain ⟨hp, hd, hn⟩ := hv
  have hE := toList_full hp
  have hE2 := toList_full2 hp
  have HD := Lib.hid hd
  have hh := head_no hp hn
  have HL := Lib.hid hlong
  clear hn hd hlong
  rcases hh with h1 | ⟨h1, h2, h3⟩
  all_goals
    go_enter Try.func55, Try.ntmps55
    go_wp2
    go_loop [23] (fun i => ∃ k : Nat, k ≤ s.size ∧ i = .int .i64 k) (fun i => s.size - (intOf i).toNat)
    case atStart => exact ⟨0, Nat.zero_le _, rfl⟩
    case round =>
      obtain ⟨k, hk, rfl⟩ := hrel
      by_cases hlt : k < s.size
      · obtain ⟨q1, q2⟩ := first_no HD.out k hlt
        go_wp2
        go_round
        case rel => exact ⟨k + 1, by omega, by go_num⟩
        case measure => simp [intOf]; omega
      · obtain rfl : k = s.size := by omega
        by_cases hbig : 39457 < s.size
        · have hbI : (39457 : Int) < (s.size : Int) := by omega
          have e1 := Lib.hid (resS_no (HL.out hbig))
          have e2 := Lib.hid (resE_no (HL.out hbig))
          go_wp2
          go_ret2
          exact ⟨by rw [e1.out, e2.out]; rfl, Below.refl _ _⟩
        · have hbI : ¬ (39457 : Int) < (s.size : Int) := by omega
          have hsz : s.size ≤ 39457 := by omega
          have hszI : (s.size : Int) ≤ 39457 := by omega
          go_wp2
          go_loopw [5, 6, 7, 42] (fun x y z i wr => ∃ (k X part ten c : Nat) (A : Option Addr), k ≤ s.size ∧ i = .int .i64 k ∧ x = .slice A (nd W X) c ∧ y = .int .u64 part ∧ z = .int .u64 ten ∧ nd W X ≤ c ∧ Hid (Row wr wr.heap.size A X (nd W X)) ∧ Hid (RdOk s k X part ten) ∧ Hid (k = s.size → part = 0 ∧ ten = 1) ∧ Below w.heap.size w wr) (fun _ _ _ i _ => s.size - (intOf i).toNat)
          case atStart =>
            have e : nd W 0 = 0 := nd_zero _
            exact ⟨0, 0, 0, 1, 0, none, Nat.zero_le _, rfl, by rw [e], rfl, rfl, by rw [e]; exact Nat.le_refl _, by rw [e]; exact Lib.hid Row.none_, Lib.hid ⟨by rw [preV_zero], by omega, 0, by omega, by rw [Nat.pow_zero]⟩, Lib.hid (fun h => ⟨rfl, rfl⟩), Below.refl _ _⟩
          case round =>
            obtain ⟨k, X, part, ten, c, A, hk, rfl, rfl, rfl, rfl, hc, hrow, hrd, hlast, hb⟩ := hrel
            by_cases hlt : k < s.size
            · obtain ⟨d, hdd⟩ : ∃ d, d = s[k].toNat - 48 := ⟨_, rfl⟩
              have hdig := HD.out k hlt
              unfold isDig at hdig
              have hd10 : d < 10 := by omega
              have hpre := preV_succ s k hlt
              rw [← hdd] at hpre
              obtain ⟨ht, hpt⟩ := rd_lt hrd.out
              obtain ⟨t10, ht10⟩ : ∃ t10, t10 = ten * 10 := ⟨_, rfl⟩
              obtain ⟨p10, hp10⟩ : ∃ p10, p10 = part * 10 := ⟨_, rfl⟩
              obtain ⟨p', hp'⟩ : ∃ p', p' = p10 + d := ⟨_, rfl⟩
              have w1 : IntKind.u64.wrap ((part : Int) * 10) = (p10 : Int) := by rw [IntKind.wrap_u64]; omega
              have w2 : IntKind.u8.wrap ((s[k].toNat : Int) - 48) = (d : Int) := by rw [show (s[k].toNat : Int) - 48 = ((d : Nat) : Int) by omega, wrap_u8]; omega
              have w3 : IntKind.u64.wrap (d : Int) = (d : Int) := by rw [IntKind.wrap_u64]; omega
              have w4 : IntKind.u64.wrap ((p10 : Int) + (d : Int)) = (p' : Int) := by rw [IntKind.wrap_u64]; omega
              have w5 : IntKind.u64.wrap ((ten : Int) * 10) = (t10 : Int) := by rw [IntKind.wrap_u64]; omega
              have hXw : nd W X ≤ 39457 := by
                have h5 := dig_pre HD.out k hk
                have h6 : X < 10 ^ k := by
                  refine Nat.lt_of_le_of_lt ?_ h5
                  rw [hrd.out.1]
                  obtain ⟨_, hlt1, j, hj, rfl⟩ := hrd.out
                  have := Nat.mul_le_mul_left X (Nat.pow_pos (n := j) (show 0 < 10 by omega))
                  omega
                have := ndW_dec h6; omega
              have hstep := rd_push hrd.out hpre hd10
              rw [← ht10, show part * 10 + d = p' by omega] at hstep
              have hkeep := fun h => rd_keep hrd.out hpre hd10 h
              rw [← ht10, show part * 10 + d = p' by omega] at hkeep
              have HST := Lib.hid hstep
              have HKP := Lib.hid hkeep
              have l1 := Lib.hid (show t10 < 18446744073709551616 by omega)
              have l2 := Lib.hid (show p' < 18446744073709551616 by omega)
              have HW := Lib.hid hXw
              clear hdd hdig hpre ht hpt ht10 hp10 hp' hXw hstep hkeep
              have hcs : (t19B t10 = true ∨ (t19B t10 = false ∧ k + 1 = s.size)) ∨ (t10 ≠ 10000000000000000000 ∧ k + 1 ≠ s.size) := by
                by_cases g1 : t10 = 10000000000000000000
                · exact Or.inl (Or.inl (t19_yes g1))
                · by_cases g2 : k + 1 = s.size
                  · exact Or.inl (Or.inr ⟨t19_no g1, g2⟩)
                  · exact Or.inr ⟨g1, g2⟩
              rcases hcs with g | ⟨g1, g2⟩
              · rcases g with g | ⟨g, g2⟩
                case' inr =>
                  have hl : ((k : Int) == (s.size : Int) - 1) = true := by rw [beq_iff_eq]; omega
                  have G2 := Lib.hid g2
                  clear g2
                all_goals
                  go_wp2_with (go_at_call 88; refine (Put_c _ _ _ _ _ _ _ l1.out l2.out (by have := HW.out; omega) hrow.out (Nat.le_refl _)).mono ?_; intro e w3 hpp; obtain ⟨A3, c3, rfl, hc3, hr3, hb3⟩ := hpp.get; have HR3 := Lib.hid hr3; clear hr3 hpp)
                  have hbb := hb.trans (hb3.mono hb.size)
                  go_roundw
                  case rel => exact ⟨k + 1, _, 0, 1, c3, A3, by omega, by go_num, rfl, rfl, rfl, hc3, HR3, HST, Lib.hid (fun _ => ⟨rfl, rfl⟩), hbb⟩
                  case measure => simp [intOf]; omega
              · have hl : ((k : Int) == (s.size : Int) - 1) = false := by rw [beq_eq_false_iff_ne]; omega
                have hB := t19_no g1
                have G1 := Lib.hid g1
                have G2 := Lib.hid g2
                clear g1 g2
                go_wp2
                go_roundw
                case rel => exact ⟨k + 1, X, p', t10, c, A, by omega, by go_num, rfl, rfl, rfl, hc, hrow, Lib.hid (HKP.out G1.out), Lib.hid (fun h => absurd h G2.out), hb⟩
                case measure => simp [intOf]; omega
            · obtain rfl : k = s.size := by omega
              obtain ⟨rfl, rfl⟩ := hlast.out rfl
              have hX : X = preV s s.size := by have := hrd.out.1; rw [Nat.mul_one, Nat.add_zero] at this; exact this.symm
              have hXw : nd W X ≤ 39457 := by rw [hX]; exact Nat.le_trans (ndW_dec (dig_pre HD.out s.size (Nat.le_refl _))) hsz
              have HX := Lib.hid hX
              have HW := Lib.hid hXw
              clear hX hXw
              go_wp2_with (go_at_call 66; refine (made_c _ _ _ _ _ (by have := HW.out; omega) hrow.out (Nat.le_refl _)).mono ?_; rintro e w' ⟨rfl, hb'⟩)
              go_ret2
              exact ⟨by rw [← HX.out]; rfl, hb.trans (hb'.mono hb.size)⟩
end Go.Proofs.Ytjcicbnjoffbhaa
