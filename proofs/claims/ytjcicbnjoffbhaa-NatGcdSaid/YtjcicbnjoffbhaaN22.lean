/- Contracts of package nat: Text. -/
import Derived.Test.YtjcicbnjoffbhaaN21
set_option linter.unusedSimpArgs false
set_option linter.unusedVariables false
namespace Go.Proofs.Ytjcicbnjoffbhaa
open Go Go.RowKit Nt

@[irreducible] def T19 : Nat := 10000000000000000000
theorem T19_eq : T19 = 10000000000000000000 := by unfold T19; rfl
theorem T19_pow : T19 = 10 ^ 19 := by rw [T19_eq]
/-- The decimal digits, the lowest first, as bytes. -/
def digs (n L : Nat) : List Nat := (dl 10 n L).map (48 + ·)
theorem digs_zero (n : Nat) : digs n 0 = [] := rfl
theorem digs_succ (n L : Nat) : digs n (L + 1) = digs n L ++ [48 + dgt 10 n L] := by unfold digs; rw [dl_succ, List.map_append]; rfl
theorem digs_length (n L : Nat) : (digs n L).length = L := by unfold digs; rw [List.length_map, dl_length]
theorem digs_get (n L j : Nat) (h : j < (digs n L).length) : (digs n L)[j] = 48 + dgt 10 n j := by
  have hj : j < L := by rwa [digs_length] at h
  have e : (digs n L)[j]? = some (48 + dgt 10 n j) := by unfold digs; rw [List.getElem?_map, dl_get? _ _ _ _ hj]; rfl
  rw [List.getElem?_eq_getElem h] at e
  exact Option.some.inj e
/-- The decimal text. -/
@[irreducible] def decS (n : Nat) : ByteArray := if n = 0 then ⟨#[48]⟩ else ⟨((digs n (nd 10 n)).reverse.map UInt8.ofNat).toArray⟩
theorem decS_zero : decS 0 = ⟨#[48]⟩ := by unfold decS; rw [if_pos rfl]
theorem decS_pos {n : Nat} (h : n ≠ 0) : decS n = ⟨((digs n (nd 10 n)).reverse.map UInt8.ofNat).toArray⟩ := by unfold decS; rw [if_neg h]
/-- What is left of a chunk. -/
@[irreducible] def lowV (n L i : Nat) : Nat := n / 10 ^ (L + i) % 10 ^ (19 - i)
theorem lowV_def (n L i : Nat) : lowV n L i = n / 10 ^ (L + i) % 10 ^ (19 - i) := by unfold lowV; rfl
theorem lowV_lt (n L i : Nat) : lowV n L i < 10000000000000000000 := by
  rw [lowV_def]
  refine Nat.lt_of_lt_of_le (Nat.mod_lt _ (Nat.pow_pos (by omega))) ?_
  have : (10 : Nat) ^ (19 - i) ≤ 10 ^ 19 := Nat.pow_le_pow_right (by omega) (by omega)
  exact Nat.le_trans this (by decide)
theorem low_start (n L : Nat) : n / 10 ^ L % T19 = lowV n L 0 := by rw [lowV_def, T19_pow]; rfl
theorem low_digit (n L i : Nat) (hi : i < 19) : lowV n L i % 10 = dgt 10 n (L + i) := by
  obtain ⟨k, hk⟩ : ∃ k, 19 - i = k + 1 := ⟨18 - i, by omega⟩
  rw [lowV_def, hk, dgt_def, Nat.pow_succ, Nat.mul_comm, Nat.mod_mul_right_mod]
theorem low_next (n L i : Nat) (hi : i < 19) : lowV n L i / 10 = lowV n L (i + 1) := by
  obtain ⟨k, hk⟩ : ∃ k, 19 - i = k + 1 := ⟨18 - i, by omega⟩
  rw [lowV_def, lowV_def, hk, show 19 - (i + 1) = k by omega, show L + (i + 1) = L + i + 1 by omega, Nat.pow_succ 10 (L + i), ← Nat.div_div_eq_div_mul, Nat.pow_succ, Nat.mul_comm, Nat.mod_mul_right_div_self]
theorem low_whole (n L i : Nat) (hi : i ≤ 19) : n / 10 ^ (L + i) = lowV n L i + 10 ^ (19 - i) * (n / 10 ^ (L + 19)) := by
  rw [lowV_def, show L + 19 = (L + i) + (19 - i) by omega, Nat.pow_add 10 (L + i), ← Nat.div_div_eq_div_mul]
  exact (Nat.mod_add_div _ _).symm
theorem low_done {n L i : Nat} (hi : i ≤ 19) (h1 : n / 10 ^ (L + 19) = 0) (h2 : lowV n L i = 0) : n / 10 ^ (L + i) = 0 := by rw [low_whole n L i hi, h1, h2]; simp
theorem low_more {n L i : Nat} (hi : i ≤ 19) (h : n / 10 ^ (L + 19) ≠ 0 ∨ lowV n L i ≠ 0) : L + i < nd 10 n := by
  refine (pow_le_iff (by omega) _ _).1 ?_
  have h3 : n / 10 ^ (L + i) ≠ 0 := by
    rw [low_whole n L i hi]
    rcases h with h | h
    · have := Nat.mul_pos (Nat.pow_pos (n := 19 - i) (show 0 < 10 by omega)) (Nat.pos_of_ne_zero h); omega
    · omega
  rcases Nat.lt_or_ge n (10 ^ (L + i)) with h4 | h4
  · exact absurd (Nat.div_eq_of_lt h4) h3
  · exact h4
set_option maxRecDepth 100000 in
theorem NText_no (s : ByteArray) (w : World) (h : ¬ May s) :
    Calls Try.prog 53 #[.string s] w (StrPost ⟨#[]⟩ 2 w) := by
  have hm := may1_no h
  go_enter Try.func53, Try.ntmps53
  go_wp2_with (go_at_call 21; refine (Check_c _ _).mono ?_; rintro e w1 ⟨rfl, hb⟩)
  go_ret2
  exact ⟨rfl, hb⟩
set_option maxRecDepth 100000 in
theorem NText_zero (w : World) :
    Calls Try.prog 53 #[.string (natS 0)] w (StrPost (decS 0) 0 w) := by
  have hf : fits 0 := by unfold fits; rw [nd_zero]; omega
  have hm := may1 hf
  have hE := natS_empty (n := 0) rfl
  have HD := Lib.hid decS_zero
  go_enter Try.func53, Try.ntmps53
  go_wp2_with (go_at_call 21; refine (Check_c _ _).mono ?_; rintro e w1 ⟨rfl, hb⟩)
  go_ret2
  exact ⟨by rw [HD.out]; rfl, hb⟩
set_option maxRecDepth 100000 in
set_option maxHeartbeats 2000000 in
theorem NText_c (n : Nat) (w : World) (hf : fits n) (h0 : n ≠ 0) :
    Calls Try.prog 53 #[.string (natS n)] w (StrPost (decS n) 0 w) := by
  obtain ⟨i0, hi0, hz0, hj1, hj2⟩ := info_parts (P := Try.prog) (e := 5) (z := .int .u8 0) (size := 1) (bytes := 1) (by kernel_rfl)
  have hm := may1 hf
  have hF := natS_full h0
  have hF2 := natS_full2 h0
  have HD := Lib.hid (decS_pos h0)
  have hwn := fits_words hf
  have HWN := Lib.hid hwn
  have HND : Hid (nd 10 n ≤ 16384 * 8) := Lib.hid (by
    have h1 : nd 2 n ≤ 8 * 16384 := (bits_le n 16384).2 hf
    have h2 : n < 10 ^ nd 2 n := Nat.lt_of_lt_of_le (lt_nd (b := 2) (by omega)) (Nat.pow_le_pow_left (by omega) _)
    have := nd_le (b := 10) (by omega) h2
    omega)
  clear hwn
  go_enter Try.func53, Try.ntmps53
  go_wp2_with (first
    | (go_at_call 21; refine (Check_c _ _).mono ?_; rintro e w1 ⟨rfl, hb⟩)
    | (go_at_call 68; refine (words_c n _ hf).mono ?_; intro e w2 hp; obtain ⟨A1, c1, rfl, hc1, hr1, hb2⟩ := hp.get; have HR1 := Lib.hid hr1; clear hr1 hp))
  have hb12 := hb.trans (hb2.mono hb.size)
  clear hm hF hF2
  go_loopg [5, 6] n (fun G x y wr => ∃ (m L c : Nat) (A : Option Addr), y = .slice A (nd W m) c ∧ nd W m ≤ c ∧ Hid (Row wr wr.heap.size A m (nd W m)) ∧ Hid (Own wr w.heap.size 5 .u8 x (digs n L)) ∧ Hid (m = n / 10 ^ L) ∧ Hid (L ≤ nd 10 n) ∧ m ≤ G ∧ Below w.heap.size w wr)
  case atStart => exact ⟨n, 0, c1, A1, rfl, hc1, HR1, Lib.hid (Own.nil _ _ _ _), Lib.hid (by rw [Nat.pow_zero, Nat.div_one]), Lib.hid (Nat.zero_le _), Nat.le_refl _, hb12⟩
  case round =>
    obtain ⟨m, L, c, A, rfl, hc, hrow, hown, hm, hL, hG, hbw⟩ := hrel
    by_cases hm0 : m = 0
    · subst hm0
      have e0 : nd W 0 = 0 := nd_zero _
      rw [e0]
      have hLn : L = nd 10 n := by
        have h1 : n < 10 ^ L := by
          rcases Nat.lt_or_ge n (10 ^ L) with h | h
          · exact h
          · have := Nat.div_pos h (Nat.pow_pos (n := L) (show 0 < 10 by omega)); have := hm.out; omega
        have := nd_le (b := 10) (by omega) h1
        have := hL.out; omega
      have hown2 := hown.out
      rw [hLn] at hown2
      have hlen := digs_length n (nd 10 n)
      rcases hown2.form with ⟨rfl, hnil⟩ | ⟨g, cap, cs, rfl, hgB, hgw, hblk, hcap, hcap2, hcs⟩
      · exfalso
        rw [hnil] at hlen
        exact h0 ((nd_eq_zero (b := 10) (by omega)).1 hlen.symm)
      · rw [hlen]
        have hcs' : ∀ j, j < nd 10 n → cs[j]? = some (.int .u8 ((48 + dgt 10 n j : Nat) : Int)) := fun j hj => by
          have h1 : j < (digs n (nd 10 n)).length := by rw [hlen]; exact hj
          rw [hcs j h1, digs_get n (nd 10 n) j h1]
        have hrev := Reverse_c g (nd 10 n) cap 5 cs (fun j => 48 + dgt 10 n j) wr (by have := HND.out; omega) hblk hcs'
        have HREV := Lib.hid hrev
        have HBW := Lib.hid hbw
        have HGB := Lib.hid hgB
        clear hrev hcs' hcs hblk hbw hgB hlen hown2 hrow hown hm hL hG hc hLn hcap2 hgw
        have hn64 : nd 10 n ≤ 131072 := by have := HND.out; omega
        go_wp2_with fail
        refine HREV.out.mono ?_
        rintro e w' ⟨rfl, cs2, hb2', hc2', hbw2⟩
        have hcv : (convert 75 9 (.slice (some ⟨g, 0, none⟩) (nd 10 n) cap)).run Try.prog w' = .ok (.string (decS n)) w' := by
          rw [HD.out]
          have hl : ((digs n (nd 10 n)).reverse.map UInt8.ofNat).length = nd 10 n := by rw [List.length_map, List.length_reverse, digs_length]
          have h := run_convert_bytes_back (P := Try.prog) w' 75 9 5 ⟨g, 0, none⟩ cap ((digs n (nd 10 n)).reverse.map UInt8.ofNat) Try.underlying75 Try.underlying5 Try.underlying9 (fun j hj => by
            have hj' : j < nd 10 n := by rw [← hl]; exact hj
            rw [add_plain0, hb2'.cell, hc2' j hj', List.getElem_map, List.getElem_reverse, digs_get, digs_length, UInt8.toNat_ofNat', Nat.mod_eq_of_lt]
            have := dgt_lt (b := 10) (by omega) n (nd 10 n - 1 - j); omega)
          rw [hl] at h
          exact h
        have HBL := Lib.hid hbw2
        clear hb2' hc2' hbw2
        go_wp2
        go_ret2
        exact ⟨rfl, HBW.out.trans (HBL.out.mono HGB.out)⟩
    · have hmn : 0 < nd W m := by
        rcases Nat.eq_zero_or_pos (nd W m) with h | h
        · exact absurd ((nd_eq_zero W2).1 h) hm0
        · exact h
      have hmw : nd W m ≤ 2048 := Nat.le_trans (nd_mono W2 (by rw [hm.out]; exact Nat.div_le_self _ _)) HWN.out
      have htk := Take_c A c m T19 wr.heap.size wr (by rw [T19_eq]; omega) (by rw [T19_eq]; omega) (by omega) hrow.out (Nat.le_refl _)
      have hm19 : m / T19 = n / 10 ^ (L + 19) := by rw [hm.out, T19_pow, Nat.div_div_eq_div_mul, ← Nat.pow_add]
      have hl19 : m % T19 = lowV n L 0 := by rw [hm.out, low_start]
      rw [hm19, hl19, show ((T19 : Nat) : Int) = 10000000000000000000 by rw [T19_eq]; rfl] at htk
      have hmlt : n / 10 ^ (L + 19) < m := by
        rw [← hm19]; exact Nat.div_lt_self (by omega) (by rw [T19_eq]; omega)
      obtain ⟨m', hm'⟩ : ∃ m', m' = n / 10 ^ (L + 19) := ⟨_, rfl⟩
      rw [← hm'] at htk hmlt
      have HTK := Lib.hid htk
      have HM' := Lib.hid hm'
      have HG := Lib.hid hG
      have HLT := Lib.hid hmlt
      have hmI : (0 : Int) < (nd W m : Int) := by omega
      have hw0 : nd W m' ≤ 2048 := Nat.le_trans (nd_mono W2 (by rw [hm']; exact Nat.div_le_self _ _)) HWN.out
      clear htk hm19 hl19 hm' hG hmlt
      go_wp2_with (go_at_call 86; refine HTK.out.mono ?_; rintro e w3 ⟨A3, c3, rfl, hA3, hs3, hc3, hr3, hb3⟩; have HA3 := Lib.hid hA3; clear hA3)
      have HDJ : Hid (∀ g, A3 = some ⟨g, 0, none⟩ → Value.ownBlock _ ≠ some g ∧ g < w3.heap.size) := Lib.hid (fun g e => by
        have hA3 := HA3.out
        rw [hA3] at e
        have h2 : wr.heap.size = g := congrArg Addr.block (Option.some.inj e)
        refine ⟨fun c => ?_, by omega⟩
        have h1 := (hown.out.lt g c).2
        omega)
      have HR3 := Lib.hid hr3
      have HOW : Hid (Own w3 w.heap.size 5 .u8 _ (digs n L)) := Lib.hid (hown.out.whole hb3)
      have hbw3 := hbw.trans (hb3.mono hbw.size)
      clear hr3 hrow hown hb3 hs3
      obtain ⟨wo, rfl⟩ : ∃ wo : World, wo = w3 := ⟨_, rfl⟩
      go_loopw [5, 7, 8] (fun x y z wr => ∃ (i : Nat), i ≤ 19 ∧ z = .int .i64 i ∧ y = .int .u64 (lowV n L i : Nat) ∧ Hid (Own wr w.heap.size 5 .u8 x (digs n (L + i))) ∧ Hid (L + i ≤ nd 10 n) ∧ Hid (Row wr wr.heap.size A3 m' (nd W m')) ∧ Hid (∀ g, A3 = some ⟨g, 0, none⟩ → x.ownBlock ≠ some g ∧ g < wr.heap.size) ∧ Below w.heap.size w wr) (fun _ _ z _ => 19 - (intOf z).toNat)
      case atStart => exact ⟨0, by omega, rfl, rfl, HOW, hL, HR3, HDJ, hbw3⟩
      case round =>
        obtain ⟨i, hi, rfl, rfl, hown4, hL4, hr4, hdj4, hb4⟩ := hrel
        have hcase : (i = 19 ∨ (i < 19 ∧ m' = 0 ∧ lowV n L i = 0)) ∨ (i < 19 ∧ (m' ≠ 0 ∨ (m' = 0 ∧ lowV n L i ≠ 0))) := by omega
        rcases hcase with hex | ⟨hi19, hgo⟩
        · have HLi : Hid (m' = n / 10 ^ (L + i)) := Lib.hid (by
            rcases hex with h | ⟨h1, h2, h3⟩
            · rw [HM'.out, h]
            · rw [h2, low_done hi (HM'.out ▸ h2) h3])
          rcases hex with h | ⟨h1, h2, h3⟩
          case' inl => subst h
          case' inr =>
            have hz1 : ¬ 0 < nd W m' := by rw [h2, nd_zero]; omega
            have hz2 : ¬ (0 : Int) < (nd W m' : Int) := by omega
            have hz3 : ¬ (0 : Int) < (lowV n L i : Int) := by omega
            have hz4 : ¬ 0 < lowV n L i := by omega
            have Hh2 := Lib.hid h2
            have Hh3 := Lib.hid h3
            clear h2 h3
          all_goals
            go_wp2
            go_roundg m'
            case rel => exact ⟨m', _, c3, A3, rfl, hc3, hr4, hown4, HLi, hL4, Nat.le_refl _, hb4⟩
            case measure => have := HLT.out; have := HG.out; omega
        · have hlow := low_digit n L i hi19
          have hnx := low_next n L i hi19
          have hmore := low_more (n := n) (L := L) (i := i) (by omega) (by rw [← HM'.out]; omega)
          obtain ⟨d, hd⟩ : ∃ d, d = dgt 10 n (L + i) := ⟨_, rfl⟩
          have hd10 : d < 10 := by rw [hd]; exact dgt_lt (by omega) _ _
          rw [← hd] at hlow
          have e1 : IntKind.u8.wrap ((lowV n L i : Int) % 10) = (d : Int) := by rw [show (lowV n L i : Int) % 10 = ((d : Nat) : Int) by omega, wrap_u8]; omega
          obtain ⟨y, hy⟩ : ∃ y, y = 48 + d := ⟨_, rfl⟩
          have e2 : IntKind.u8.wrap (48 + (d : Int)) = (y : Int) := by rw [show (48 : Int) + (d : Int) = ((y : Nat) : Int) by omega, wrap_u8]; omega
          have e3 : (lowV n L i : Int) / 10 = ((lowV n L (i + 1) : Nat) : Int) := by omega
          have e4 : IntKind.u64.wrap ((lowV n L (i + 1) : Nat) : Int) = ((lowV n L (i + 1) : Nat) : Int) := by have := lowV_lt n L (i + 1); rw [IntKind.wrap_u64]; omega
          have HDD := Lib.hid (show digs n (L + (i + 1)) = digs n (L + i) ++ [y] by rw [show L + (i + 1) = L + i + 1 by omega, digs_succ, hy, hd])
          have HMM := Lib.hid hmore
          have hi19I : (i : Int) < 19 := by omega
          have hd10I : (d : Int) < 10 := by omega
          clear hlow hnx hmore hd hy
          rcases hgo with h | ⟨h1, h2⟩
          case' inl =>
            have hz1 : 0 < nd W m' := by
              rcases Nat.eq_zero_or_pos (nd W m') with h' | h'
              · exact absurd ((nd_eq_zero W2).1 h') h
              · exact h'
            have hz2 : (0 : Int) < (nd W m' : Int) := by omega
          case' inr =>
            have hz1 : ¬ 0 < nd W m' := by rw [h1, nd_zero]; omega
            have hz2 : ¬ (0 : Int) < (nd W m' : Int) := by omega
            have hz3 : (0 : Int) < (lowV n L i : Int) := by omega
            have hz4 : 0 < lowV n L i := by omega
            have Hh1 := Lib.hid h1
            clear h1 h2
          all_goals
            have hlen : (digs n (L + i)).length + 1 ≤ 17592186044416 := by rw [digs_length]; have := HND.out; have := hL4.out; omega
            have HLEN := Lib.hid hlen
            clear hlen
            go_wp2_with (at_builtin; go_loud (refine wpList_app1 wr rfl (.tmp 39) (.tmp 44) _ rfl w.heap.size 5 5 i0 .u8 1 Try.underlying75 hi0 hz0 hj1 hj2 (by omega) _ (digs n (L + i)) y rfl rfl hown4.out HLEN.out hb4.size ?_); intro v5 w5 hown5 hb5 hfr5 hnw5)
            rw [← HDD.out] at hown5
            have HO5 := Lib.hid hown5
            have HR5 : Hid (Row w5 w5.heap.size A3 m' (nd W m')) := Lib.hid (hr4.out.frm hfr5 (fun g e => (hdj4.out g e).1) hb5.size)
            have HD5 : Hid (∀ g, A3 = some ⟨g, 0, none⟩ → v5.ownBlock ≠ some g ∧ g < w5.heap.size) := Lib.hid (fun g e => by
              have h0 := hdj4.out g e
              refine ⟨fun c => ?_, Nat.lt_of_lt_of_le h0.2 hb5.size⟩
              rcases hnw5 g c with h | h
              · exact h0.1 h
              · omega)
            clear hown5 hfr5 hnw5
            go_roundw
            case rel => exact ⟨i + 1, by omega, by go_num, rfl, HO5, HMM, HR5, HD5, hb4.trans hb5⟩
            case measure => simp [intOf]; omega
end Go.Proofs.Ytjcicbnjoffbhaa
