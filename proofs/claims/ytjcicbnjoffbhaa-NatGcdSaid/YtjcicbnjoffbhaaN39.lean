/- Contracts: made, Small of the document. -/
import Derived.Test.YtjcicbnjoffbhaaN38
set_option linter.unusedSimpArgs false
set_option linter.unusedVariables false
namespace Go.Proofs.Ytjcicbnjoffbhaa
open Go Go.RowKit Nt

def madeF (n Z i j : Nat) : Nat := if n - i ≤ j then dgt 256 Z (n - 1 - j) else 0
theorem madeF_step {n Z i x j : Nat} (h : n = i + 1 + x) (hj : j < n) : (if j = x then dgt 256 Z i else madeF n Z i j) = madeF n Z (i + 1) j := by
  unfold madeF
  by_cases h1 : j = x
  · rw [if_pos h1, if_pos (by omega), show n - 1 - j = i by omega]
  · rw [if_neg h1]
    by_cases h2 : n - i ≤ j
    · rw [if_pos h2, if_pos (by omega)]
    · rw [if_neg h2, if_neg (by omega)]
theorem digit_of {l : List Nat} (hl : ∀ x ∈ l, x < 256) {j : Nat} (h : j < l.length) : dgt 256 (of 256 l) j = l[j] := dgt_of (by omega) l hl j h
set_option maxRecDepth 100000 in
set_option maxHeartbeats 1000000 in
theorem rMade_c (B : Nat) (v : Value) (l : List Nat) (w : World) (hl : ∀ x ∈ l, x < 256) (hn : l.length ≤ 1000000000) (hown : Own w B 3 .i64 v l) :
    Calls Try.prog 61 #[v] w fun e w' => e = .returned (.string (natS (of 256 l))) ∧ Below w.heap.size w w' := by
  obtain ⟨i0, hi0, hz0, hz1, hz2⟩ := info_parts (P := Try.prog) (e := 5) (z := .int .u8 0) (size := 1) (bytes := 1) (by kernel_rfl)
  obtain ⟨A, c, rfl, hc⟩ := hown.len
  obtain ⟨Z, hZ⟩ : ∃ Z, Z = of 256 l := ⟨_, rfl⟩
  obtain ⟨L, hL⟩ : ∃ L, L = l.length := ⟨_, rfl⟩
  have hdl := of_lt (b := 256) (by omega) l hl
  have hcell : ∀ j, j < L → ∃ ga, A = some ⟨ga, 0, none⟩ ∧ ga < w.heap.size ∧ w.cell? ⟨ga, j, none⟩ = some (.int .i64 (dgt 256 Z j : Nat)) := fun j hj => by
    obtain ⟨g, cap, e, _, hg, hcl, _⟩ := hown.cell (by rw [← hL]; exact hj)
    cases e
    exact ⟨g, rfl, hg, by rw [hcl, hZ, digit_of hl]⟩
  rw [← hZ] at hdl ⊢
  rw [← hL] at hn hc hdl ⊢
  have hnd : nd 256 Z ≤ L := nd_le (by omega) hdl
  have HC := Lib.hid hcell
  clear hcell hZ hL hown hl hdl hc
  go_enter Try.func61, Try.ntmps61
  go_wp2
  go_loopw [3] (fun i wr => ∃ k : Nat, k ≤ L ∧ i = .int .i64 k ∧ Hid (nd 256 Z ≤ k) ∧ w = wr) (fun i _ => (intOf i).toNat)
  case atStart => exact ⟨L, Nat.le_refl _, rfl, Lib.hid hnd, rfl⟩
  case round =>
    obtain ⟨k, hk, rfl, hle, rfl⟩ := hrel
    by_cases hstop : nd 256 Z = k
    · have HS := Lib.hid hstop
      clear hstop hle
      have hcond : k = 0 ∨ ∃ m ga, k = m + 1 ∧ A = some ⟨ga, 0, none⟩ ∧ w.cell? ⟨ga, k - 1, none⟩ = some (.int .i64 (dgt 256 Z m : Nat)) ∧ dgt 256 Z m ≠ 0 := by
        rcases Nat.eq_zero_or_pos k with h | h
        · exact Or.inl h
        · obtain ⟨m, rfl⟩ : ∃ m, k = m + 1 := ⟨k - 1, by omega⟩
          obtain ⟨ga, h1, _, h2⟩ := HC.out m (by omega)
          have h3 := dgt_top (b := 256) (n := Z) (by omega) (fun c => by have := HS.out; rw [c, nd_zero] at this; omega)
          rw [HS.out, Nat.add_sub_cancel] at h3
          exact Or.inr ⟨m, ga, rfl, h1, h2, h3⟩
      rcases hcond with h0 | ⟨m, ga, hm, rfl, hcl, hnz⟩
      case' inr =>
        have hz1' : ((dgt 256 Z m : Nat) : Int) ≠ 0 := by omega
        have hz2' : (((dgt 256 Z m : Nat) : Int) == 0) = false := by rw [beq_eq_false_iff_ne]; exact hz1'
        have hw : wrap64 ((k : Int) - 1) = (m : Int) := by rw [IntWalk.wrap64_in _ (by omega)]; omega
        have hk0 : (0 : Int) < (k : Int) := by omega
        have HM := Lib.hid hm
        clear hm
      case' inl =>
        have hk0 : ¬ (0 : Int) < (k : Int) := by omega
        have HM := Lib.hid h0
        clear h0
      all_goals
        go_wp2_with (at_make; go_loud (refine wpList_make_zero _ rfl _ _ _ rfl 5 i0 _ Try.underlying75 hi0 hz0 hz1 .i64 .i64 _ _ k rfl rfl rfl rfl (by rw [hz2]; omega) (by unfold maxLen; omega) ?_))
        rw [fcells_made]
        have HB0 := Lib.hid (Blk.new w 5 (fcells .u8 (fun _ => 0) k))
        have hbl : Below w.heap.size w (w.alloc (.cells (fcells .u8 (fun _ => 0) k) 5)) := (Below.refl _ _).alloc (Nat.le_refl _) _
        generalize w.alloc (.cells (fcells .u8 (fun _ => 0) k) 5) = w1 at *
        obtain ⟨g, hg⟩ : ∃ g, g = w.heap.size := ⟨_, rfl⟩
        rw [← hg] at HB0 hbl ⊢
        have HG := Lib.hid hg
        clear hg
        go_loopw [5] (fun i wr => ∃ q : Nat, q ≤ k ∧ i = .int .i64 q ∧ Hid (Blk wr g 5 (fcells .u8 (madeF k Z q) k)) ∧ Below g w wr) (fun i _ => k - (intOf i).toNat)
        case atStart => exact ⟨0, Nat.zero_le _, rfl, by rw [fcells_congr (f' := fun _ => 0) (fun j hj => by unfold madeF; rw [if_neg (by omega)])]; exact HB0, hbl⟩
        case round =>
          obtain ⟨q, hq, rfl, hblk, hb⟩ := hrel
          by_cases hlt : q < k
          · try exact absurd hlt (by have := HM.out; omega)
            all_goals
              obtain ⟨x, hx⟩ : ∃ x, k = q + 1 + x := ⟨k - q - 1, by omega⟩
              obtain ⟨gb, hA, hgb, hcb⟩ := HC.out q (by omega)
              have hcb2 := (hb.cell (p := ⟨gb, q, none⟩) (by have := HG.out; show gb < g; omega)).trans hcb
              cases hA
              have hfz := hblk.out.frozen x
              have hck := hblk.out.cell x
              rw [fcells_get _ _ _ _ (by omega)] at hck
              have hxI : (k : Int) - 1 - (q : Int) = (x : Int) := by omega
              have hd := dgt_lt (b := 256) (by omega) Z q
              have hwr : IntKind.u8.wrap ((dgt 256 Z q : Nat) : Int) = ((dgt 256 Z q : Nat) : Int) := by rw [wrap_u8, Nat.mod_eq_of_lt hd]
              have HX := Lib.hid hx
              clear hx hcb
              go_wp2
              have HB1 := Lib.hid (hblk.out.set_ x (.int .u8 ((dgt 256 Z q : Nat) : Int)))
              rw [fcells_set, fcells_congr (f' := madeF k Z (q + 1)) (fun j hj => madeF_step HX.out hj)] at HB1
              have hb1 := hb.setCell (p := ⟨g, x, none⟩) (Nat.le_refl _) (.int .u8 ((dgt 256 Z q : Nat) : Int))
              go_roundw
              case rel => exact ⟨q + 1, by omega, by go_num, HB1, hb1⟩
              case measure => simp [intOf]; omega
          · obtain rfl : q = k := by omega
            have hcv : (convert 75 9 (.slice (some ⟨g, 0, none⟩) q q)).run Try.prog wr = .ok (.string (natS Z)) wr := by
              have hN := HS.out
              have hl : ((dl 256 Z (nd 256 Z)).reverse.map UInt8.ofNat).length = q := by simp [dl_length, hN]
              have h := run_convert_bytes_back (P := Try.prog) wr 75 9 5 ⟨g, 0, none⟩ q ((dl 256 Z (nd 256 Z)).reverse.map UInt8.ofNat) Try.underlying75 Try.underlying5 Try.underlying9 (fun j hj => by
                have hj2 : j < q := by rw [← hl]; exact hj
                rw [add_plain0, hblk.out.cell, fcells_get _ _ _ _ hj2]
                have e := natS_get Z j (by rw [natS_size, hN]; exact hj2)
                rw [ba_get] at e
                simp only [natS_def] at e
                rw [List.getElem_toArray] at e
                rw [e]
                unfold madeF
                rw [if_pos (by omega), hN])
              rw [hl, ← natS_def] at h
              exact h
            go_wp2
            go_ret
            exact ⟨rfl, by rw [← HG.out]; exact hb⟩
    · obtain ⟨m, rfl⟩ : ∃ m, k = m + 1 := ⟨k - 1, by have := hle.out; omega⟩
      obtain ⟨ga, rfl, hga, hcl⟩ := HC.out m (by omega)
      rw [dgt_big (b := 256) (n := Z) (i := m) (by omega) (by have := hle.out; omega)] at hcl
      have H1 := Lib.hid (show nd 256 Z ≤ m by have := hle.out; omega)
      have hw : wrap64 ((m : Int) + 1 - 1) = (m : Int) := by rw [IntWalk.wrap64_in _ (by omega)]; omega
      clear hstop
      go_wp2
      go_roundw
      case rel => exact ⟨m, by omega, rfl, H1, trivial⟩
      case measure => simp [intOf]; try omega
end Go.Proofs.Ytjcicbnjoffbhaa
