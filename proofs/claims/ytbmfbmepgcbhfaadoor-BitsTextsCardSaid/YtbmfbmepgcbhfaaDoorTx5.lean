/- Layer 1 (bits): Read of the document. -/
import Derived.Test.YtbmfbmepgcbhfaaDoorTx4
set_option linter.unusedSimpArgs false
set_option linter.unusedVariables false
namespace Go.Proofs.YtbmfbmepgcbhfaaDoor
open Go Go.RowKit Go.Sort Ff
attribute [local go_sem] f_lt f_gt f_eq f_ne

/-- What the document's Read says: the float whose text it is, or that there is none. -/
def RdPost (s : ByteArray) (w : World) (e : Ending) (w' : World) : Prop := ((∃ x, x < 18446744073709551616 ∧ textF x = s.data.toList ∧ e = .returned (.tuple #[.float .f64 x, .int .i64 0])) ∨ (NoT s ∧ e = .returned (.tuple #[.float .f64 0, .int .i64 10]))) ∧ Below w.heap.size w w'
set_option maxRecDepth 100000 in
theorem rRead_nan (w : World) : Calls Tryd.prog 6 #[.string ⟨#[110, 97, 110]⟩] w (RdPost ⟨#[110, 97, 110]⟩ w) := by
  have L := Lib.hid (show nanW < 18446744073709551616 ∧ textF nanW = [110, 97, 110] from ⟨nanW_lt, text_nan nanW_isn⟩)
  go_enter Tryd.func6, Tryd.ntmps6
  go_wp2_with (go_at_call 12; refine (NaN_c _).mono ?_; rintro e w' ⟨rfl, rfl⟩)
  go_ret2
  exact ⟨Or.inl ⟨nanW, L.out.1, L.out.2, rfl⟩, Below.refl _ _⟩
set_option maxRecDepth 100000 in
theorem rRead_inf (w : World) : Calls Tryd.prog 6 #[.string ⟨#[105, 110, 102]⟩] w (RdPost ⟨#[105, 110, 102]⟩ w) := by
  have L := Lib.hid (show (wf false 9218868437227405312) < 18446744073709551616 ∧ textF (wf false 9218868437227405312) = [105, 110, 102] from ⟨wf_lt (by decide), by rw [text_inf (by unfold isn; rw [(wf_rung (neg := false) (r := 9218868437227405312) (by decide)).1]; decide) (by rw [finB_false, (wf_rung (neg := false) (r := 9218868437227405312) (by decide)).1]; decide), (wf_rung (neg := false) (r := 9218868437227405312) (by decide)).2]; rfl⟩)
  go_enter Tryd.func6, Tryd.ntmps6
  go_wp2_with (go_at_call 13; refine (rsigned_c false 9218868437227405312 (by decide) _).mono ?_; rintro e w' ⟨rfl, rfl⟩)
  go_ret2
  exact ⟨Or.inl ⟨(wf false 9218868437227405312), L.out.1, L.out.2, rfl⟩, Below.refl _ _⟩
set_option maxRecDepth 100000 in
theorem rRead_minf (w : World) : Calls Tryd.prog 6 #[.string ⟨#[45, 105, 110, 102]⟩] w (RdPost ⟨#[45, 105, 110, 102]⟩ w) := by
  have L := Lib.hid (show (wf true 9218868437227405312) < 18446744073709551616 ∧ textF (wf true 9218868437227405312) = [45, 105, 110, 102] from ⟨wf_lt (by decide), by rw [text_inf (by unfold isn; rw [(wf_rung (neg := true) (r := 9218868437227405312) (by decide)).1]; decide) (by rw [finB_false, (wf_rung (neg := true) (r := 9218868437227405312) (by decide)).1]; decide), (wf_rung (neg := true) (r := 9218868437227405312) (by decide)).2]; rfl⟩)
  go_enter Tryd.func6, Tryd.ntmps6
  go_wp2_with (go_at_call 13; refine (rsigned_c true 9218868437227405312 (by decide) _).mono ?_; rintro e w' ⟨rfl, rfl⟩)
  go_ret2
  exact ⟨Or.inl ⟨(wf true 9218868437227405312), L.out.1, L.out.2, rfl⟩, Below.refl _ _⟩
set_option maxRecDepth 100000 in
theorem rRead_zero (w : World) : Calls Tryd.prog 6 #[.string ⟨#[48]⟩] w (RdPost ⟨#[48]⟩ w) := by
  have L := Lib.hid (show 0 < 18446744073709551616 ∧ textF 0 = [48] from ⟨by decide, by rw [text_zero (by decide) (by rw [finB_true]; decide) (by decide)]; rfl⟩)
  go_enter Tryd.func6, Tryd.ntmps6
  go_wp2_with (fail)
  go_ret2
  exact ⟨Or.inl ⟨0, L.out.1, L.out.2, rfl⟩, Below.refl _ _⟩
set_option maxRecDepth 100000 in
theorem rRead_mzero (w : World) : Calls Tryd.prog 6 #[.string ⟨#[45, 48]⟩] w (RdPost ⟨#[45, 48]⟩ w) := by
  have L := Lib.hid (show (wf true 0) < 18446744073709551616 ∧ textF (wf true 0) = [45, 48] from ⟨wf_lt (by decide), by rw [text_zero (by unfold isn; rw [(wf_rung (neg := true) (r := 0) (by decide)).1]; decide) (by rw [finB_true, (wf_rung (neg := true) (r := 0) (by decide)).1]; decide) (wf_rung (neg := true) (r := 0) (by decide)).1, (wf_rung (neg := true) (r := 0) (by decide)).2]; rfl⟩)
  go_enter Tryd.func6, Tryd.ntmps6
  go_wp2_with (go_at_call 13; refine (rsigned_c true 0 (by decide) _).mono ?_; rintro e w' ⟨rfl, rfl⟩)
  go_ret2
  exact ⟨Or.inl ⟨(wf true 0), L.out.1, L.out.2, rfl⟩, Below.refl _ _⟩
end Go.Proofs.YtbmfbmepgcbhfaaDoor
