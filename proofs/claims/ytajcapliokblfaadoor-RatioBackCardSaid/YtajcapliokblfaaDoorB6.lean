/- Texts put together: P50 P51 P52 P53 P54 P55 P56 P57 P58 P59 P60 P60a P60b P60c P61 P64 P70 P71 P72 P73 P73y P65. -/
import Derived.Test.YtajcapliokblfaaDoorB5
import Derived.ScopeJumps
import Derived.WalkMore
import Derived.Test.YtajcapliokblfaaDoorB3
import Derived.Test.YtajcapliokblfaaDoorB4
import Derived.Test.YtajcapliokblfaaDoorB2
set_option linter.unusedSimpArgs false
set_option linter.unusedVariables false
namespace Go.Proofs.YtajcapliokblfaaDoor
open Go Go.RowKit Nt
theorem offB_t {c : UInt8} {s : ByteArray} (h : begB c s = true) : offB c s = s.extract 1 s.size := by unfold offB; rw [if_pos h]
theorem offB_f {c : UInt8} {s : ByteArray} (h : ¬ begB c s = true) : offB c s = s := by unfold offB; rw [if_neg h]
theorem ba_eq {a b : ByteArray} (h : a.data.toList = b.data.toList) : a = b := ByteArray.ext (Array.ext' h)
theorem ba_app (a b : ByteArray) : (a ++ b).data.toList = a.data.toList ++ b.data.toList := by rw [ByteArray.data_append, Array.toList_append]
theorem ba_ext (s : ByteArray) (i j : Nat) : (s.extract i j).data.toList = (s.data.toList.drop i).take (j - i) := by rw [ByteArray.data_extract, Array.toList_extract, List.extract_eq_take_drop]
theorem ba_from (s : ByteArray) (i : Nat) : (s.extract i s.size).data.toList = s.data.toList.drop i := by
  rw [ba_ext, List.take_of_length_le]
  rw [List.length_drop]; exact Nat.le_refl _
theorem ba_upto (s : ByteArray) (i : Nat) : (s.extract 0 i).data.toList = s.data.toList.take i := by rw [ba_ext, List.drop_zero, Nat.sub_zero]
theorem ba_one (c : UInt8) : (ByteArray.mk #[c]).data.toList = [c] := rfl
theorem ba_get (s : ByteArray) (i : Nat) (h : i < s.size) : s.data.toList.drop i = s[i] :: s.data.toList.drop (i + 1) := List.drop_eq_getElem_cons (l := s.data.toList) h
theorem sign_split (c : UInt8) (s : ByteArray) : (begB c s = true → ⟨#[c]⟩ ++ offB c s = s) ∧ (¬ begB c s = true → offB c s = s) := by
  refine ⟨fun h => ?_, offB_f⟩
  obtain ⟨h0, h1⟩ := begB_iff.1 h
  rw [offB_t h]
  apply ba_eq
  rw [ba_app, ba_from, ba_one]
  have := ba_get s 0 h0
  rw [List.drop_zero, h1] at this
  exact this.symm
theorem cut_split (c : UInt8) (u : ByteArray) : (hasB c u = true → headB c u ++ (⟨#[c]⟩ ++ tailB c u) = u) ∧ (¬ hasB c u = true → headB c u = u) := by
  refine ⟨fun h => ?_, fun h => by unfold headB; rw [if_neg h]⟩
  have hi := hasB_iff.1 h
  have e := (ixB_get c u _ hi).2 rfl
  unfold headB tailB
  rw [if_pos h, if_pos h]
  apply ba_eq
  rw [ba_app, ba_app, ba_from, ba_upto, ba_one]
  have h2 := ba_get u _ hi
  rw [e] at h2
  show u.data.toList.take _ ++ (c :: u.data.toList.drop _) = _
  rw [← h2, List.take_append_drop]
theorem rt_ok {s : ByteArray} (h : rtE s = 0) : ∃ n, fits n ∧ rtS s = natS n ∧ decS n = s := by
  unfold rtE at h
  by_cases hv : Valid s
  · rw [if_pos hv] at h
    by_cases hf : fits (preV s s.size)
    · exact ⟨_, hf, by unfold rtS; rw [if_pos hv, resS_ok hf], dec_of_pre hv⟩
    · rw [resE_no hf] at h; exact absurd h (by decide)
  · rw [if_neg hv] at h; exact absurd h (by decide)
theorem txt_f {s : ByteArray} {q : Rat} (h : ¬ hasB 47 (offB 45 s) = true) (e : rtE (headB 47 (offB 45 s)) = 0) (hq : rdX s = ⟨qG q, natS (qN q), natS (qD q)⟩) : txR (qG q) (qN q) (qD q) = s := by
  obtain ⟨n, hf, h1, h2⟩ := rt_ok e
  rw [rdX_f h, h1] at hq
  obtain ⟨g1, g2, g3⟩ := Rx.mk.inj hq
  have en := natS_inj.1 g2
  rw [(cut_split 47 (offB 45 s)).2 h, en] at h2
  have ed : qD q = 1 := one_iff.1 g3.symm
  rw [ed]
  by_cases hb : begB 45 s = true
  · rw [tx_tt (g1.symm.trans hb) natS_1r, h2]; exact (sign_split 45 s).1 hb
  · rw [tx_ft (fun c => hb (g1.trans c)) natS_1r, h2]; exact (sign_split 45 s).2 hb
theorem txt_t {s : ByteArray} {q : Rat} (h : hasB 47 (offB 45 s) = true) (e : rtE (headB 47 (offB 45 s)) = 0) (e2 : rtE (tailB 47 (offB 45 s)) = 0) (hq : rdX s = ⟨qG q, natS (qN q), natS (qD q)⟩) : (rtS (tailB 47 (offB 45 s)) = ⟨#[1]⟩ → ¬ txR (qG q) (qN q) (qD q) = s) ∧ (¬ rtS (tailB 47 (offB 45 s)) = ⟨#[1]⟩ → txR (qG q) (qN q) (qD q) = s) := by
  obtain ⟨n, hf, h1, h2⟩ := rt_ok e
  obtain ⟨d, hf', h1', h2'⟩ := rt_ok e2
  rw [rdX_t h, h1, h1'] at hq
  obtain ⟨g1, g2, g3⟩ := Rx.mk.inj hq
  have en := natS_inj.1 g2
  have ed := natS_inj.1 g3
  have hc := (cut_split 47 (offB 45 s)).1 h
  rw [← h2, ← h2', en, ed] at hc
  rw [h1', ed]
  constructor
  · intro h3 h4
    have k1 := congrArg ByteArray.size h4
    by_cases hb : begB 45 s = true
    · have k2 := (sign_split 45 s).1 hb
      rw [tx_tt (g1.symm.trans hb) h3, ← k2, ← hc] at k1
      simp only [ByteArray.size_append] at k1
      have e47 : (ByteArray.mk #[47]).size = 1 := rfl
      omega
    · have k2 := (sign_split 45 s).2 hb
      rw [tx_ft (fun c => hb (g1.trans c)) h3, ← k2, ← hc] at k1
      simp only [ByteArray.size_append] at k1
      have e47 : (ByteArray.mk #[47]).size = 1 := rfl
      omega
  · intro h3
    by_cases hb : begB 45 s = true
    · rw [tx_tf (g1.symm.trans hb) h3, ByteArray.append_assoc, hc]; exact (sign_split 45 s).1 hb
    · rw [tx_ff (fun c => hb (g1.trans c)) h3, hc]; exact (sign_split 45 s).2 hb
end Go.Proofs.YtajcapliokblfaaDoor
namespace Go.Proofs.YtajcapliokblfaaDoor
open Go Go.RowKit Nt
def isDgB (c : UInt8) : Bool := decide (48 ≤ c.toNat ∧ c.toNat ≤ 57)
theorem tw_get {α : Type} (p : α → Bool) (l : List α) : (∀ k (h : k < l.length), k < (l.takeWhile p).length → p l[k] = true) ∧ (∀ h : (l.takeWhile p).length < l.length, p l[(l.takeWhile p).length] = false) ∧ (l.takeWhile p).length ≤ l.length := by
  induction l with
  | nil => exact ⟨fun k h => absurd h (Nat.not_lt_zero _), fun h => absurd h (Nat.not_lt_zero _), Nat.le_refl _⟩
  | cons b l ih =>
    obtain ⟨i1, i2, i3⟩ := ih
    cases hp : p b
    · have e : (b :: l).takeWhile p = [] := by rw [List.takeWhile_cons, hp]; rfl
      simp only [e, List.length_nil]
      exact ⟨fun k h hk => absurd hk (Nat.not_lt_zero _), fun h => hp, Nat.zero_le _⟩
    · have e : (b :: l).takeWhile p = b :: l.takeWhile p := by rw [List.takeWhile_cons, hp]; rfl
      simp only [e, List.length_cons]
      refine ⟨fun k h hk => ?_, fun h => ?_, by omega⟩
      · cases k with
        | zero => exact hp
        | succ k => exact i1 k (by simpa using h) (by omega)
      · exact i2 (by omega)
@[irreducible] def zE (t : ByteArray) (i : Nat) : Nat := i + ((t.data.toList.drop i).takeWhile isDgB).length
theorem zE_ge (t : ByteArray) (i : Nat) : i ≤ zE t i := by unfold zE; omega
theorem zE_le (t : ByteArray) (i : Nat) (h : i ≤ t.size) : zE t i ≤ t.size := by
  have := (tw_get isDgB (t.data.toList.drop i)).2.2
  rw [List.length_drop] at this
  have e : t.data.toList.length = t.size := rfl
  unfold zE; omega
theorem zE_in (t : ByteArray) (i k : Nat) (h1 : i ≤ k) (h2 : k < zE t i) (h : k < t.size) : isDgB t[k] = true := by
  have e : t.data.toList.length = t.size := rfl
  unfold zE at h2
  have := (tw_get isDgB (t.data.toList.drop i)).1 (k - i) (by rw [List.length_drop]; omega) (by omega)
  rw [List.getElem_drop] at this
  have e2 : t.data.toList[i + (k - i)]'(by omega) = t[k] := by
    show t.data.toList[i + (k - i)]'(by omega) = t.data.toList[k]'(by omega)
    congr 1; omega
  rwa [e2] at this
theorem zE_out (t : ByteArray) (i : Nat) (h0 : i ≤ t.size) (h : zE t i < t.size) : isDgB t[zE t i] = false := by
  have e : t.data.toList.length = t.size := rfl
  have h2 := h
  unfold zE at h2
  have := (tw_get isDgB (t.data.toList.drop i)).2.1 (by rw [List.length_drop]; omega)
  rw [List.getElem_drop] at this
  have e2 : t.data.toList[i + ((t.data.toList.drop i).takeWhile isDgB).length]'(by omega) = t[zE t i] := by
    show _ = t.data.toList[zE t i]'(by omega)
    congr 1
    unfold zE; rfl
  rwa [e2] at this
def isAt (t : ByteArray) (k : Nat) (c : Nat) : Prop := ∃ h : k < t.size, t[k].toNat = c
noncomputable section
open Classical
@[irreducible] def zN (t : ByteArray) : Nat := zE t 0
@[irreducible] def zPt (t : ByteArray) : Bool := decide (isAt t (zN t) 46)
@[irreducible] def zM (t : ByteArray) : Nat := if zPt t = true then zE t (zN t + 1) else zN t
@[irreducible] def zX (t : ByteArray) : Bool := decide (isAt t (zM t) 101)
@[irreducible] def zL (t : ByteArray) : Bool := decide (isAt t (zM t) 101 ∧ isAt t (zM t + 1) 45)
@[irreducible] def zJ (t : ByteArray) : Nat := if zL t = true then zM t + 2 else zM t + 1
def zOk (t : ByteArray) : Prop := 0 < zN t ∧ (zN t = 1 ∨ ¬ isAt t 0 48) ∧ (zPt t = true → zN t + 1 < zM t) ∧ (¬ zX t = true → zM t = t.size) ∧
  (zX t = true → zJ t < t.size ∧ zE t (zJ t) = t.size ∧ (isAt t (zJ t) 48 → zL t = false ∧ t.size = zJ t + 1))
@[irreducible] def zD (t : ByteArray) : ByteArray := t.extract 0 (zN t) ++ (if zPt t = true then t.extract (zN t + 1) (zM t) else ⟨#[]⟩)
@[irreducible] def zB (t : ByteArray) : Nat := if zPt t = true then zM t - (zN t + 1) else 0
@[irreducible] def zP (t : ByteArray) : ByteArray := if zX t = true then t.extract (zJ t) t.size else ⟨#[]⟩
end
def Exit.jumps (J : Nat → Act → World → Prop) (Q : Exit → Act → World → Prop) : Exit → Act → World → Prop
  | .goto l', a, w => J l' a w
  | e, a, w => Q e a w
theorem wp_scope_labels {P : Program} {a : Act} {w : World} {Q : Exit → Act → World → Prop} {c : Code} (J : Nat → Act → World → Prop) (μ : Nat → Act → World → Nat)
    (first : c.wp P (Exit.jumps J Q) a w)
    (pass : ∀ l a w, J l a w → ∃ rest, findLabel c l = some rest ∧ rest.wp P (Exit.jumps (fun l' a' w' => J l' a' w' ∧ μ l' a' w' < μ l a w) Q) a w) : (Code.scope c).wp P Q a w := by
  intro b k cs
  have key : ∀ n l a w, μ l a w = n → J l a w → ∃ rest, findLabel c l = some rest ∧ ∃ e a' w', Q e a' w' ∧ Arrives P (lone (b.at a (.code rest :: .inScope c :: k)) cs w) b k cs e a' w' := by
    intro n
    induction n using Nat.strongRecOn with
    | _ n ih =>
      intro l a w hn hJ
      obtain ⟨rest, hf, hp⟩ := pass l a w hJ
      refine ⟨rest, hf, ?_⟩
      obtain ⟨e, a₁, w₁, hq, harr⟩ := hp b (.inScope c :: k) cs
      cases e with
      | normal => exact ⟨.normal, a₁, w₁, hq, Steps.trans harr (.one step_inScope)⟩
      | exit id => exact ⟨.exit id, a₁, w₁, hq, fun k' hk => harr k' (by simp [exitTo, hk])⟩
      | goto l' =>
        obtain ⟨hJ', hlt⟩ := hq
        obtain ⟨rest', hf', e₂, a₂, w₂, hq₂, harr₂⟩ := ih _ (by omega) l' a₁ w₁ rfl hJ'
        have hg : gotoIn l' (.inScope c :: k) = some (.code rest' :: .inScope c :: k) := by simp [gotoIn, hf']
        exact ⟨e₂, a₂, w₂, hq₂, .of_steps (harr _ hg) harr₂⟩
      | ret => exact ⟨_, a₁, w₁, hq, harr⟩
      | panic ch => exact ⟨_, a₁, w₁, hq, harr⟩
      | outgrown => exact ⟨_, a₁, w₁, hq, harr⟩
  obtain ⟨e, a₁, w₁, hq, harr⟩ := first b (.inScope c :: k) cs
  cases e with
  | normal => exact ⟨.normal, a₁, w₁, hq, .head step_scope (Steps.trans harr (.one step_inScope))⟩
  | exit id => exact ⟨.exit id, a₁, w₁, hq, fun k' hk => .head step_scope (harr k' (by simp [exitTo, hk]))⟩
  | goto l' =>
    obtain ⟨rest', hf', e₂, a₂, w₂, hq₂, harr₂⟩ := key _ l' a₁ w₁ rfl hq
    have hg : gotoIn l' (.inScope c :: k) = some (.code rest' :: .inScope c :: k) := by simp [gotoIn, hf']
    exact ⟨e₂, a₂, w₂, hq₂, .of_steps (.head step_scope (harr _ hg)) harr₂⟩
  | ret => exact ⟨_, a₁, w₁, hq, .of_steps (.one step_scope) harr⟩
  | panic ch => exact ⟨_, a₁, w₁, hq, .of_steps (.one step_scope) harr⟩
  | outgrown => exact ⟨_, a₁, w₁, hq, .of_steps (.one step_scope) harr⟩
end Go.Proofs.YtajcapliokblfaaDoor
namespace Go.Proofs.YtajcapliokblfaaDoor
open Go Go.RowKit Nt
def Bx5 (W : World) (B : Nat) (a b c d e : Value) : Prop := ∃ T : TypeId, Blk W B T #[a, b, c, d, e]
theorem Bx5.facts {W : World} {B : Nat} {a b c d e : Value} (h : Bx5 W B a b c d e) : B < W.heap.size ∧ (W.cell? ⟨B, 0, none⟩ = some a ∧ W.cell? ⟨B, 1, none⟩ = some b ∧ W.cell? ⟨B, 2, none⟩ = some c ∧ W.cell? ⟨B, 3, none⟩ = some d ∧ W.cell? ⟨B, 4, none⟩ = some e) ∧ W.frozen? ⟨B, 0, none⟩ = false ∧ W.frozen? ⟨B, 1, none⟩ = false ∧ W.frozen? ⟨B, 2, none⟩ = false ∧ W.frozen? ⟨B, 3, none⟩ = false ∧ W.frozen? ⟨B, 4, none⟩ = false := by
  obtain ⟨T, h⟩ := h
  exact ⟨h.lt, ⟨by rw [h.cell]; rfl, by rw [h.cell]; rfl, by rw [h.cell]; rfl, by rw [h.cell]; rfl, by rw [h.cell]; rfl⟩, h.frozen 0, h.frozen 1, h.frozen 2, h.frozen 3, h.frozen 4⟩
theorem Bx5.step {W W' : World} {B : Nat} {a b c d e : Value} (h : Bx5 W B a b c d e) (hb : Below W.heap.size W W') : Bx5 W' B a b c d e := by
  obtain ⟨T, h⟩ := h; exact ⟨T, h.below hb h.lt⟩
theorem Bx5.new (w : World) (a b c d e : Value) (T : TypeId) : Bx5 (w.alloc (.cells #[a, b, c, d, e] T)) w.heap.size a b c d e := ⟨T, Blk.new w _ _⟩
theorem Bx5.p0 {W : World} {B : Nat} {a b c d e : Value} (h : Bx5 W B a b c d e) (x : Value) : Bx5 (W.setCell ⟨B, 0, none⟩ x) B x b c d e := by
  obtain ⟨T, h⟩ := h; exact ⟨T, by simpa using h.set_ 0 x⟩
theorem Bx5.p1 {W : World} {B : Nat} {a b c d e : Value} (h : Bx5 W B a b c d e) (x : Value) : Bx5 (W.setCell ⟨B, 1, none⟩ x) B a x c d e := by
  obtain ⟨T, h⟩ := h; exact ⟨T, by simpa using h.set_ 1 x⟩
theorem Bx5.p2 {W : World} {B : Nat} {a b c d e : Value} (h : Bx5 W B a b c d e) (x : Value) : Bx5 (W.setCell ⟨B, 2, none⟩ x) B a b x d e := by
  obtain ⟨T, h⟩ := h; exact ⟨T, by simpa using h.set_ 2 x⟩
theorem Bx5.p3 {W : World} {B : Nat} {a b c d e : Value} (h : Bx5 W B a b c d e) (x : Value) : Bx5 (W.setCell ⟨B, 3, none⟩ x) B a b c x e := by
  obtain ⟨T, h⟩ := h; exact ⟨T, by simpa using h.set_ 3 x⟩
theorem Bx5.p4 {W : World} {B : Nat} {a b c d e : Value} (h : Bx5 W B a b c d e) (x : Value) : Bx5 (W.setCell ⟨B, 4, none⟩ x) B a b c d x := by
  obtain ⟨T, h⟩ := h; exact ⟨T, by simpa using h.set_ 4 x⟩
def DB (w : World) (g l : Bool) (dg pw : ByteArray) (bh : Int) (W : World) : Prop := Below w.heap.size w W ∧ Bx5 W w.heap.size (.bool g) (.bool l) (.string dg) (.string pw) (.int .i64 bh)
theorem DB.low {w : World} {g l : Bool} {dg pw : ByteArray} {bh : Int} {W : World} (h : DB w g l dg pw bh W) : Below w.heap.size w W := h.1
theorem DB.box {w : World} {g l : Bool} {dg pw : ByteArray} {bh : Int} {W : World} (h : DB w g l dg pw bh W) : Bx5 W w.heap.size (.bool g) (.bool l) (.string dg) (.string pw) (.int .i64 bh) := h.2
theorem DB.step {w : World} {g l : Bool} {dg pw : ByteArray} {bh : Int} {W W' : World} (h : DB w g l dg pw bh W) (hb : Below W.heap.size W W') : DB w g l dg pw bh W' := ⟨below_chain h.1 hb, h.2.step hb⟩
theorem DB.q0 {w : World} {g l : Bool} {dg pw : ByteArray} {bh : Int} {W : World} (h : DB w g l dg pw bh W) (x : Bool) : DB w x l dg pw bh (W.setCell ⟨w.heap.size, 0, none⟩ (.bool x)) := ⟨h.1.setCell (p := ⟨w.heap.size, 0, none⟩) (Nat.le_refl _) _, h.2.p0 _⟩
theorem DB.q1 {w : World} {g l : Bool} {dg pw : ByteArray} {bh : Int} {W : World} (h : DB w g l dg pw bh W) (x : Bool) : DB w g x dg pw bh (W.setCell ⟨w.heap.size, 1, none⟩ (.bool x)) := ⟨h.1.setCell (p := ⟨w.heap.size, 1, none⟩) (Nat.le_refl _) _, h.2.p1 _⟩
theorem DB.q2 {w : World} {g l : Bool} {dg pw : ByteArray} {bh : Int} {W : World} (h : DB w g l dg pw bh W) (x : ByteArray) : DB w g l x pw bh (W.setCell ⟨w.heap.size, 2, none⟩ (.string x)) := ⟨h.1.setCell (p := ⟨w.heap.size, 2, none⟩) (Nat.le_refl _) _, h.2.p2 _⟩
theorem DB.q3 {w : World} {g l : Bool} {dg pw : ByteArray} {bh : Int} {W : World} (h : DB w g l dg pw bh W) (x : ByteArray) : DB w g l dg x bh (W.setCell ⟨w.heap.size, 3, none⟩ (.string x)) := ⟨h.1.setCell (p := ⟨w.heap.size, 3, none⟩) (Nat.le_refl _) _, h.2.p3 _⟩
theorem DB.q4 {w : World} {g l : Bool} {dg pw : ByteArray} {bh : Int} {W : World} (h : DB w g l dg pw bh W) (x : Int) : DB w g l dg pw x (W.setCell ⟨w.heap.size, 4, none⟩ (.int .i64 x)) := ⟨h.1.setCell (p := ⟨w.heap.size, 4, none⟩) (Nat.le_refl _) _, h.2.p4 _⟩
set_option maxRecDepth 100000 in
theorem PisDigit_c (c : UInt8) (w : World) : Calls Tryd.prog 55 #[.int .u8 (c.toNat : Int)] w fun e w' => e = .returned (.bool (isDgB c)) ∧ w = w' := by
  by_cases h1 : 48 ≤ c.toNat <;> by_cases h2 : c.toNat ≤ 57
  all_goals
    have e : isDgB c = (decide (48 ≤ c.toNat) && decide (c.toNat ≤ 57)) := by unfold isDgB; simp
    have q1 : decide ((48 : Int) ≤ (c.toNat : Int)) = decide (48 ≤ c.toNat) := by rw [Bool.eq_iff_iff, decide_eq_true_iff, decide_eq_true_iff]; omega
    have q2 : decide ((c.toNat : Int) ≤ 57) = decide (c.toNat ≤ 57) := by rw [Bool.eq_iff_iff, decide_eq_true_iff, decide_eq_true_iff]; omega
    first | rw [decide_eq_true h1] at e q1 | rw [decide_eq_false h1] at e q1
    first | rw [decide_eq_true h2] at e q2 | rw [decide_eq_false h2] at e q2
    rw [e]
    have n1 : ((48 : Int) ≤ (c.toNat : Int)) = (48 ≤ c.toNat) := by rw [eq_iff_iff]; omega
    clear h1 h2 e n1
    go_enter Tryd.func55, Tryd.ntmps55
    go_wp2
    go_ret
    exact ⟨by first | rfl | simp, rfl⟩
def FrS (w : World) (s0 : ByteArray) (k f : Int) (a : Act) : Prop := a.tmps.size = 116 ∧ a.defers = [] ∧ a.tmps[0]? = some (.string s0) ∧ a.tmps[2]? = some (.pointer (some ⟨w.heap.size, 0, none⟩)) ∧ a.tmps[3]? = some (.bool false) ∧ a.tmps[4]? = some (.int .i64 k) ∧ a.tmps[5]? = some (.int .i64 f)
theorem arr_range {α : Type} (A : Array α) (d : α) (n : Nat) (h : A.size = n) : A = ((List.range n).map fun i => A.getD i d).toArray := by
  subst h
  apply Array.ext
  · simp
  · intro i h1 h2
    simp [h1]
set_option maxRecDepth 10000 in
theorem FrS.ex {w : World} {s0 : ByteArray} {k f : Int} {a : Act} (h : FrS w s0 k f a) : ∃ U : Nat → Value, a = { tmps := #[U 0, U 1, U 2, U 3, U 4, U 5, U 6, U 7, U 8, U 9, U 10, U 11, U 12, U 13, U 14, U 15, U 16, U 17, U 18, U 19, U 20, U 21, U 22, U 23, U 24, U 25, U 26, U 27, U 28, U 29, U 30, U 31, U 32, U 33, U 34, U 35, U 36, U 37, U 38, U 39, U 40, U 41, U 42, U 43, U 44, U 45, U 46, U 47, U 48, U 49, U 50, U 51, U 52, U 53, U 54, U 55, U 56, U 57, U 58, U 59, U 60, U 61, U 62, U 63, U 64, U 65, U 66, U 67, U 68, U 69, U 70, U 71, U 72, U 73, U 74, U 75, U 76, U 77, U 78, U 79, U 80, U 81, U 82, U 83, U 84, U 85, U 86, U 87, U 88, U 89, U 90, U 91, U 92, U 93, U 94, U 95, U 96, U 97, U 98, U 99, U 100, U 101, U 102, U 103, U 104, U 105, U 106, U 107, U 108, U 109, U 110, U 111, U 112, U 113, U 114, U 115], defers := [] } ∧ U 0 = .string s0 ∧ U 2 = .pointer (some ⟨w.heap.size, 0, none⟩) ∧ U 3 = .bool false ∧ U 4 = .int .i64 k ∧ U 5 = .int .i64 f := by
  obtain ⟨h1, h2, p0, p2, p3, p4, p5⟩ := h
  have e := arr_range a.tmps undef 116 h1
  obtain ⟨A, D⟩ := a
  simp only at h1 h2 p0 p2 p3 p4 p5 e
  subst h2
  have g : ∀ {i : Nat} {v : Value}, A[i]? = some v → A.getD i undef = v := fun h => by rw [Array.getD_eq_getD_getElem?, h]; rfl
  refine ⟨fun i => A.getD i undef, ?_, g p0, g p2, g p3, g p4, g p5⟩
  congr 1
def JF (w : World) (s0 u : ByteArray) (g : Bool) (a' : Act) (w' : World) : Prop := ∃ (k : Nat), FrS w s0 (k : Int) (0 : Int) a' ∧ DB w g false ⟨#[]⟩ ⟨#[]⟩ 0 w' ∧ ¬ isAt u 0 48 ∧ k ≤ zN u
def JW (w : World) (s0 u : ByteArray) (g : Bool) (a' : Act) (w' : World) : Prop := ∃ (k : Nat), FrS w s0 (k : Int) (0 : Int) a' ∧ DB w g false ⟨#[]⟩ ⟨#[]⟩ 0 w' ∧ ((k = 1 ∧ isAt u 0 48) ∨ (k = zN u ∧ ¬ isAt u 0 48))
def JP (w : World) (s0 u : ByteArray) (g : Bool) (a' : Act) (w' : World) : Prop := ∃ (k : Nat), FrS w s0 (k : Int) ((zN u + 1 : Nat) : Int) a' ∧ DB w g false (u.extract 0 (zN u)) ⟨#[]⟩ 0 w' ∧ zPt u = true ∧ (0 < zN u ∧ (zN u = 1 ∨ ¬ isAt u 0 48)) ∧ zN u + 1 < k ∧ k ≤ zM u
def JE (w : World) (s0 u : ByteArray) (g : Bool) (a' : Act) (w' : World) : Prop := ∃ (k : Nat) (f : Int) (dg : ByteArray) (bh : Int), FrS w s0 (k : Int) (f : Int) a' ∧ DB w g false dg ⟨#[]⟩ bh w' ∧ ((∃ h : k < u.size, isDgB u[k] = true ∧ ¬ zOk u) ∨ (k = zM u ∧ (0 < zN u ∧ (zN u = 1 ∨ ¬ isAt u 0 48)) ∧ (zPt u = true → zN u + 1 < zM u) ∧ dg = zD u ∧ bh = (zB u : Int)))
def JM (w : World) (s0 u : ByteArray) (g : Bool) (a' : Act) (w' : World) : Prop := ∃ (k : Nat), FrS w s0 (k : Int) ((zJ u : Nat) : Int) a' ∧ DB w g (zL u) (zD u) ⟨#[]⟩ (zB u : Int) w' ∧ zX u = true ∧ (0 < zN u ∧ (zN u = 1 ∨ ¬ isAt u 0 48)) ∧ (zPt u = true → zN u + 1 < zM u) ∧ ¬ isAt u (zJ u) 48 ∧ zJ u < k ∧ k ≤ zE u (zJ u)
def JD (w : World) (s0 u : ByteArray) (g : Bool) (a' : Act) (w' : World) : Prop := ∃ (k : Nat), FrS w s0 (k : Int) ((zJ u : Nat) : Int) a' ∧ DB w g (zL u) (zD u) ⟨#[]⟩ (zB u : Int) w' ∧ zX u = true ∧ zL u = false ∧ (0 < zN u ∧ (zN u = 1 ∨ ¬ isAt u 0 48)) ∧ (zPt u = true → zN u + 1 < zM u) ∧ isAt u (zJ u) 48 ∧ k = zJ u + 1
def JZ (w : World) (s0 u : ByteArray) (g : Bool) (a' : Act) (w' : World) : Prop := ∃ (k : Nat) (f : Int) (l : Bool) (dg pw : ByteArray) (bh : Int), FrS w s0 (k : Int) (f : Int) a' ∧ DB w g l dg pw bh w' ∧ k ≤ u.size ∧ (k = u.size ↔ zOk u) ∧ (zOk u → l = zL u ∧ dg = zD u ∧ pw = zP u ∧ bh = (zB u : Int))
def JS (w : World) (s0 u : ByteArray) (g : Bool) (l : Nat) (a' : Act) (w' : World) : Prop := (l = 1 ∧ JF w s0 u g a' w') ∨ (l = 0 ∧ JW w s0 u g a' w') ∨ (l = 3 ∧ JP w s0 u g a' w') ∨ (l = 2 ∧ JE w s0 u g a' w') ∨ (l = 6 ∧ JM w s0 u g a' w') ∨ (l = 5 ∧ JD w s0 u g a' w') ∨ (l = 4 ∧ JZ w s0 u g a' w')
def rkL (l : Nat) : Nat := if l = 1 then 6 else if l = 0 then 5 else if l = 3 then 4 else if l = 2 then 3 else if l = 6 then 2 else if l = 5 then 1 else 0
def atA (a : Act) : Nat := match a.tmps[4]? with
  | some (Value.int _ q) => q.toNat
  | _ => 0
def muS (u : ByteArray) (l : Nat) (a : Act) : Nat := rkL l * (u.size + 2) + (u.size + 1 - atA a)
structure S0 (s0 u : ByteArray) : Prop where
  sz : s0.size = u.size + 1
  at_ : ∀ k (h : k < u.size) (h' : k < s0.size), s0[k] = u[k]
  end_ : ∀ (h : u.size < s0.size), s0[u.size] = 0
  ext : ∀ i j, j ≤ u.size → s0.extract i j = u.extract i j
theorem s0_of (u : ByteArray) : S0 (u ++ ⟨#[0]⟩) u := by
  have e : (u ++ ⟨#[0]⟩ : ByteArray).data.toList = u.data.toList ++ [0] := by rw [ba_app]
  have hs : (u ++ ⟨#[0]⟩ : ByteArray).size = u.size + 1 := by rw [ByteArray.size_append]; rfl
  refine ⟨hs, fun k h h' => ?_, fun h => ?_, fun i j hj => ?_⟩
  · show (u ++ ⟨#[0]⟩ : ByteArray).data.toList[k]'(by exact h') = u.data.toList[k]'(by exact h)
    simp only [e]
    rw [List.getElem_append_left]
  · show (u ++ ⟨#[0]⟩ : ByteArray).data.toList[u.size]'(by exact h) = 0
    simp only [e]
    rw [List.getElem_append_right (by exact Nat.le_refl _)]
    simp
  · apply ba_eq
    rw [ba_ext, ba_ext, e]
    by_cases hi : i ≤ u.size
    · rw [List.drop_append_of_le_length (by exact hi), List.take_append_of_le_length]
      rw [List.length_drop]; show j - i ≤ u.size - i; omega
    · rw [show j - i = 0 by omega, List.take_zero, List.take_zero]
end Go.Proofs.YtajcapliokblfaaDoor
namespace Go.Proofs.YtajcapliokblfaaDoor
open Go Go.RowKit Nt
noncomputable def scanC : Code := match Tryd.f34.body with
  | some (.seq _ (.scope c)) => c
  | _ => .skip
def ScP (u : ByteArray) (g : Bool) (w : World) (e : Ending) (w' : World) : Prop := (∃ (a b : Bool) (x y : ByteArray) (n : Int) (ok : Bool), e = .returned (.tuple #[.agg #[.bool a, .bool b, .string x, .string y, .int .i64 n], .bool ok]) ∧ (ok = true ↔ zOk u) ∧ (ok = true → a = g ∧ b = zL u ∧ x = zD u ∧ y = zP u ∧ n = (zB u : Int))) ∧ Below w.heap.size w w'
theorem ScP.no {u : ByteArray} {g a b : Bool} {x y : ByteArray} {n : Int} {w : World} {w' : World} (h : ¬ zOk u) (hb : Below w.heap.size w w') : ScP u g w (.returned (.tuple #[.agg #[.bool a, .bool b, .string x, .string y, .int .i64 n], .bool false])) w' := ⟨⟨a, b, x, y, n, false, rfl, ⟨fun c => absurd c Bool.false_ne_true, fun c => absurd c h⟩, fun c => absurd c Bool.false_ne_true⟩, hb⟩
theorem ScP.of {u : ByteArray} {g l : Bool} {dg pw : ByteArray} {bh : Int} {ok : Bool} {w w' : World} (h : ok = true ↔ zOk u) (h2 : zOk u → l = zL u ∧ dg = zD u ∧ pw = zP u ∧ bh = (zB u : Int)) (hb : Below w.heap.size w w') : ScP u g w (.returned (.tuple #[.agg #[.bool g, .bool l, .string dg, .string pw, .int .i64 bh], .bool ok])) w' :=
  ⟨⟨g, l, dg, pw, bh, ok, rfl, h, fun c => ⟨rfl, h2 (h.1 c)⟩⟩, hb⟩
theorem below_put5 {n : Nat} {w W : World} {A : Nat} (hb : Below n w W) (hA : n ≤ A) (a b c d e : Value) : Below n w (((((W.setCell ⟨A, 0, none⟩ a).setCell ⟨A, 1, none⟩ b).setCell ⟨A, 2, none⟩ c).setCell ⟨A, 3, none⟩ d).setCell ⟨A, 4, none⟩ e) :=
  ((((hb.setCell (p := ⟨A, 0, none⟩) hA a).setCell (p := ⟨A, 1, none⟩) hA b).setCell (p := ⟨A, 2, none⟩) hA c).setCell (p := ⟨A, 3, none⟩) hA d).setCell (p := ⟨A, 4, none⟩) hA e
theorem S0.dig {s0 u : ByteArray} (h : S0 s0 u) (i k : Nat) (hi : i ≤ u.size) (h1 : i ≤ k) (h2 : k ≤ zE u i) (h' : k < s0.size) : (k < zE u i → isDgB s0[k] = true ∧ k < u.size) ∧ (k = zE u i → isDgB s0[k] = false) := by
  have hle := zE_le u i hi
  constructor
  · intro h3
    have h4 : k < u.size := by omega
    rw [h.at_ k h4 h']
    exact ⟨zE_in u i k h1 h3 h4, h4⟩
  · intro h3
    by_cases h4 : k < u.size
    · rw [h.at_ k h4 h']
      subst h3
      exact zE_out u i hi h4
    · have h5 : k = u.size := by omega
      subst h5
      rw [h.end_ h']; decide
theorem S0.byte {s0 u : ByteArray} (h : S0 s0 u) (k c : Nat) (hc : c ≠ 0) (hk : k ≤ u.size) (h' : k < s0.size) : (isAt u k c → ((s0[k].toNat : Int) == (c : Int)) = true ∧ k < u.size) ∧ (¬ isAt u k c → ((s0[k].toNat : Int) == (c : Int)) = false) := by
  constructor
  · rintro ⟨h1, h2⟩
    rw [h.at_ k h1 h', h2]; simp [h1]
  · intro h2
    rw [beq_eq_false_iff_ne]
    intro h3
    by_cases h4 : k < u.size
    · rw [h.at_ k h4 h'] at h3
      exact h2 ⟨h4, by omega⟩
    · have h5 : k = u.size := by omega
      subst h5
      rw [h.end_ h'] at h3
      have : (0 : UInt8).toNat = 0 := rfl
      omega
theorem bne_of5 {a b : Int} {c : Bool} (h : (a == b) = c) : (a != b) = !c := by rw [bne, h]
theorem zN_le (u : ByteArray) : zN u ≤ u.size := by unfold zN; exact zE_le u 0 (Nat.zero_le _)
open Classical in
theorem zPt_iff {u : ByteArray} : zPt u = true ↔ isAt u (zN u) 46 := by unfold zPt; exact decide_eq_true_iff
open Classical in
theorem zX_iff {u : ByteArray} : zX u = true ↔ isAt u (zM u) 101 := by unfold zX; exact decide_eq_true_iff
open Classical in
theorem zL_iff {u : ByteArray} : zL u = true ↔ isAt u (zM u) 101 ∧ isAt u (zM u + 1) 45 := by unfold zL; exact decide_eq_true_iff
theorem zM_t {u : ByteArray} (h : zPt u = true) : zM u = zE u (zN u + 1) := by unfold zM; rw [if_pos h]
theorem zM_f {u : ByteArray} (h : ¬ zPt u = true) : zM u = zN u := by unfold zM; rw [if_neg h]
theorem zM_le (u : ByteArray) : zM u ≤ u.size := by
  by_cases h : zPt u = true
  · obtain ⟨h1, _⟩ := zPt_iff.1 h
    rw [zM_t h]; exact zE_le u _ h1
  · rw [zM_f h]; exact zN_le u
theorem zJ_t {u : ByteArray} (h : zL u = true) : zJ u = zM u + 2 := by unfold zJ; rw [if_pos h]
theorem zJ_f {u : ByteArray} (h : ¬ zL u = true) : zJ u = zM u + 1 := by unfold zJ; rw [if_neg h]
theorem zJ_le {u : ByteArray} (h : zX u = true) : zJ u ≤ u.size := by
  obtain ⟨h1, _⟩ := zX_iff.1 h
  by_cases k : zL u = true
  · obtain ⟨_, h2, _⟩ := zL_iff.1 k
    rw [zJ_t k]; omega
  · rw [zJ_f k]; omega
theorem zOk_x {u : ByteArray} (hX : zX u = true) (hH : 0 < zN u ∧ (zN u = 1 ∨ ¬ isAt u 0 48)) (hP : zPt u = true → zN u + 1 < zM u) : zOk u ↔ zJ u < u.size ∧ zE u (zJ u) = u.size ∧ (isAt u (zJ u) 48 → zL u = false ∧ u.size = zJ u + 1) :=
  ⟨fun h => h.2.2.2.2 hX, fun h => ⟨hH.1, hH.2, hP, fun c => absurd hX c, fun _ => h⟩⟩
theorem zOk_n {u : ByteArray} (hX : ¬ zX u = true) (hH : 0 < zN u ∧ (zN u = 1 ∨ ¬ isAt u 0 48)) (hP : zPt u = true → zN u + 1 < zM u) : zM u = u.size ↔ zOk u :=
  ⟨fun h => ⟨hH.1, hH.2, hP, fun _ => h, fun c => absurd c hX⟩, fun h => h.2.2.2.1 hX⟩
theorem zP_t {u : ByteArray} (h : zX u = true) : zP u = u.extract (zJ u) u.size := by unfold zP; rw [if_pos h]
theorem zP_f {u : ByteArray} (h : ¬ zX u = true) : zP u = ⟨#[]⟩ := by unfold zP; rw [if_neg h]
theorem zL_n {u : ByteArray} (h : ¬ zX u = true) : zL u = false := Bool.eq_false_iff.2 fun c => h (zX_iff.2 (zL_iff.1 c).1)
theorem zD_f {u : ByteArray} (h : ¬ zPt u = true) : zD u = u.extract 0 (zN u) ∧ zB u = 0 := by
  unfold zD zB
  rw [if_neg h, if_neg h]
  exact ⟨ba_eq (by rw [ba_app]; exact List.append_nil _), rfl⟩
theorem zD_t {u : ByteArray} (h : zPt u = true) : zD u = u.extract 0 (zN u) ++ u.extract (zN u + 1) (zM u) ∧ zB u = zM u - (zN u + 1) := by
  unfold zD zB
  rw [if_pos h, if_pos h]
  exact ⟨rfl, rfl⟩
theorem ext_full {s : ByteArray} {i j : Nat} (h : i < j) (hj : j ≤ s.size) : ¬ (s.extract i j).toList = [] ∧ (s.extract i j).toList.isEmpty = false ∧ ((s.extract i j).toList == []) = false := by
  have hz : (s.extract i j).size = j - i := by rw [ByteArray.size_extract]; omega
  have h1 : ¬ (s.extract i j).toList = [] := fun c => by
    rw [ba_toList] at c
    have : (s.extract i j).size = 0 := by show (s.extract i j).data.toList.length = 0; rw [c]; rfl
    omega
  exact ⟨h1, by simpa using h1, by simpa using h1⟩
theorem wp_mono5 {P : Program} {c : Code} {Q Q' : Exit → Act → World → Prop} {a : Act} {w : World} (h : ∀ e a w, Q e a w → Q' e a w) (hw : c.wp P Q a w) : c.wp P Q' a w := fun b k cs => by
  obtain ⟨e, a', w', hq, ha⟩ := hw b k cs
  exact ⟨e, a', w', h _ _ _ hq, ha⟩
theorem jumps_mono5 {J : Nat → Act → World → Prop} {μ : Nat → Act → Nat} {n m : Nat} {Q : Exit → Act → World → Prop} (h : n ≤ m) (e : Exit) (a : Act) (w : World) (hq : Exit.jumps (fun l a w => J l a w ∧ μ l a < n) Q e a w) : Exit.jumps (fun l a w => J l a w ∧ μ l a < m) Q e a w := by
  cases e with
  | goto l => exact ⟨hq.1, Nat.lt_of_lt_of_le hq.2 h⟩
  | normal => exact hq
  | exit id => exact hq
  | ret => exact hq
  | panic ch => exact hq
  | outgrown => exact hq
theorem ext_nil {s : ByteArray} (i : Nat) : s.extract i i = ⟨#[]⟩ := ba_eq (by rw [ba_ext, Nat.sub_self]; rfl)
set_option maxRecDepth 100000 in
set_option maxHeartbeats 4000000 in
theorem scan_4 (w : World) (s0 u : ByteArray) (g : Bool) (hS : S0 s0 u) (hz : u.size + 1 ≤ 9223372036854775807) (a : Act) (w' : World) (hJ : JZ w s0 u g a w') : ∃ rest, findLabel scanC 4 = some rest ∧ rest.wp Tryd.prog (Exit.jumps (fun l' a' w'' => JS w s0 u g l' a' w'' ∧ muS u l' a' < muS u 4 a) (bodyPost Tryd.prog Tryd.f34 (ScP u g w))) a w' := by
  refine ⟨_, rfl, ?_⟩
  obtain ⟨k, f, l, dg, pw, bh, hFr, hD, hk, hok, hfl⟩ := hJ
  obtain ⟨U, rfl, U0, U2, U3, U4, U5⟩ := hFr.ex
  rw [U0, U2, U3, U4, U5]
  clear U0 U2 U3 U4 U5 hFr
  obtain ⟨b0, ⟨c0, c1, c2, c3, c4⟩, z0, z1, z2, z3, z4⟩ := hD.box.facts
  have hsz := hS.sz
  generalize hQ : Exit.jumps _ _ = QQ
  have HQ := Lib.hid hQ
  have HD := Lib.hid hD
  have HS := Lib.hid hS
  clear hQ hD hS
  have hw : IntKind.i64.wrap ((s0.size : Int) - 1) = (u.size : Int) := by rw [IntWalk.i64_in _ ⟨by omega, by omega⟩]; omega
  have HO := Lib.hid hok
  have HF := Lib.hid hfl
  by_cases c : k = u.size
  · have q1 : ((k : Int) == (u.size : Int)) = true := by rw [beq_iff_eq]; omega
    have HC := Lib.hid c
    clear hok hfl hsz c hk
    go_wp2
    rw [← HQ.out]
    show bodyPost Tryd.prog Tryd.f34 (ScP u g w) Exit.ret _ _
    refine bodyPost_ret (v := .tuple #[.agg #[.bool g, .bool l, .string dg, .string pw, .int .i64 bh], .bool true]) (by simp [results, Tryd.results34, go_sem, c0, c1, c2, c3, c4, z0, z1, z2, z3, z4]) rfl (ScP.of ⟨fun _ => HO.out.1 HC.out, fun _ => rfl⟩ HF.out (below_put5 HD.out.low (Nat.le_refl _) _ _ _ _ _))
  · have q1 : ((k : Int) == (u.size : Int)) = false := by rw [beq_eq_false_iff_ne]; omega
    have HC := Lib.hid c
    clear hok hfl hsz c hk
    go_wp2
    rw [← HQ.out]
    show bodyPost Tryd.prog Tryd.f34 (ScP u g w) Exit.ret _ _
    refine bodyPost_ret (v := .tuple #[.agg #[.bool g, .bool l, .string dg, .string pw, .int .i64 bh], .bool false]) (by simp [results, Tryd.results34, go_sem, c0, c1, c2, c3, c4, z0, z1, z2, z3, z4]) rfl (ScP.of ⟨fun k => absurd k Bool.false_ne_true, fun k => absurd (HO.out.2 k) HC.out⟩ HF.out (below_put5 HD.out.low (Nat.le_refl _) _ _ _ _ _))
set_option maxRecDepth 100000 in
set_option maxHeartbeats 4000000 in
theorem scan_1 (w : World) (s0 u : ByteArray) (g : Bool) (hS : S0 s0 u) (hz : u.size + 1 ≤ 9223372036854775807) (a : Act) (w' : World) (hJ : JF w s0 u g a w') : ∃ rest, findLabel scanC 1 = some rest ∧ rest.wp Tryd.prog (Exit.jumps (fun l' a' w'' => JS w s0 u g l' a' w'' ∧ muS u l' a' < muS u 1 a) (bodyPost Tryd.prog Tryd.f34 (ScP u g w))) a w' := by
  refine ⟨_, rfl, ?_⟩
  obtain ⟨k, hFr, hD, hn48, hk⟩ := hJ
  obtain ⟨U, rfl, U0, U2, U3, U4, U5⟩ := hFr.ex
  rw [U0, U2, U3, U4, U5]
  clear U0 U2 U3 U4 U5 hFr
  obtain ⟨b0, ⟨c0, c1, c2, c3, c4⟩, z0, z1, z2, z3, z4⟩ := hD.box.facts
  have hsz := hS.sz
  generalize hQ : Exit.jumps _ _ = QQ
  have HQ := Lib.hid hQ
  have HD := Lib.hid hD
  have HS := Lib.hid hS
  clear hQ hD hS
  have hle : zN u ≤ u.size := by unfold zN; exact zE_le u 0 (Nat.zero_le _)
  have hk2 : k < s0.size := by omega
  have hdg := HS.out.dig 0 k (Nat.zero_le _) (Nat.zero_le _) (by unfold zN at hk; exact hk) hk2
  have H4 := Lib.hid hn48
  by_cases c : k < zN u
  · have hd : isDgB s0[k] = true := (hdg.1 (by unfold zN at c; exact c)).1
    clear hdg hn48
    go_wp2_with (first | (go_at_call 55; (with_reducible refine (PisDigit_c _ _).mono ?_); rintro ee w1 ⟨rfl, rfl⟩))
    go_step3
    rw [← HQ.out]
    refine ⟨(Or.inl ⟨rfl, k + 1, ⟨rfl, rfl, rfl, rfl, rfl, rfl, rfl⟩, HD.out, H4.out, by omega⟩), ?_⟩
    first | (simp [muS, rkL, atA]; done) | (simp [muS, rkL, atA]; omega)
  · have hd : isDgB s0[k] = false := hdg.2 (by unfold zN at hk c; omega)
    have hkn : k = zN u := by omega
    have HK := Lib.hid hkn
    clear hdg hn48 hkn
    go_wp2_with (first | (go_at_call 55; (with_reducible refine (PisDigit_c _ _).mono ?_); rintro ee w1 ⟨rfl, rfl⟩))
    go_step3
    rw [← HQ.out]
    refine ⟨(Or.inr (Or.inl ⟨rfl, k, ⟨rfl, rfl, rfl, rfl, rfl, rfl, rfl⟩, HD.out, Or.inr ⟨HK.out, H4.out⟩⟩)), ?_⟩
    first | (simp [muS, rkL, atA]; done) | (simp [muS, rkL, atA]; omega)
set_option maxRecDepth 100000 in
set_option maxHeartbeats 4000000 in
theorem scan_0 (w : World) (s0 u : ByteArray) (g : Bool) (hS : S0 s0 u) (hz : u.size + 1 ≤ 9223372036854775807) (a : Act) (w' : World) (hJ : JW w s0 u g a w') : ∃ rest, findLabel scanC 0 = some rest ∧ rest.wp Tryd.prog (Exit.jumps (fun l' a' w'' => JS w s0 u g l' a' w'' ∧ muS u l' a' < muS u 0 a) (bodyPost Tryd.prog Tryd.f34 (ScP u g w))) a w' := by
  refine ⟨_, rfl, ?_⟩
  obtain ⟨k, hFr, hD, hfacts⟩ := hJ
  obtain ⟨U, rfl, U0, U2, U3, U4, U5⟩ := hFr.ex
  rw [U0, U2, U3, U4, U5]
  clear U0 U2 U3 U4 U5 hFr
  obtain ⟨b0, ⟨c0, c1, c2, c3, c4⟩, z0, z1, z2, z3, z4⟩ := hD.box.facts
  have hsz := hS.sz
  generalize hQ : Exit.jumps _ _ = QQ
  have HQ := Lib.hid hQ
  have HD := Lib.hid hD
  have HS := Lib.hid hS
  clear hQ hD hS
  have hNl := zN_le u
  have hkl : k ≤ u.size := by rcases hfacts with ⟨h, h2, _⟩ | ⟨h, _⟩ <;> omega
  have hk2 : k < s0.size := by omega
  obtain ⟨dg, hdg⟩ : ∃ dg, dg = s0.extract 0 k := ⟨_, rfl⟩
  have hdg2 : dg = u.extract 0 k := hdg.trans (HS.out.ext _ _ hkl)
  have r0 : ∀ w, (Instr.slice 9 (.string s0) none (some (.int .i64 (k : Int))) none).run Tryd.prog w = .ok (.string dg) w := fun w => by
    have h := run_slice_string_h (P := Tryd.prog) w 9 s0 Tryd.underlying9 .i64 (k : Int) (by omega) (by omega)
    rw [Int.toNat_natCast, ← hdg] at h
    exact h
  have h46 := HS.out.byte k 46 (by decide) hkl hk2
  clear hdg
  by_cases ck : k = 0
  · have hno : ¬ zOk u := fun c => by rcases hfacts with ⟨h, _⟩ | ⟨h, _⟩; omega; have := c.1; omega
    have HN := Lib.hid hno
    have q0 : ((k : Int) == 0) = true := by rw [beq_iff_eq]; omega
    clear hno hfacts h46 hdg2 ck
    go_wp2_with (first | (go_at_call 55; (with_reducible refine (PisDigit_c _ _).mono ?_); rintro ee w1 ⟨rfl, rfl⟩))
    obtain ⟨-, ⟨y0, y1, y2, y3, y4⟩, -⟩ := ((((((HD.out.q2 dg).box.p0 (.bool false)).p1 (.bool false)).p2 (.string ⟨#[]⟩)).p3 (.string ⟨#[]⟩)).p4 (.int .i64 0)).facts
    rw [← HQ.out]
    show bodyPost Tryd.prog Tryd.f34 (ScP u g w) Exit.ret _ _
    refine bodyPost_ret (v := .tuple #[.agg #[.bool false, .bool false, .string ⟨#[]⟩, .string ⟨#[]⟩, .int .i64 0], .bool false]) (by simp [results, Tryd.results34, go_sem, y0, y1, y2, y3, y4]) rfl (ScP.no HN.out (below_put5 (HD.out.q2 dg).low (Nat.le_refl _) _ _ _ _ _))
  · have q0 : ((k : Int) == 0) = false := by rw [beq_eq_false_iff_ne]; omega
    have q0p := beq_eq_false_iff_ne.1 q0
    by_cases cb : k = zN u
    · have hH : 0 < zN u ∧ (zN u = 1 ∨ ¬ isAt u 0 48) := ⟨by omega, by rcases hfacts with ⟨h, _⟩ | ⟨_, h⟩; exact Or.inl (by omega); exact Or.inr h⟩
      have HH := Lib.hid hH
      have HK := Lib.hid cb
      have hdgN : dg = u.extract 0 (zN u) := by rw [hdg2, cb]
      by_cases hPt : zPt u = true
      · have hp1 := zPt_iff.1 hPt
        rw [← cb] at hp1
        obtain ⟨q1, hks⟩ := h46.1 hp1
        have q1n := bne_of5 q1
        obtain ⟨f, hf⟩ : ∃ f, f = zN u + 1 := ⟨_, rfl⟩
        have e1 : (k : Int) + 1 = (f : Int) := by omega
        have hf2 : f < s0.size := by omega
        have hdd := HS.out.dig f f (by omega) (Nat.le_refl _) (zE_ge u f) hf2
        have hMt := zM_t hPt
        rw [← hf] at hMt
        have HF := Lib.hid hf
        have HPt := Lib.hid hPt
        have hge := zE_ge u f
        have HS2 := Lib.hid hdgN
        by_cases cz : f < zE u f
        · have hd := (hdd.1 cz).1
          have HZ : Hid (f < zM u) := Lib.hid (by omega)
          clear hfacts h46 hp1 hdd hMt hPt hH cb hdg2 hdgN hge cz hf hks
          go_wp2_with (first | (go_at_call 55; (with_reducible refine (PisDigit_c _ _).mono ?_); rintro ee w1 ⟨rfl, rfl⟩))
          go_step3
          go_wp2_with (first | (go_at_call 55; (with_reducible refine (PisDigit_c _ _).mono ?_); rintro ee w1 ⟨rfl, rfl⟩))
          go_step3
          rw [← HQ.out]
          refine ⟨(Or.inr (Or.inr (Or.inl ⟨rfl, f + 1, (by rw [← HF.out]; exact ⟨rfl, rfl, rfl, rfl, rfl, rfl, rfl⟩), (by rw [← HS2.out]; exact HD.out.q2 dg), HPt.out, HH.out, by have := HF.out; omega, HZ.out⟩))), ?_⟩
          first | (simp [muS, rkL, atA]; done) | (simp [muS, rkL, atA]; omega)
        · have hd := hdd.2 (by omega)
          have hno : ¬ zOk u := fun c => by have := c.2.2.1 hPt; omega
          have HN := Lib.hid hno
          clear hfacts h46 hp1 hdd hMt hPt hH cb hdg2 hdgN hge cz hf hks hno
          go_wp2_with (first | (go_at_call 55; (with_reducible refine (PisDigit_c _ _).mono ?_); rintro ee w1 ⟨rfl, rfl⟩))
          go_step3
          go_wp2_with (first | (go_at_call 55; (with_reducible refine (PisDigit_c _ _).mono ?_); rintro ee w1 ⟨rfl, rfl⟩))
          obtain ⟨-, ⟨y0, y1, y2, y3, y4⟩, -⟩ := (((((((HD.out.q2 dg).q4 0).box.p0 (.bool false)).p1 (.bool false)).p2 (.string ⟨#[]⟩)).p3 (.string ⟨#[]⟩)).p4 (.int .i64 0)).facts
          rw [← HQ.out]
          show bodyPost Tryd.prog Tryd.f34 (ScP u g w) Exit.ret _ _
          refine bodyPost_ret (v := .tuple #[.agg #[.bool false, .bool false, .string ⟨#[]⟩, .string ⟨#[]⟩, .int .i64 0], .bool false]) (by simp [results, Tryd.results34, go_sem, y0, y1, y2, y3, y4]) rfl (ScP.no HN.out (below_put5 ((HD.out.q2 dg).q4 0).low (Nat.le_refl _) _ _ _ _ _))
      · have q1 := h46.2 (fun c => hPt (zPt_iff.2 (by rw [← cb]; exact c)))
        have q1n := bne_of5 q1
        obtain ⟨hD1, hB1⟩ := zD_f hPt
        have hMf := zM_f hPt
        have HP : Hid (k = zM u) := Lib.hid (by omega)
        have HPt := Lib.hid hPt
        have HB := Lib.hid hB1
        have HE := Lib.hid (hdgN.trans hD1.symm)
        clear hfacts h46 hPt hH cb hdg2 hdgN hD1 hB1 hMf
        go_wp2_with (first | (go_at_call 55; (with_reducible refine (PisDigit_c _ _).mono ?_); rintro ee w1 ⟨rfl, rfl⟩))
        go_step3
        rw [← HQ.out]
        refine ⟨(Or.inr (Or.inr (Or.inr (Or.inl ⟨rfl, k, _, _, _, ⟨rfl, rfl, rfl, rfl, rfl, rfl, rfl⟩, (HD.out.q2 dg), Or.inr ⟨HP.out, HH.out, fun c => absurd c HPt.out, HE.out, by rw [HB.out]; rfl⟩⟩)))), ?_⟩
        first | (simp [muS, rkL, atA]; done) | (simp [muS, rkL, atA]; omega)
    · obtain ⟨h1, h48⟩ : k = 1 ∧ isAt u 0 48 := by rcases hfacts with h | ⟨h, _⟩; exact h; exact absurd h cb
      obtain ⟨h49, h50⟩ := h48
      have h1N : 1 ≤ zN u := by
        refine Nat.not_lt.1 fun c => ?_
        have h2 : zE u 0 = 0 := by have := c; unfold zN at this; omega
        have h3 := zE_out u 0 (Nat.zero_le _) (by omega)
        have e : u[zE u 0]'(by omega) = u[0] := by congr 1
        rw [e] at h3
        unfold isDgB at h3
        have := of_decide_eq_false h3
        omega
      have hkz : k < u.size := by omega
      have hdig : isDgB u[k] = true := zE_in u 0 k (Nat.zero_le _) (by unfold zN at cb hNl h1N; omega) hkz
      have hno : ¬ zOk u := fun c => by rcases c.2.1 with h | h; omega; exact h ⟨h49, h50⟩
      have q1 : ((s0[k].toNat : Int) == 46) = false := by
        rw [HS.out.at_ k hkz hk2, beq_eq_false_iff_ne]
        have := of_decide_eq_true hdig
        omega
      have q1n := bne_of5 q1
      have HN : Hid (∃ h : k < u.size, isDgB u[k] = true ∧ ¬ zOk u) := Lib.hid ⟨hkz, hdig, hno⟩
      clear hfacts h46 hdg2 cb h1N hdig hno h50 h49 h1
      go_wp2_with (first | (go_at_call 55; (with_reducible refine (PisDigit_c _ _).mono ?_); rintro ee w1 ⟨rfl, rfl⟩))
      go_step3
      rw [← HQ.out]
      refine ⟨(Or.inr (Or.inr (Or.inr (Or.inl ⟨rfl, k, _, _, _, ⟨rfl, rfl, rfl, rfl, rfl, rfl, rfl⟩, (HD.out.q2 dg), Or.inl HN.out⟩)))), ?_⟩
      first | (simp [muS, rkL, atA]; done) | (simp [muS, rkL, atA]; omega)
set_option maxRecDepth 100000 in
set_option maxHeartbeats 4000000 in
theorem scan_2c (w : World) (s0 u : ByteArray) (g : Bool) (hS : S0 s0 u) (hz : u.size + 1 ≤ 9223372036854775807) (a : Act) (w' : World) (hJ : JE w s0 u g a w') : ∃ rest, findLabel scanC 2 = some (Code.skip.seq rest) ∧ rest.wp Tryd.prog (Exit.jumps (fun l' a' w'' => JS w s0 u g l' a' w'' ∧ muS u l' a' < muS u 2 a) (bodyPost Tryd.prog Tryd.f34 (ScP u g w))) a w' := by
  refine ⟨_, rfl, ?_⟩
  obtain ⟨k, f, dg, bh, hFr, hD, hfacts⟩ := hJ
  obtain ⟨U, rfl, U0, U2, U3, U4, U5⟩ := hFr.ex
  rw [U0, U2, U3, U4, U5]
  clear U0 U2 U3 U4 U5 hFr
  obtain ⟨b0, ⟨c0, c1, c2, c3, c4⟩, z0, z1, z2, z3, z4⟩ := hD.box.facts
  have hsz := hS.sz
  generalize hQ : Exit.jumps _ _ = QQ
  have HQ := Lib.hid hQ
  have HD := Lib.hid hD
  have HS := Lib.hid hS
  clear hQ hD hS
  rcases hfacts with ⟨hkz, hdig, hno⟩ | ⟨hk, hH, hP, rfl, rfl⟩
  · have hk2 : k < s0.size := by omega
    have q1 : ((s0[k].toNat : Int) == 101) = false := by
      rw [HS.out.at_ k hkz hk2, beq_eq_false_iff_ne]
      have := of_decide_eq_true hdig
      omega
    have q1n := bne_of5 q1
    have HN := Lib.hid hno
    have HZ : Hid (k < u.size) := Lib.hid hkz
    clear hno hdig
    go_wp2_with (first | (go_at_call 55; (with_reducible refine (PisDigit_c _ _).mono ?_); rintro ee w1 ⟨rfl, rfl⟩))
    go_step3
    rw [← HQ.out]
    refine ⟨(Or.inr (Or.inr (Or.inr (Or.inr (Or.inr (Or.inr ⟨rfl, k, _, _, _, _, _, ⟨rfl, rfl, rfl, rfl, rfl, rfl, rfl⟩, HD.out, Nat.le_of_lt HZ.out, ⟨fun c => absurd HZ.out (by omega), fun c => absurd c HN.out⟩, fun c => absurd c HN.out⟩)))))), ?_⟩
    first | (simp [muS, rkL, atA]; done) | (simp [muS, rkL, atA]; omega)
  · have hkle : k ≤ u.size := by rw [hk]; exact zM_le u
    have hk2 : k < s0.size := by omega
    have HK := Lib.hid hk
    have HH := Lib.hid hH
    have HP := Lib.hid hP
    have hb1 := HS.out.byte k 101 (by decide) hkle hk2
    skip
    by_cases hX : zX u = true
    · have hX1 := zX_iff.1 hX
      rw [← hk] at hX1
      obtain ⟨q1, hks⟩ := hb1.1 hX1
      have q1n := bne_of5 q1
      have HX := Lib.hid hX
      have hjl := zJ_le hX
      have hm2 : zJ u < s0.size := by omega
      have hzo := zOk_x hX hH hP
      have HZ := Lib.hid hzo
      have hb0 := HS.out.byte (zJ u) 48 (by decide) hjl hm2
      have hdg := HS.out.dig (zJ u) (zJ u) hjl (Nat.le_refl _) (zE_ge u (zJ u)) hm2
      have hge := zE_ge u (zJ u)
      have hEl := zE_le u (zJ u) hjl
      have r1 : ∀ w, (Instr.slice 9 (.string s0) (some (.int .i64 ((zJ u : Nat) : Int))) (some (.int .i64 ((zJ u : Nat) : Int))) none).run Tryd.prog w = .ok (.string ⟨#[]⟩) w := fun w => by
        have h := run_slice_string (P := Tryd.prog) w 9 s0 .i64 .i64 ((zJ u : Nat) : Int) ((zJ u : Nat) : Int) Tryd.underlying9 (by omega) (by omega) (by omega)
        rw [Int.toNat_natCast, ext_nil] at h
        exact h
      by_cases hL : zL u = true
      · obtain ⟨_, hL2⟩ := zL_iff.1 hL
        obtain ⟨j, hj⟩ : ∃ j, j = k + 1 := ⟨_, rfl⟩
        rw [← hk, ← hj] at hL2
        have hJ := zJ_t hL
        have hj2 : j < s0.size := by omega
        have hbj := HS.out.byte j 45 (by decide) (by omega) hj2
        obtain ⟨q2, hjs⟩ := hbj.1 hL2
        have e1 : (k : Int) + 1 = (j : Int) := by omega
        have e2 : (j : Int) + 1 = ((zJ u : Nat) : Int) := by omega
        have HL := Lib.hid hL
        by_cases h0 : isAt u (zJ u) 48
        · have q3 := (hb0.1 h0).1
          have HA := Lib.hid h0
          clear hb1 hb0 hdg hbj hX hX1 hzo hH hP hk hge hEl hL hL2 hJ hj h0
          go_wp2_with (first | (go_at_call 55; (with_reducible refine (PisDigit_c _ _).mono ?_); rintro ee w1 ⟨rfl, rfl⟩))
          obtain ⟨-, ⟨y0, y1, y2, y3, y4⟩, -⟩ := (((((((HD.out.q1 true)).box.p0 (.bool false)).p1 (.bool false)).p2 (.string ⟨#[]⟩)).p3 (.string ⟨#[]⟩)).p4 (.int .i64 0)).facts
          rw [← HQ.out]
          show bodyPost Tryd.prog Tryd.f34 (ScP u g w) Exit.ret _ _
          refine bodyPost_ret (v := .tuple #[.agg #[.bool false, .bool false, .string ⟨#[]⟩, .string ⟨#[]⟩, .int .i64 0], .bool false]) (by simp [results, Tryd.results34, go_sem, y0, y1, y2, y3, y4]) rfl (ScP.no (fun c => by have := ((HZ.out.1 c).2.2 HA.out).1; rw [HL.out] at this; cases this) (below_put5 (HD.out.q1 true).low (Nat.le_refl _) _ _ _ _ _))
        · have q3 := hb0.2 h0
          have q3p := beq_eq_false_iff_ne.1 q3
          have HA := Lib.hid h0
          by_cases cz : zJ u < zE u (zJ u)
          · have hd := (hdg.1 cz).1
            have HE := Lib.hid cz
            clear hb1 hb0 hdg hbj hX hX1 hzo hH hP hk hge hEl hL hL2 hJ hj h0 cz
            go_wp2_with (first | (go_at_call 55; (with_reducible refine (PisDigit_c _ _).mono ?_); rintro ee w1 ⟨rfl, rfl⟩))
            go_step3
            go_wp2_with (first | (go_at_call 55; (with_reducible refine (PisDigit_c _ _).mono ?_); rintro ee w1 ⟨rfl, rfl⟩))
            go_step3
            rw [← HQ.out]
            refine ⟨(Or.inr (Or.inr (Or.inr (Or.inr (Or.inl ⟨rfl, zJ u + 1, ⟨rfl, rfl, rfl, rfl, rfl, rfl, rfl⟩, (by rw [HL.out]; exact (HD.out.q1 true)), HX.out, HH.out, HP.out, HA.out, by omega, HE.out⟩))))), ?_⟩
            first | (simp [muS, rkL, atA]; done) | (simp [muS, rkL, atA]; omega)
          · have hd := hdg.2 (by omega)
            have hno : ¬ zOk u := fun c => by obtain ⟨a, b, _⟩ := hzo.1 c; omega
            have HN := Lib.hid hno
            clear hb1 hb0 hdg hbj hX hX1 hzo hH hP hk hge hEl hL hL2 hJ hj h0 cz hno
            go_wp2_with (first | (go_at_call 55; (with_reducible refine (PisDigit_c _ _).mono ?_); rintro ee w1 ⟨rfl, rfl⟩))
            go_step3
            go_wp2_with (first | (go_at_call 55; (with_reducible refine (PisDigit_c _ _).mono ?_); rintro ee w1 ⟨rfl, rfl⟩))
            go_step3
            go_wp2_with (first | (go_at_call 55; (with_reducible refine (PisDigit_c _ _).mono ?_); rintro ee w1 ⟨rfl, rfl⟩))
            obtain ⟨-, ⟨y0, y1, y2, y3, y4⟩, -⟩ := (((((((HD.out.q1 true).q3 ⟨#[]⟩).box.p0 (.bool false)).p1 (.bool false)).p2 (.string ⟨#[]⟩)).p3 (.string ⟨#[]⟩)).p4 (.int .i64 0)).facts
            rw [← HQ.out]
            show bodyPost Tryd.prog Tryd.f34 (ScP u g w) Exit.ret _ _
            refine bodyPost_ret (v := .tuple #[.agg #[.bool false, .bool false, .string ⟨#[]⟩, .string ⟨#[]⟩, .int .i64 0], .bool false]) (by simp [results, Tryd.results34, go_sem, y0, y1, y2, y3, y4]) rfl (ScP.no HN.out (below_put5 ((HD.out.q1 true).q3 ⟨#[]⟩).low (Nat.le_refl _) _ _ _ _ _))
      · have hJ := zJ_f hL
        have hbj := HS.out.byte (zJ u) 45 (by decide) hjl hm2
        have q2 := hbj.2 (fun c => hL (zL_iff.2 ⟨zX_iff.1 hX, by rw [← hJ]; exact c⟩))
        have e1 : (k : Int) + 1 = ((zJ u : Nat) : Int) := by omega
        have HL := Lib.hid (Bool.eq_false_iff.2 hL)
        by_cases h0 : isAt u (zJ u) 48
        · have q3 := (hb0.1 h0).1
          have HA := Lib.hid h0
          clear hb1 hb0 hdg hbj hX hX1 hzo hH hP hk hge hEl hL hJ h0
          go_wp2_with (first | (go_at_call 55; (with_reducible refine (PisDigit_c _ _).mono ?_); rintro ee w1 ⟨rfl, rfl⟩))
          go_step3
          rw [← HQ.out]
          refine ⟨(Or.inr (Or.inr (Or.inr (Or.inr (Or.inr (Or.inl ⟨rfl, zJ u + 1, ⟨rfl, rfl, rfl, rfl, rfl, rfl, rfl⟩, (by rw [HL.out]; exact (HD.out.q1 false)), HX.out, HL.out, HH.out, HP.out, HA.out, rfl⟩)))))), ?_⟩
          first | (simp [muS, rkL, atA]; done) | (simp [muS, rkL, atA]; omega)
        · have q3 := hb0.2 h0
          have q3p := beq_eq_false_iff_ne.1 q3
          have HA := Lib.hid h0
          by_cases cz : zJ u < zE u (zJ u)
          · have hd := (hdg.1 cz).1
            have HE := Lib.hid cz
            clear hb1 hb0 hdg hbj hX hX1 hzo hH hP hk hge hEl hL hJ h0 cz
            go_wp2_with (first | (go_at_call 55; (with_reducible refine (PisDigit_c _ _).mono ?_); rintro ee w1 ⟨rfl, rfl⟩))
            go_step3
            go_wp2_with (first | (go_at_call 55; (with_reducible refine (PisDigit_c _ _).mono ?_); rintro ee w1 ⟨rfl, rfl⟩))
            go_step3
            rw [← HQ.out]
            refine ⟨(Or.inr (Or.inr (Or.inr (Or.inr (Or.inl ⟨rfl, zJ u + 1, ⟨rfl, rfl, rfl, rfl, rfl, rfl, rfl⟩, (by rw [HL.out]; exact (HD.out.q1 false)), HX.out, HH.out, HP.out, HA.out, by omega, HE.out⟩))))), ?_⟩
            first | (simp [muS, rkL, atA]; done) | (simp [muS, rkL, atA]; omega)
          · have hd := hdg.2 (by omega)
            have hno : ¬ zOk u := fun c => by obtain ⟨a, b, _⟩ := hzo.1 c; omega
            have HN := Lib.hid hno
            clear hb1 hb0 hdg hbj hX hX1 hzo hH hP hk hge hEl hL hJ h0 cz hno
            go_wp2_with (first | (go_at_call 55; (with_reducible refine (PisDigit_c _ _).mono ?_); rintro ee w1 ⟨rfl, rfl⟩))
            go_step3
            go_wp2_with (first | (go_at_call 55; (with_reducible refine (PisDigit_c _ _).mono ?_); rintro ee w1 ⟨rfl, rfl⟩))
            go_step3
            go_wp2_with (first | (go_at_call 55; (with_reducible refine (PisDigit_c _ _).mono ?_); rintro ee w1 ⟨rfl, rfl⟩))
            obtain ⟨-, ⟨y0, y1, y2, y3, y4⟩, -⟩ := (((((((HD.out.q1 false).q3 ⟨#[]⟩).box.p0 (.bool false)).p1 (.bool false)).p2 (.string ⟨#[]⟩)).p3 (.string ⟨#[]⟩)).p4 (.int .i64 0)).facts
            rw [← HQ.out]
            show bodyPost Tryd.prog Tryd.f34 (ScP u g w) Exit.ret _ _
            refine bodyPost_ret (v := .tuple #[.agg #[.bool false, .bool false, .string ⟨#[]⟩, .string ⟨#[]⟩, .int .i64 0], .bool false]) (by simp [results, Tryd.results34, go_sem, y0, y1, y2, y3, y4]) rfl (ScP.no HN.out (below_put5 ((HD.out.q1 false).q3 ⟨#[]⟩).low (Nat.le_refl _) _ _ _ _ _))
    · have q1 := hb1.2 (fun c => hX (zX_iff.2 (by rw [← hk]; exact c)))
      have q1n := bne_of5 q1
      have HX := Lib.hid hX
      have HL : Hid (k ≤ u.size) := Lib.hid hkle
      clear hb1 hX hH hP hk
      go_wp2_with (first | (go_at_call 55; (with_reducible refine (PisDigit_c _ _).mono ?_); rintro ee w1 ⟨rfl, rfl⟩))
      go_step3
      rw [← HQ.out]
      refine ⟨(Or.inr (Or.inr (Or.inr (Or.inr (Or.inr (Or.inr ⟨rfl, k, _, _, _, _, _, ⟨rfl, rfl, rfl, rfl, rfl, rfl, rfl⟩, HD.out, HL.out, (by rw [HK.out]; exact zOk_n HX.out HH.out HP.out), fun _ => ⟨(zL_n HX.out).symm, rfl, (zP_f HX.out).symm, rfl⟩⟩)))))), ?_⟩
      first | (simp [muS, rkL, atA]; done) | (simp [muS, rkL, atA]; omega)
theorem scan_2 (w : World) (s0 u : ByteArray) (g : Bool) (hS : S0 s0 u) (hz : u.size + 1 ≤ 9223372036854775807) (a : Act) (w' : World) (hJ : JE w s0 u g a w') : ∃ rest, findLabel scanC 2 = some rest ∧ rest.wp Tryd.prog (Exit.jumps (fun l' a' w'' => JS w s0 u g l' a' w'' ∧ muS u l' a' < muS u 2 a) (bodyPost Tryd.prog Tryd.f34 (ScP u g w))) a w' := by
  obtain ⟨rest, h1, h2⟩ := scan_2c w s0 u g hS hz a w' hJ
  exact ⟨_, h1, wp_seq (wp_skip h2)⟩
theorem scan_2r (w : World) (s0 u : ByteArray) (g : Bool) (hS : S0 s0 u) (hz : u.size + 1 ≤ 9223372036854775807) (rest : Code) (hr : findLabel scanC 2 = some (Code.skip.seq rest)) (a : Act) (w' : World) (hJ : JE w s0 u g a w') : rest.wp Tryd.prog (Exit.jumps (fun l' a' w'' => JS w s0 u g l' a' w'' ∧ muS u l' a' < muS u 2 a) (bodyPost Tryd.prog Tryd.f34 (ScP u g w))) a w' := by
  obtain ⟨rest', h1, h2⟩ := scan_2c w s0 u g hS hz a w' hJ
  have h3 := Option.some.inj (hr.symm.trans h1)
  obtain rfl : rest = rest' := by injection h3
  exact h2
set_option maxRecDepth 100000 in
set_option maxHeartbeats 4000000 in
theorem scan_3 (w : World) (s0 u : ByteArray) (g : Bool) (hS : S0 s0 u) (hz : u.size + 1 ≤ 9223372036854775807) (a : Act) (w' : World) (hJ : JP w s0 u g a w') : ∃ rest, findLabel scanC 3 = some rest ∧ rest.wp Tryd.prog (Exit.jumps (fun l' a' w'' => JS w s0 u g l' a' w'' ∧ muS u l' a' < muS u 3 a) (bodyPost Tryd.prog Tryd.f34 (ScP u g w))) a w' := by
  refine ⟨_, rfl, ?_⟩
  obtain ⟨k, hFr, hD, hPt, hH, hk1, hk0⟩ := hJ
  obtain ⟨U, rfl, U0, U2, U3, U4, U5⟩ := hFr.ex
  rw [U0, U2, U3, U4, U5]
  clear U0 U2 U3 U4 U5 hFr
  obtain ⟨b0, ⟨c0, c1, c2, c3, c4⟩, z0, z1, z2, z3, z4⟩ := hD.box.facts
  have hsz := hS.sz
  generalize hQ : Exit.jumps _ _ = QQ
  have HQ := Lib.hid hQ
  have HD := Lib.hid hD
  have HS := Lib.hid hS
  clear hQ hD hS
  have hps : zN u < u.size := by obtain ⟨h, _⟩ := zPt_iff.1 hPt; exact h
  have hMt := zM_t hPt
  have hMl := zM_le u
  have hk2 : k < s0.size := by omega
  have hdg := HS.out.dig (zN u + 1) k hps (by omega) (by omega) hk2
  have HPt := Lib.hid hPt
  have HHd := Lib.hid hH
  by_cases cm : k < zM u
  · have hd := (hdg.1 (by omega)).1
    clear hdg hPt hMt hps hH
    go_wp2_with (first | (go_at_call 55; (with_reducible refine (PisDigit_c _ _).mono ?_); rintro ee w1 ⟨rfl, rfl⟩))
    go_step3
    rw [← HQ.out]
    refine ⟨(Or.inr (Or.inr (Or.inl ⟨rfl, k + 1, ⟨rfl, rfl, rfl, rfl, rfl, rfl, rfl⟩, HD.out, HPt.out, HHd.out, by omega, by omega⟩))), ?_⟩
    first | (simp [muS, rkL, atA]; done) | (simp [muS, rkL, atA]; omega)
  · have hd := hdg.2 (by omega)
    have hk : k = zM u := by omega
    have hP : zPt u = true → zN u + 1 < zM u := fun _ => by omega
    obtain ⟨hD1, hB1⟩ := zD_t hPt
    obtain ⟨f, hf⟩ : ∃ f, f = zN u + 1 := ⟨_, rfl⟩
    rw [← hf]
    rw [← hf] at hB1 hD1
    have e0 : (k : Int) - (f : Int) = ((zB u : Nat) : Int) := by omega
    have q0 : (((zB u : Nat) : Int) == 0) = false := by rw [beq_eq_false_iff_ne]; omega
    have q0p := beq_eq_false_iff_ne.1 q0
    obtain ⟨pt, hpt⟩ : ∃ pt, pt = s0.extract f k := ⟨_, rfl⟩
    have hpt2 : pt = u.extract f (zM u) := by rw [hpt, hk]; exact HS.out.ext _ _ hMl
    have r0 : ∀ w, (Instr.slice 9 (.string s0) (some (.int .i64 ((f : Nat) : Int))) (some (.int .i64 ((k : Nat) : Int))) none).run Tryd.prog w = .ok (.string pt) w := fun w => by
      have h := run_slice_string (P := Tryd.prog) w 9 s0 .i64 .i64 ((f : Nat) : Int) ((k : Nat) : Int) Tryd.underlying9 (by omega) (by omega) (by omega)
      rw [Int.toNat_natCast, Int.toNat_natCast, ← hpt] at h
      exact h
    have hz0 : (u.extract 0 (zN u)).size + pt.size ≤ 9223372036854775807 := by rw [hpt2, ByteArray.size_extract, ByteArray.size_extract]; omega
    have hcat : u.extract 0 (zN u) ++ pt = zD u := by rw [hD1, hpt2]
    obtain ⟨A0, hA0⟩ : ∃ A0, A0 = u.extract 0 (zN u) := ⟨_, rfl⟩
    rw [← hA0] at hcat hz0 c2 HD
    clear hA0 hpt hpt2 hD1
    have hz1 : ¬ 9223372036854775807 < A0.size + pt.size := by omega
    clear hdg hPt hMt hps hB1 hz0 hk0 hk1 cm hf
    have HK := Lib.hid hk
    have HH := Lib.hid hH
    have HP := Lib.hid hP
    clear hk hH hP
    go_upto_region 19 with (first | (go_at_call 55; (with_reducible refine (PisDigit_c _ _).mono ?_); rintro ee w1 ⟨rfl, rfl⟩))
    go_region
    go_wp2_with (first | (go_at_call 55; (with_reducible refine (PisDigit_c _ _).mono ?_); rintro ee w1 ⟨rfl, rfl⟩))
    have HD3 := Lib.hid (((HD.out.q4 ((zB u : Nat) : Int)).q2 (zD u)).step (Below.refl _ _).drew)
    go_step3
    simp only [Exit.then]
    apply_assumption
    rw [← HQ.out]
    refine wp_mono5 (jumps_mono5 ?hm) (scan_2r w s0 u g HS.out hz _ rfl _ _ ?hJ)
    case hJ => exact ⟨k, _, zD u, ((zB u : Nat) : Int), ⟨rfl, rfl, rfl, rfl, rfl, rfl, rfl⟩, HD3.out, Or.inr ⟨HK.out, HH.out, HP.out, rfl, rfl⟩⟩
    case hm => first | (simp [muS, rkL, atA]; done) | (simp [muS, rkL, atA]; omega)
set_option maxRecDepth 100000 in
set_option maxHeartbeats 4000000 in
theorem scan_6 (w : World) (s0 u : ByteArray) (g : Bool) (hS : S0 s0 u) (hz : u.size + 1 ≤ 9223372036854775807) (a : Act) (w' : World) (hJ : JM w s0 u g a w') : ∃ rest, findLabel scanC 6 = some rest ∧ rest.wp Tryd.prog (Exit.jumps (fun l' a' w'' => JS w s0 u g l' a' w'' ∧ muS u l' a' < muS u 6 a) (bodyPost Tryd.prog Tryd.f34 (ScP u g w))) a w' := by
  refine ⟨_, rfl, ?_⟩
  obtain ⟨k, hFr, hD, hX, hH, hP, h48, hk1, hk⟩ := hJ
  obtain ⟨U, rfl, U0, U2, U3, U4, U5⟩ := hFr.ex
  rw [U0, U2, U3, U4, U5]
  clear U0 U2 U3 U4 U5 hFr
  obtain ⟨b0, ⟨c0, c1, c2, c3, c4⟩, z0, z1, z2, z3, z4⟩ := hD.box.facts
  have hsz := hS.sz
  generalize hQ : Exit.jumps _ _ = QQ
  have HQ := Lib.hid hQ
  have HD := Lib.hid hD
  have HS := Lib.hid hS
  clear hQ hD hS
  have hj := zJ_le hX
  have hle := zE_le u (zJ u) hj
  have hk2 : k < s0.size := by omega
  have hdg := HS.out.dig (zJ u) k hj (by omega) hk hk2
  have HX := Lib.hid hX
  have HH := Lib.hid hH
  have HP := Lib.hid hP
  have H4 := Lib.hid h48
  clear hX hH hP h48
  by_cases c : k < zE u (zJ u)
  · have hd : isDgB s0[k] = true := (hdg.1 c).1
    clear hdg
    go_wp2_with (first | (go_at_call 55; (with_reducible refine (PisDigit_c _ _).mono ?_); rintro ee w1 ⟨rfl, rfl⟩))
    go_step3
    rw [← HQ.out]
    refine ⟨(Or.inr (Or.inr (Or.inr (Or.inr (Or.inl ⟨rfl, k + 1, ⟨rfl, rfl, rfl, rfl, rfl, rfl, rfl⟩, HD.out, HX.out, HH.out, HP.out, H4.out, by omega, by omega⟩))))), ?_⟩
    first | (simp [muS, rkL, atA]; done) | (simp [muS, rkL, atA]; omega)
  · have hd : isDgB s0[k] = false := hdg.2 (by omega)
    have hkE : k = zE u (zJ u) := by omega
    obtain ⟨pw, hpw⟩ : ∃ pw, pw = s0.extract (zJ u) (k) := ⟨_, rfl⟩
    have hfull := ext_full (s := s0) (i := zJ u) (j := k) (by omega) (by omega)
    have hext : pw = u.extract (zJ u) (k) := hpw.trans (HS.out.ext _ _ (by omega))
    rw [← hpw] at hfull
    obtain ⟨f1, f2, f3⟩ := hfull
    have hw : IntKind.i64.wrap ((s0.size : Int) - 1) = (u.size : Int) := by rw [IntWalk.i64_in _ ⟨by omega, by omega⟩]; omega
    have r1 : ∀ w, (Instr.slice 9 (.string s0) (some (.int .i64 ((zJ u : Nat) : Int))) (some (.int .i64 ((k : Nat) : Int))) none).run Tryd.prog w = .ok (.string pw) w := fun w => by
      have h := run_slice_string (P := Tryd.prog) w 9 s0 .i64 .i64 ((zJ u : Nat) : Int) ((k : Nat) : Int) Tryd.underlying9 (by omega) (by omega) (by omega)
      rw [Int.toNat_natCast, Int.toNat_natCast, ← hpw] at h
      exact h
    have HE := Lib.hid hkE
    have HT := Lib.hid hext
    have hz2 := zOk_x HX.out HH.out HP.out
    have HZ := Lib.hid hz2
    have HJ : Hid (zJ u < k) := Lib.hid hk1
    by_cases ce : k = u.size
    · have q1 : ((k : Int) == (u.size : Int)) = true := by rw [beq_iff_eq]; omega
      have HC := Lib.hid ce
      clear hdg hkE hpw hext hz2 hle hj c ce hk hk1 hsz
      go_wp2_with (first | (go_at_call 55; (with_reducible refine (PisDigit_c _ _).mono ?_); rintro ee w1 ⟨rfl, rfl⟩))
      go_step3
      go_wp2_with (first | (go_at_call 55; (with_reducible refine (PisDigit_c _ _).mono ?_); rintro ee w1 ⟨rfl, rfl⟩))
      go_step3
      go_wp2_with (first | (go_at_call 55; (with_reducible refine (PisDigit_c _ _).mono ?_); rintro ee w1 ⟨rfl, rfl⟩))
      rw [← HQ.out]
      show bodyPost Tryd.prog Tryd.f34 (ScP u g w) Exit.ret _ _
      refine bodyPost_ret (v := .tuple #[.agg #[.bool g, .bool (zL u), .string (zD u), .string pw, .int .i64 (zB u : Int)], .bool true]) (by simp [results, Tryd.results34, go_sem, c0, c1, c2, c3, c4, z0, z1, z2, z3, z4]) rfl (ScP.of ⟨fun _ => HZ.out.2 ⟨by have := HJ.out; have := HC.out; omega, HE.out.symm.trans HC.out, fun c => absurd c H4.out⟩, fun _ => rfl⟩ (fun _ => ⟨rfl, rfl, by rw [HT.out, HC.out, zP_t HX.out], rfl⟩) (below_put5 (HD.out.q3 pw).low (Nat.le_refl _) _ _ _ _ _))
    · have q1 : ((k : Int) == (u.size : Int)) = false := by rw [beq_eq_false_iff_ne]; omega
      have HC := Lib.hid ce
      clear hdg hkE hpw hext hz2 hle hj c ce hk hk1 hsz
      go_wp2_with (first | (go_at_call 55; (with_reducible refine (PisDigit_c _ _).mono ?_); rintro ee w1 ⟨rfl, rfl⟩))
      go_step3
      go_wp2_with (first | (go_at_call 55; (with_reducible refine (PisDigit_c _ _).mono ?_); rintro ee w1 ⟨rfl, rfl⟩))
      go_step3
      go_wp2_with (first | (go_at_call 55; (with_reducible refine (PisDigit_c _ _).mono ?_); rintro ee w1 ⟨rfl, rfl⟩))
      rw [← HQ.out]
      show bodyPost Tryd.prog Tryd.f34 (ScP u g w) Exit.ret _ _
      refine bodyPost_ret (v := .tuple #[.agg #[.bool g, .bool (zL u), .string (zD u), .string pw, .int .i64 (zB u : Int)], .bool false]) (by simp [results, Tryd.results34, go_sem, c0, c1, c2, c3, c4, z0, z1, z2, z3, z4]) rfl (ScP.no (fun c => HC.out (HE.out.trans (HZ.out.1 c).2.1)) (below_put5 (HD.out.q3 pw).low (Nat.le_refl _) _ _ _ _ _))
set_option maxRecDepth 100000 in
set_option maxHeartbeats 4000000 in
theorem scan_5 (w : World) (s0 u : ByteArray) (g : Bool) (hS : S0 s0 u) (hz : u.size + 1 ≤ 9223372036854775807) (a : Act) (w' : World) (hJ : JD w s0 u g a w') : ∃ rest, findLabel scanC 5 = some rest ∧ rest.wp Tryd.prog (Exit.jumps (fun l' a' w'' => JS w s0 u g l' a' w'' ∧ muS u l' a' < muS u 5 a) (bodyPost Tryd.prog Tryd.f34 (ScP u g w))) a w' := by
  refine ⟨_, rfl, ?_⟩
  obtain ⟨k, hFr, hD, hX, hL, hH, hP, h48, hk⟩ := hJ
  obtain ⟨U, rfl, U0, U2, U3, U4, U5⟩ := hFr.ex
  rw [U0, U2, U3, U4, U5]
  clear U0 U2 U3 U4 U5 hFr
  obtain ⟨b0, ⟨c0, c1, c2, c3, c4⟩, z0, z1, z2, z3, z4⟩ := hD.box.facts
  have hsz := hS.sz
  generalize hQ : Exit.jumps _ _ = QQ
  have HQ := Lib.hid hQ
  have HD := Lib.hid hD
  have HS := Lib.hid hS
  clear hQ hD hS
  have hj := zJ_le hX
  obtain ⟨hj1, hj2⟩ := h48
  have hz2 := zOk_x hX hH hP
  have hE : zJ u + 1 = u.size → zE u (zJ u) = u.size := fun h => by
    have h1 := zE_le u (zJ u) hj
    have h2 := zE_ge u (zJ u)
    refine Classical.not_not.1 fun c => ?_
    have h3 : zE u (zJ u) = zJ u := by omega
    have h4 := zE_out u (zJ u) hj (by omega)
    have e : u[zE u (zJ u)]'(by omega) = u[zJ u] := by congr 1
    rw [e] at h4
    unfold isDgB at h4
    have := of_decide_eq_false h4
    omega
  have hok : k = u.size ↔ zOk u := by
    rw [hk, hz2]
    exact ⟨fun h => ⟨hj1, hE h, fun _ => ⟨hL, by omega⟩⟩, fun h => ((h.2.2 ⟨hj1, hj2⟩).2).symm⟩
  obtain ⟨pw, hpw⟩ : ∃ pw, pw = s0.extract (zJ u) (k) := ⟨_, rfl⟩
  have hfull := ext_full (s := s0) (i := zJ u) (j := k) (by omega) (by omega)
  have hext : pw = u.extract (zJ u) (k) := hpw.trans (HS.out.ext _ _ (by omega))
  rw [← hpw] at hfull
  obtain ⟨f1, f2, f3⟩ := hfull
  have hw : IntKind.i64.wrap ((s0.size : Int) - 1) = (u.size : Int) := by rw [IntWalk.i64_in _ ⟨by omega, by omega⟩]; omega
  have r1 : ∀ w, (Instr.slice 9 (.string s0) (some (.int .i64 ((zJ u : Nat) : Int))) (some (.int .i64 ((k : Nat) : Int))) none).run Tryd.prog w = .ok (.string pw) w := fun w => by
    have h := run_slice_string (P := Tryd.prog) w 9 s0 .i64 .i64 ((zJ u : Nat) : Int) ((k : Nat) : Int) Tryd.underlying9 (by omega) (by omega) (by omega)
    rw [Int.toNat_natCast, Int.toNat_natCast, ← hpw] at h
    exact h
  have HO := Lib.hid hok
  have HX := Lib.hid hX
  have HT := Lib.hid hext
  clear hpw hext hz2 hE hok hH hP hL hX hj2
  have HK := Lib.hid hk
  by_cases ce : k = u.size
  · have q1 : ((k : Int) == (u.size : Int)) = true := by rw [beq_iff_eq]; omega
    have HC := Lib.hid ce
    clear ce hj hj1 hsz hk
    go_wp2_with (first | (go_at_call 55; (with_reducible refine (PisDigit_c _ _).mono ?_); rintro ee w1 ⟨rfl, rfl⟩))
    go_step3
    go_wp2_with (first | (go_at_call 55; (with_reducible refine (PisDigit_c _ _).mono ?_); rintro ee w1 ⟨rfl, rfl⟩))
    rw [← HQ.out]
    show bodyPost Tryd.prog Tryd.f34 (ScP u g w) Exit.ret _ _
    refine bodyPost_ret (v := .tuple #[.agg #[.bool g, .bool (zL u), .string (zD u), .string pw, .int .i64 (zB u : Int)], .bool true]) (by simp [results, Tryd.results34, go_sem, c0, c1, c2, c3, c4, z0, z1, z2, z3, z4]) rfl (ScP.of ⟨fun _ => HO.out.1 HC.out, fun _ => rfl⟩ (fun _ => ⟨rfl, rfl, by rw [HT.out, HC.out, zP_t HX.out], rfl⟩) (below_put5 (HD.out.q3 pw).low (Nat.le_refl _) _ _ _ _ _))
  · have q1 : ((k : Int) == (u.size : Int)) = false := by rw [beq_eq_false_iff_ne]; omega
    have HC := Lib.hid ce
    clear ce hj hj1 hsz hk
    go_wp2_with (first | (go_at_call 55; (with_reducible refine (PisDigit_c _ _).mono ?_); rintro ee w1 ⟨rfl, rfl⟩))
    go_step3
    go_wp2_with (first | (go_at_call 55; (with_reducible refine (PisDigit_c _ _).mono ?_); rintro ee w1 ⟨rfl, rfl⟩))
    rw [← HQ.out]
    show bodyPost Tryd.prog Tryd.f34 (ScP u g w) Exit.ret _ _
    refine bodyPost_ret (v := .tuple #[.agg #[.bool g, .bool (zL u), .string (zD u), .string pw, .int .i64 (zB u : Int)], .bool false]) (by simp [results, Tryd.results34, go_sem, c0, c1, c2, c3, c4, z0, z1, z2, z3, z4]) rfl (ScP.no (fun c => HC.out (HO.out.2 c)) (below_put5 (HD.out.q3 pw).low (Nat.le_refl _) _ _ _ _ _))
end Go.Proofs.YtajcapliokblfaaDoor
namespace Go.Proofs.YtajcapliokblfaaDoor
open Go Go.RowKit Nt
theorem DB.start (w : World) (T : TypeId) : DB w false false ⟨#[]⟩ ⟨#[]⟩ 0 (w.alloc (.cells #[.bool false, .bool false, .string ⟨#[]⟩, .string ⟨#[]⟩, .int .i64 0] T)) := ⟨(Below.refl _ _).alloc (Nat.le_refl _) _, Bx5.new w _ _ _ _ _ T⟩
set_option maxRecDepth 100000 in
set_option maxHeartbeats 4000000 in
theorem scan_c (s : ByteArray) (w : World) (hs : s.size + 1 ≤ 9223372036854775807) : Calls Tryd.prog 34 #[.string s] w (ScP (offB 45 s) (begB 45 s) w) := by
  have K : Hid (∀ w, Calls Tryd.prog 31 #[.string s, .string ⟨#[45]⟩] w fun e w' => e = .returned (.tuple #[.string (offB 45 s), .bool (begB 45 s)]) ∧ Below w.heap.size w w') := Lib.hid fun w => PCutPrefix_c 45 s w
  have hz : (offB 45 s).size + 1 ≤ 9223372036854775807 := by have := offB_size 45 s; omega
  generalize offB 45 s = u at *
  generalize begB 45 s = g at *
  clear hs
  have hS0 := s0_of u
  obtain ⟨s0, hs0⟩ : ∃ s0, s0 = u ++ ⟨#[0]⟩ := ⟨_, rfl⟩
  rw [← hs0] at hS0
  have hcat : u ++ ⟨#[0]⟩ = s0 := hs0.symm
  clear hs0
  have hsz := hS0.sz
  have HS := Lib.hid hS0
  have h1 : (ByteArray.mk #[0]).size = 1 := rfl
  have hz1 : ¬ 9223372036854775807 < u.size + (ByteArray.mk #[0]).size := by rw [h1]; omega
  have hz2 : ¬ 9223372036854775807 < u.size + 1 := by omega
  have T0 := DB.start w 60
  have hb1 := HS.out.byte 0 48 (by decide) (Nat.zero_le _) (by omega)
  have hdg := HS.out.dig 0 0 (Nat.zero_le _) (Nat.le_refl _) (zE_ge u 0) (by omega)
  have hk2 : 0 < s0.size := by omega
  clear hS0 h1
  go_enter Tryd.func34, Tryd.ntmps34
  go_wp2
  refine wp_scope_labels (JS w s0 u g) (fun l a _ => muS u l a) ?first ?pass
  case pass =>
    intro l a w' h
    rcases h with ⟨rfl, h⟩ | ⟨rfl, h⟩ | ⟨rfl, h⟩ | ⟨rfl, h⟩ | ⟨rfl, h⟩ | ⟨rfl, h⟩ | ⟨rfl, h⟩
    · exact scan_1 w s0 u g HS.out hz a w' h
    · exact scan_0 w s0 u g HS.out hz a w' h
    · exact scan_3 w s0 u g HS.out hz a w' h
    · exact scan_2 w s0 u g HS.out hz a w' h
    · exact scan_6 w s0 u g HS.out hz a w' h
    · exact scan_5 w s0 u g HS.out hz a w' h
    · exact scan_4 w s0 u g HS.out hz a w' h
  case first =>
    generalize hQ : Exit.jumps _ _ = QQ
    have HQ := Lib.hid hQ
    clear hQ
    by_cases h0 : isAt u 0 48
    · have q1 := (hb1.1 h0).1
      have HA := Lib.hid h0
      clear hb1 hdg h0
      go_wp2_with (first | (go_at_call 31; (with_reducible refine (K.out _).mono ?_); rintro ee w1 ⟨rfl, hb⟩; replace T0 := T0.step hb; clear hb; obtain ⟨b0, ⟨c0, c1, c2, c3, c4⟩, z0, z1, z2, z3, z4⟩ := T0.box.facts) | (go_at_call 55; (with_reducible refine (PisDigit_c _ _).mono ?_); rintro ee w1 ⟨rfl, rfl⟩))
      go_step3
      rw [← HQ.out]
      exact (Or.inr (Or.inl ⟨rfl, 1, ⟨rfl, rfl, rfl, rfl, rfl, rfl, rfl⟩, T0.q0 g, Or.inl ⟨rfl, HA.out⟩⟩))
    · have q1 := hb1.2 h0
      have q1p := beq_eq_false_iff_ne.1 q1
      have HA := Lib.hid h0
      by_cases cz : 0 < zE u 0
      · have hd := (hdg.1 cz).1
        have HZ : Hid (1 ≤ zN u) := Lib.hid (by unfold zN; omega)
        clear hb1 hdg h0 cz
        go_wp2_with (first | (go_at_call 31; (with_reducible refine (K.out _).mono ?_); rintro ee w1 ⟨rfl, hb⟩; replace T0 := T0.step hb; clear hb; obtain ⟨b0, ⟨c0, c1, c2, c3, c4⟩, z0, z1, z2, z3, z4⟩ := T0.box.facts) | (go_at_call 55; (with_reducible refine (PisDigit_c _ _).mono ?_); rintro ee w1 ⟨rfl, rfl⟩))
        go_step3
        go_wp2_with (first | (go_at_call 31; (with_reducible refine (K.out _).mono ?_); rintro ee w1 ⟨rfl, hb⟩; replace T0 := T0.step hb; clear hb; obtain ⟨b0, ⟨c0, c1, c2, c3, c4⟩, z0, z1, z2, z3, z4⟩ := T0.box.facts) | (go_at_call 55; (with_reducible refine (PisDigit_c _ _).mono ?_); rintro ee w1 ⟨rfl, rfl⟩))
        go_step3
        rw [← HQ.out]
        exact (Or.inl ⟨rfl, 1, ⟨rfl, rfl, rfl, rfl, rfl, rfl, rfl⟩, T0.q0 g, HA.out, HZ.out⟩)
      · have hd := hdg.2 (by omega)
        have HZ : Hid (0 = zN u) := Lib.hid (by unfold zN; omega)
        clear hb1 hdg h0 cz
        go_wp2_with (first | (go_at_call 31; (with_reducible refine (K.out _).mono ?_); rintro ee w1 ⟨rfl, hb⟩; replace T0 := T0.step hb; clear hb; obtain ⟨b0, ⟨c0, c1, c2, c3, c4⟩, z0, z1, z2, z3, z4⟩ := T0.box.facts) | (go_at_call 55; (with_reducible refine (PisDigit_c _ _).mono ?_); rintro ee w1 ⟨rfl, rfl⟩))
        go_step3
        go_wp2_with (first | (go_at_call 31; (with_reducible refine (K.out _).mono ?_); rintro ee w1 ⟨rfl, hb⟩; replace T0 := T0.step hb; clear hb; obtain ⟨b0, ⟨c0, c1, c2, c3, c4⟩, z0, z1, z2, z3, z4⟩ := T0.box.facts) | (go_at_call 55; (with_reducible refine (PisDigit_c _ _).mono ?_); rintro ee w1 ⟨rfl, rfl⟩))
        go_step3
        rw [← HQ.out]
        exact (Or.inr (Or.inl ⟨rfl, 0, ⟨rfl, rfl, rfl, rfl, rfl, rfl, rfl⟩, T0.q0 g, Or.inr ⟨HZ.out, HA.out⟩⟩))
end Go.Proofs.YtajcapliokblfaaDoor
namespace Go.Proofs.YtajcapliokblfaaDoor
open Go Go.RowKit Nt Go.Lib
def itPos (W : World) (B : Nat) : Nat := match W.heap[B]? with
  | some (.stringIter _ p) => p
  | _ => 0
theorem itPos_of {W : World} {B p : Nat} {s : ByteArray} (h : W.heap[B]? = some (.stringIter s p)) : itPos W B = p := by unfold itPos; rw [h]
@[irreducible] def smV (s : ByteArray) (k : Nat) : Nat := min (preV s k) 5001
theorem smV_zero (s : ByteArray) : smV s 0 = 0 := by unfold smV; rw [preV_zero]; rfl
theorem smV_le (s : ByteArray) (k : Nat) : smV s k ≤ 5001 := by unfold smV; exact Nat.min_le_right _ _
theorem smV_succ (s : ByteArray) (k : Nat) (h : k < s.size) : smV s (k + 1) = min (10 * smV s k + (s[k].toNat - 48)) 5001 := by
  unfold smV
  rw [preV_succ s k h]
  omega
set_option maxRecDepth 100000 in
set_option maxHeartbeats 1000000 in
theorem PSmall_c (s : ByteArray) (w : World) (hd : Digits s) (hz : s.size ≤ 9223372036854775807) : Calls Tryd.prog 56 #[.string s] w fun e w' => e = .returned (.int .i64 (smV s s.size : Nat)) ∧ Below w.heap.size w w' := by
  have HD := Lib.hid hd
  clear hd
  have h0 : (w.iter s 0).heap[w.heap.size]? = some (.stringIter s 0) := heap_alloc_new w (.stringIter s 0)
  have hb0 : Below w.heap.size w (w.iter s 0) := (Below.refl _ _).alloc (Nat.le_refl _) _
  go_enter Tryd.func56, Tryd.ntmps56
  go_wp2
  revert h0 hb0
  generalize w.iter s 0 = w0
  intro h0 hb0
  go_loopw [3] (fun v wr => ∃ (k n : Nat), v = .int .i64 (n : Nat) ∧ k ≤ s.size ∧ Hid (n = smV s k) ∧ Hid (wr.heap[w.heap.size]? = some (.stringIter s k)) ∧ Hid (Below w.heap.size w wr)) (fun _ wr => s.size - itPos wr w.heap.size)
  case atStart => exact ⟨0, 0, rfl, Nat.zero_le _, Lib.hid (smV_zero s).symm, Lib.hid h0, Lib.hid hb0⟩
  case round =>
    obtain ⟨k, n, rfl, hk, hn, hi, hb⟩ := hrel
    by_cases hlt : k < s.size
    · have hdk := HD.out k hlt
      unfold isDig at hdk
      have hsv := smV_succ s k hlt
      have hn0 : ∀ ty, (Instr.next (.pointer (some ⟨w.heap.size, 0, none⟩)) true ty).run Tryd.prog wr = .ok (.tuple #[.bool true, .int .i64 (k : Nat), .int .i32 (s[k].toNat : Nat)]) (wr.iterAt w.heap.size s (k + 1)) := fun ty => run_next_ascii_at wr w.heap.size s k ty hi.out hlt (by omega)
      have hi2 := iterAt_heap wr w.heap.size s k (k + 1) hi.out
      have hb2 := below_iterAt hb.out (Nat.le_refl _) s (k + 1)
      have hp1 := itPos_of hi.out
      have hp2 := itPos_of hi2
      have hnl := smV_le s k
      have hn2 := hn.out
      revert hn0 hi2 hb2 hsv hp2
      generalize wr.iterAt w.heap.size s (k + 1) = wq
      generalize s[k].toNat = c at *
      intro hsv hn0 hi2 hb2 hp2
      obtain ⟨n2, hn3⟩ : ∃ n2, n2 = smV s (k + 1) := ⟨_, rfl⟩
      rw [← hn2] at hsv hnl
      rw [← hn3] at hsv
      have HS := Lib.hid hsv
      have HN := Lib.hid hn3
      have HI := Lib.hid hi2
      have HB := Lib.hid hb2
      have HP1 := Lib.hid hp1
      have HP2 := Lib.hid hp2
      clear hsv hn3 hi2 hb2 hn2 hi hb hn hp1 hp2
      go_wp2
      go_round
      case rel => exact ⟨k + 1, n2, by have := HS.out; congr 1; omega, hlt, HN, HI, HB⟩
      case measure => rw [HP1.out, HP2.out]; omega
    · have hke : k = s.size := by omega
      have hn0 : ∀ ty, (Instr.next (.pointer (some ⟨w.heap.size, 0, none⟩)) true ty).run Tryd.prog wr = .ok (.tuple #[.bool false]) wr := fun ty => run_next_end_at wr w.heap.size s k ty hi.out hlt
      have HK := Lib.hid hke
      clear hke hlt
      go_wp2
      go_ret
      exact ⟨by rw [hn.out, HK.out]; rfl, hb.out⟩
end Go.Proofs.YtajcapliokblfaaDoor
namespace Go.Proofs.YtajcapliokblfaaDoor
open Go Go.RowKit Nt Go.Lib
theorem ten_pow (b e k n : Nat) (hb : 1 < b) (h10 : 10 ≤ b) (h : n < e * k) : 10 ^ n < (b ^ e) ^ k := by
  rw [← Nat.pow_mul]
  exact Nat.lt_of_le_of_lt (Nat.pow_le_pow_left h10 n) (Nat.pow_lt_pow_right hb h)
theorem ten_lt (n : Nat) (h : n ≤ 9096) : 10 ^ n < W ^ 600 := by
  have e : W = 16 ^ 16 := by rw [W_eq]
  rw [e]
  exact ten_pow 16 16 600 n (by decide) (by decide) (by omega)
theorem ten_nd (n : Nat) (h : n ≤ 9096) : nd W (10 ^ n) ≤ 600 := nd_le W2 (ten_lt n h)
theorem ten_fits (n : Nat) (h : n ≤ 9096) : fits (10 ^ n) := by
  unfold fits
  refine nd_le (by omega) ?_
  have h1 := ten_pow 256 1 16384 n (by decide) (by decide) (by omega)
  rwa [Nat.pow_one] at h1
theorem nd2_10 : nd 2 10 = 4 := nd_unique (b := 2) (n := 10) (k := 3) (by omega) (by decide) (by decide)
theorem Pow10_c (n : Nat) (w : World) (h : n ≤ 9096) : Calls Tryd.prog 57 #[.string (natS 10), .int .i64 (n : Nat)] w (StrPost (natS (10 ^ n)) 0 w) := by
  rcases Nat.lt_or_ge n 2 with h2 | h2
  · rcases (show n = 0 ∨ n = 1 by omega) with rfl | rfl
    · exact NPow_zero 10 w fits_10
    · exact NPow_same 10 1 w fits_10 (by omega) (Or.inr rfl)
  · have hp := NPow_c 10 n w fits_10 (by rw [nd2_10]; omega) h2 (by omega) (by rw [nd2_10]; omega)
    rw [resS_ok (ten_fits n h), resE_ok (ten_fits n h)] at hp
    exact hp
structure Dm where
  (neg : Bool) (less : Bool) (dg : ByteArray) (pw : ByteArray) (bh : Nat)
@[reducible] def Dm.cells (d : Dm) : Array Value := #[.bool d.neg, .bool d.less, .string d.dg, .string d.pw, .int .i64 (d.bh : Nat)]
def VKd (d : Dm) (w : World) (k pos : Nat) (W : World) : Prop := Below w.heap.size w W ∧ Blk W w.heap.size 60 d.cells ∧ (∃ b y z, Bx3 W (w.heap.size + 1) (.bool b, y, z)) ∧ w.heap.size + 1 < k ∧ W.heap[k]? = some (.stringIter d.dg pos)
theorem VKd.step {d : Dm} {w : World} {k pos : Nat} {W W' : World} (h : VKd d w k pos W) (hb : Below W.heap.size W W') : VKd d w k pos W' := by
  obtain ⟨h1, h2, ⟨b, y, z, h3⟩, h4, h5⟩ := h
  exact ⟨below_chain h1 hb, h2.below hb h2.lt, ⟨b, y, z, h3.step hb⟩, h4, (hb.block k (Array.getElem?_eq_some_iff.1 h5).1).trans h5⟩
theorem VKd.drawn {d : Dm} {w : World} {k pos : Nat} {W : World} (h : VKd d w k pos W) (n : Nat) : VKd d w k pos (W.drewN n) := h.step (below_drewN (Below.refl _ _) n)
theorem VKd.drew {d : Dm} {w : World} {k pos : Nat} {W : World} (h : VKd d w k pos W) : VKd d w k pos W.drew := h.step (Below.refl _ _).drew
theorem VKd.next {d : Dm} {w : World} {k pos : Nat} {W : World} (h : VKd d w k pos W) (q : Nat) : VKd d w k q (W.iterAt k d.dg q) := by
  obtain ⟨h1, h2, ⟨b, y, z, T, h3⟩, h4, h5⟩ := h
  refine ⟨below_iterAt h1 (by omega) _ _, (iterAt_other _ _ _ _ _ (by omega)).trans h2, ⟨b, y, z, T, (iterAt_other _ _ _ _ _ (by omega)).trans h3⟩, h4, iterAt_heap _ _ _ _ _ h5⟩
theorem VKd.put {d : Dm} {w : World} {k pos : Nat} {W : World} (h : VKd d w k pos W) (x : Bool) (y z : Value) : VKd d w k pos (((W.setCell ⟨w.heap.size + 1, 0, none⟩ (.bool x)).setCell ⟨w.heap.size + 1, 1, none⟩ y).setCell ⟨w.heap.size + 1, 2, none⟩ z) := by
  obtain ⟨h1, h2, ⟨b, y', z', h3⟩, h4, h5⟩ := h
  refine ⟨below_put3 h1 (by omega) _ _ _, ((h2.far (p := ⟨w.heap.size + 1, 0, none⟩) (by simp) _).far (p := ⟨w.heap.size + 1, 1, none⟩) (by simp) _).far (p := ⟨w.heap.size + 1, 2, none⟩) (by simp) _, ⟨_, _, _, h3.put _ _ _⟩, h4, ?_⟩
  have : ∀ (U : World) (i : Nat) (v : Value), (U.setCell ⟨w.heap.size + 1, i, none⟩ v).heap[k]? = U.heap[k]? := fun U i v => by
    simp [World.setCell, Array.getElem?_modify]; omega
  rw [this, this, this]; exact h5
theorem VKd.cells {d : Dm} {w : World} {k pos : Nat} {W : World} (h : VKd d w k pos W) : w.heap.size + 1 < W.heap.size ∧ W.cell? ⟨w.heap.size, 0, none⟩ = some (.bool d.neg) ∧ W.cell? ⟨w.heap.size, 1, none⟩ = some (.bool d.less) ∧ W.cell? ⟨w.heap.size, 2, none⟩ = some (.string d.dg) ∧ W.cell? ⟨w.heap.size, 3, none⟩ = some (.string d.pw) ∧ W.cell? ⟨w.heap.size, 4, none⟩ = some (.int .i64 (d.bh : Nat)) := by
  obtain ⟨h1, h2, ⟨b, y, z, h3⟩, h4, h5⟩ := h
  exact ⟨h3.facts.1, by rw [h2.cell]; rfl, by rw [h2.cell]; rfl, by rw [h2.cell]; rfl, by rw [h2.cell]; rfl, by rw [h2.cell]; rfl⟩
theorem VKd.res {d : Dm} {w : World} {k pos : Nat} {W : World} (h : VKd d w k pos W) : w.heap.size + 1 < W.heap.size ∧ W.cell? ⟨w.heap.size + 1, 0, none⟩ = some (celAt W (w.heap.size + 1) 0) ∧ W.cell? ⟨w.heap.size + 1, 1, none⟩ = some (celAt W (w.heap.size + 1) 1) ∧ W.cell? ⟨w.heap.size + 1, 2, none⟩ = some (celAt W (w.heap.size + 1) 2) ∧ W.frozen? ⟨w.heap.size + 1, 0, none⟩ = false ∧ W.frozen? ⟨w.heap.size + 1, 1, none⟩ = false ∧ W.frozen? ⟨w.heap.size + 1, 2, none⟩ = false := by
  obtain ⟨h1, h2, ⟨b, y, z, hc⟩, h4, h5⟩ := h
  obtain ⟨r0, r1, r2, r3, r4, r5, r6⟩ := hc.facts
  exact ⟨r0, celAt_eq r1, celAt_eq r2, celAt_eq r3, r4, r5, r6⟩
def VBd (d : Dm) (w : World) (W : World) : Prop := Below w.heap.size w W ∧ Blk W w.heap.size 60 d.cells ∧ ∃ b y z, Bx3 W (w.heap.size + 1) (.bool b, y, z)
theorem VBd.start (d : Dm) (w : World) (T : TypeId) : VBd d w ((w.alloc (.cells d.cells 60)).alloc (.cells #[.bool false, .string ⟨#[]⟩, .string ⟨#[]⟩] T)) := by
  refine ⟨((Below.refl _ _).alloc (Nat.le_refl _) _).alloc (by simp) _, (Blk.new w _ _).alloc _, false, .string ⟨#[]⟩, .string ⟨#[]⟩, ?_⟩
  have := Bx3.new (w.alloc (.cells d.cells 60)) (.bool false) (.string ⟨#[]⟩) (.string ⟨#[]⟩) T
  simpa using this
theorem VBd.step {d : Dm} {w W W' : World} (h : VBd d w W) (hb : Below W.heap.size W W') : VBd d w W' := by
  obtain ⟨h1, h2, b, y, z, h3⟩ := h
  exact ⟨below_chain h1 hb, h2.below hb h2.lt, b, y, z, h3.step hb⟩
theorem VBd.iter {d : Dm} {w W : World} (h : VBd d w W) : VKd d w W.heap.size 0 (W.iter d.dg 0) := by
  obtain ⟨h1, h2, b, y, z, h3⟩ := h.step (W' := W.iter d.dg 0) ((Below.refl _ _).alloc (Nat.le_refl _) _)
  obtain ⟨_, _, b', y', z', h3'⟩ := h
  exact ⟨h1, h2, ⟨b, y, z, h3⟩, h3'.facts.1, World.iter_heap W d.dg 0⟩
theorem VBd.cells {d : Dm} {w W : World} (h : VBd d w W) : w.heap.size + 1 < W.heap.size ∧ W.cell? ⟨w.heap.size, 0, none⟩ = some (.bool d.neg) ∧ W.cell? ⟨w.heap.size, 1, none⟩ = some (.bool d.less) ∧ W.cell? ⟨w.heap.size, 2, none⟩ = some (.string d.dg) ∧ W.cell? ⟨w.heap.size, 3, none⟩ = some (.string d.pw) ∧ W.cell? ⟨w.heap.size, 4, none⟩ = some (.int .i64 (d.bh : Nat)) := by
  obtain ⟨h1, h2, b, y, z, h3⟩ := h
  exact ⟨h3.facts.1, by rw [h2.cell]; rfl, by rw [h2.cell]; rfl, by rw [h2.cell]; rfl, by rw [h2.cell]; rfl, by rw [h2.cell]; rfl⟩
end Go.Proofs.YtajcapliokblfaaDoor
namespace Go.Proofs.YtajcapliokblfaaDoor
open Go Go.RowKit Nt Go.Lib
set_option maxRecDepth 100000 in
set_option maxHeartbeats 2000000 in
theorem PValue_long (neg less : Bool) (dg pw : ByteArray) (bh : Nat) (w : World) (hd : Digits pw) (hz : pw.size ≤ 9223372036854775807) (hb5 : bh ≤ 4096) (hl : smV pw pw.size = 5001) : Calls Tryd.prog 35 #[.agg #[.bool neg, .bool less, .string dg, .string pw, .int .i64 (bh : Nat)]] w fun e w' => e = .returned (.tuple #[.agg #[.bool false, .string ⟨#[]⟩, .string ⟨#[]⟩], .int .i64 4]) ∧ Below w.heap.size w w' := by
  have KS := Lib.hid (fun w => PSmall_c pw w hd hz)
  rw [hl] at KS
  clear hl hd
  have T0 := VBd.start ⟨neg, less, dg, pw, bh⟩ w 25
  have TC := T0.cells
  dsimp only [Dm.cells] at TC T0
  obtain ⟨p0, p1, p2, p3, p5, p4⟩ := TC
  go_enter Tryd.func35, Tryd.ntmps35
  go_wp2_with fail
  refine (KS.out _).mono ?_
  rintro ee w1 ⟨rfl, hb⟩
  replace T0 := T0.step hb
  clear hb p0 p1 p2 p3 p4 p5
  have TC := T0.cells
  dsimp only at TC
  obtain ⟨p0, p1, p2, p3, p5, p4⟩ := TC
  obtain ⟨q1, q2, b, y, z, q3⟩ := T0
  obtain ⟨r0, r1, r2, r3, r4, r5, r6⟩ := q3.facts
  have hfin := below_put3 q1 (show w.heap.size ≤ w.heap.size + 1 by omega)
  go_wp2_with fail
  refine bodyPost_ret (v := .tuple #[.agg #[.bool false, .string ⟨#[]⟩, .string ⟨#[]⟩], .int .i64 4]) (by simp [results, Tryd.results35, go_sem, r0, r1, r2, r3]) rfl ⟨rfl, hfin _ _ _⟩
theorem Row.iter {w : World} {B L n k : Nat} {A : Option Addr} {s : ByteArray} {p : Nat} (h : Row w B A n L) (hk : w.heap[k]? = some (.stringIter s p)) (q : Nat) : Row (w.iterAt k s q) B A n L := fun hL => by
  obtain ⟨g, e, hg, hc⟩ := h hL
  have hne : g ≠ k := by
    intro hgk
    have := hc 0 hL
    unfold World.cell? at this
    rw [show (⟨g, 0, none⟩ : Addr).block = k from hgk, hk] at this
    cases this
  refine ⟨g, e, hg, fun j hj => ?_⟩
  rw [← hc j hj]
  unfold World.cell?
  rw [iterAt_other _ _ _ _ _ (show (⟨g, j, none⟩ : Addr).block ≠ k from hne)]
theorem ten_prod (dg : ByteArray) (h : Digits dg) (u : Nat) (hu : dg.size + u ≤ 9096) : nd W (preV dg dg.size) + nd W (10 ^ u) ≤ 1000000000 ∧ nd W (preV dg dg.size * 10 ^ u) ≤ 9000 := by
  have h1 := Nat.le_of_lt (dig_pre h dg.size (Nat.le_refl _))
  have h2 := nd_mono (b := W) W2 h1
  have h3 := ten_nd dg.size (by omega)
  have h4 := ten_nd u (by omega)
  have h5 : preV dg dg.size * 10 ^ u ≤ 10 ^ (dg.size + u) := by rw [Nat.pow_add]; exact Nat.mul_le_mul_right _ h1
  have h6 := nd_mono (b := W) W2 h5
  have h7 := ten_nd (dg.size + u) hu
  omega
set_option maxRecDepth 100000 in
set_option maxHeartbeats 2000000 in
theorem PValue_f (neg : Bool) (dg pw : ByteArray) (bh : Nat) (w : World) (hd : Digits pw) (hz : pw.size ≤ 9223372036854775807) (hb5 : bh ≤ 4096) (hdg : Digits dg) (hz2 : dg.size ≤ 4096) (hl : smV pw pw.size ≤ 5000) (u v : Nat) (hu : u = smV pw pw.size - bh) (hv : v = bh - smV pw pw.size) : Calls Tryd.prog 35 #[.agg #[.bool neg, .bool false, .string dg, .string pw, .int .i64 (bh : Nat)]] w (LwPost (fr neg (preV dg dg.size * 10 ^ u) (10 ^ v)) w) := by
  have KS := Lib.hid (fun w => PSmall_c pw w hd hz)
  generalize smV pw pw.size = n at *
  have HDG := Lib.hid hdg
  have HU0 := Lib.hid hu
  have HV0 := Lib.hid hv
  clear hd hdg hu hv
  have T0 := VBd.start ⟨neg, false, dg, pw, bh⟩ w 25
  have TC := T0.cells
  dsimp only [Dm.cells] at TC T0
  obtain ⟨p0, p1, p2, p3, p5, p4⟩ := TC
  go_enter Tryd.func35, Tryd.ntmps35
  go_wp2_with fail
  refine (KS.out _).mono ?_
  rintro ee w1 ⟨rfl, hb⟩
  replace T0 := T0.step hb
  clear hb p0 p1 p2 p3 p4 p5
  have TC := T0.cells
  dsimp only at TC
  obtain ⟨p0, p1, p2, p3, p5, p4⟩ := TC
  go_wp2_with fail
  have T2 := T0.iter
  clear T0 p0 p1 p2 p3 p4 p5
  generalize w1.iter dg 0 = w2 at *
  generalize w1.heap.size = K at *
  go_loopw [5] (fun v wr => ∃ (k c : Nat) (A : Option Addr), v = .slice A (nd W (preV dg k)) c ∧ k ≤ dg.size ∧ Hid (Row wr wr.heap.size A (preV dg k) (nd W (preV dg k))) ∧ Hid (VKd ⟨neg, false, dg, pw, bh⟩ w K k wr)) (fun _ wr => dg.size - itPos wr K)
  case atStart => exact ⟨0, 0, none, by rw [preV_zero, nd_zero], Nat.zero_le _, Lib.hid (by rw [preV_zero, nd_zero]; exact Row.none_), Lib.hid T2⟩
  case round =>
    obtain ⟨k, c, A, rfl, hk, hr, hi⟩ := hrel
    by_cases hlt : k < dg.size
    · have hdk := HDG.out k hlt
      unfold isDig at hdk
      have hsv := preV_succ dg k hlt
      have hn0 : ∀ ty, (Instr.next (.pointer (some ⟨K, 0, none⟩)) true ty).run Tryd.prog wr = .ok (.tuple #[.bool true, .int .i64 (k : Nat), .int .i32 (dg[k].toNat : Nat)]) (wr.iterAt K dg (k + 1)) := fun ty => run_next_ascii_at wr K dg k ty hi.out.2.2.2.2 hlt (by omega)
      have hi2 := hi.out.next (k + 1)
      have hb2 : Row (wr.iterAt K dg (k + 1)) (wr.iterAt K dg (k + 1)).heap.size A (preV dg k) (nd W (preV dg k)) := by rw [iterAt_size]; exact hr.out.iter hi.out.2.2.2.2 (k + 1)
      have hp1 := itPos_of hi.out.2.2.2.2
      have hp2 := itPos_of hi2.2.2.2.2
      revert hn0 hi2 hb2 hsv hp2
      generalize wr.iterAt K dg (k + 1) = wq
      generalize dg[k].toNat = m at *
      intro hsv hn0 hi2 hb2 hp2
      have hput := Put_c A c (preV dg k) 10 (m - 48) wq.heap.size wq (by omega) (by omega) (by have := ten_nd k (by omega); have := nd_mono (b := W) W2 (Nat.le_of_lt (dig_pre HDG.out k hk)); omega) hb2 (Nat.le_refl _)
      rw [show preV dg k * 10 + (m - 48) = preV dg (k + 1) by omega] at hput
      have HPUT := Lib.hid hput
      have HI := Lib.hid hi2
      have HP1 := Lib.hid hp1
      have HP2 := Lib.hid hp2
      have HM : 48 ≤ m ∧ m ≤ 57 := by omega
      clear hsv hi2 hb2 hi hr hp1 hp2 hput
      go_wp2_with fail
      rw [show (m : Int) - 48 = ((m - 48 : Nat) : Int) by omega]
      refine HPUT.out.mono ?_
      rintro ee w4 hp
      obtain ⟨A1, c1, rfl, hc1, hr1, hb1⟩ := hp.get
      have HI2 := Lib.hid (HI.out.step hb1)
      have HP3 := Lib.hid (itPos_of HI2.out.2.2.2.2)
      have HR1 := Lib.hid hr1
      clear hp hr1 hb1 hn0 HPUT
      go_wp2_with fail
      go_round
      case rel => exact ⟨k + 1, c1, A1, rfl, hlt, HR1, HI2⟩
      case measure => rw [HP1.out, HP3.out]; omega
    · have hke : k = dg.size := by omega
      subst hke
      have hn0 : ∀ ty, (Instr.next (.pointer (some ⟨K, 0, none⟩)) true ty).run Tryd.prog wr = .ok (.tuple #[.bool false]) wr := fun ty => run_next_end_at wr K dg dg.size ty hi.out.2.2.2.2 hlt
      clear hlt
      have TC := hi.out.cells
      dsimp only at TC
      obtain ⟨p0, p1, p2, p3, p5, p4⟩ := TC
      go_wp2_with fail
      have KO := Lib.hid (fun w => Of_n 10 w (by decide))
      have KP := Lib.hid (fun n w h => Pow10_c n w h)
      refine (KO.out _).mono ?_
      rintro ee w7 ⟨rfl, hb⟩
      have HI := Lib.hid (hi.out.step hb)
      have HR := Lib.hid ((hr.out.below hb).more hb.size)
      clear hb hn0 hi hr p0 p1 p2 p3 p4 p5
      have HU : u ≤ 9096 := by have := HU0.out; omega
      have HV : v ≤ 9096 := by have := HV0.out; omega
      go_wp2_with fail
      rw [show max ((n : Int) - bh) 0 = ((u : Nat) : Int) by have := HU0.out; omega]
      refine (KP.out _ _ HU).mono ?_
      rintro ee w8 ⟨rfl, hb⟩
      replace HI := Lib.hid (HI.out.step hb)
      replace HR := Lib.hid ((HR.out.below hb).more hb.size)
      clear hb
      go_wp2_with fail
      refine (KO.out _).mono ?_
      rintro ee w9 ⟨rfl, hb⟩
      replace HI := Lib.hid (HI.out.step hb)
      replace HR := Lib.hid ((HR.out.below hb).more hb.size)
      clear hb
      go_wp2_with fail
      rw [show max (-((n : Int) - bh)) 0 = ((v : Nat) : Int) by have := HV0.out; omega]
      refine (KP.out _ _ HV).mono ?_
      rintro ee w10 ⟨rfl, hb⟩
      replace HI := Lib.hid (HI.out.step hb)
      replace HR := Lib.hid ((HR.out.below hb).more hb.size)
      clear hb
      have HX := ten_prod dg HDG.out u (show dg.size + u ≤ 9096 by have := HU0.out; omega)
      obtain ⟨HX1, HX2⟩ := HX
      have HX3 := ten_nd v HV
      have HD0 : 10 ^ v ≠ 0 := Nat.pos_iff_ne_zero.1 (Nat.pow_pos (by omega))
      have KWU := Lib.hid (fun w => Pwords_c (10 ^ u) w (ten_fits _ HU))
      have KWV := Lib.hid (fun w => Pwords_c (10 ^ v) w (ten_fits _ HV))
      generalize 10 ^ u = tu at *
      generalize 10 ^ v = tv at *
      generalize preV dg dg.size = N at *
      have KM := Lib.hid (fun (A A' : Option Addr) (c c' : Nat) (W' : World) (r1 : Row W' W'.heap.size A N (nd W N)) (r2 : Row W' W'.heap.size A' tu (nd W tu)) => Mul_c A A' c c' N tu W'.heap.size W' (by omega) r1 r2 (Nat.le_refl _))
      have KF := Lib.hid (fun (A A' : Option Addr) (c c' : Nat) (W' : World) (hc : nd W (N * tu) ≤ c) (hc' : nd W tv ≤ c') (r1 : Row W' W'.heap.size A (N * tu) (nd W (N * tu))) (r2 : Row W' W'.heap.size A' tv (nd W tv)) => Flow_c neg (N * tu) tv A A' c c' W' HD0 (by omega) (by omega) hc hc' r1 r2)
      clear HX1 HX2 HX3 HD0 KP KO KS HU HV
      have hra : Row w10.drew w10.drew.heap.size A N (nd W N) := HR.out.drewN 1
      have TT := HI.out.drew
      clear HR
      generalize dg.size = kk at *
      have M1 := fun U (hU : VKd ⟨neg, false, dg, pw, bh⟩ w K kk U) => hU.res.2.1
      have M2 := fun U (hU : VKd ⟨neg, false, dg, pw, bh⟩ w K kk U) => hU.res.2.2.1
      have M3 := fun U (hU : VKd ⟨neg, false, dg, pw, bh⟩ w K kk U) => hU.res.2.2.2.1
      have M4 := fun U (hU : VKd ⟨neg, false, dg, pw, bh⟩ w K kk U) => hU.res.2.2.2.2.1
      have M5 := fun U (hU : VKd ⟨neg, false, dg, pw, bh⟩ w K kk U) => hU.res.2.2.2.2.2.1
      have M6 := fun U (hU : VKd ⟨neg, false, dg, pw, bh⟩ w K kk U) => hU.res.2.2.2.2.2.2
      have L0 := fun U (hU : VKd ⟨neg, false, dg, pw, bh⟩ w K kk U) => hU.cells.2.1
      dsimp only at L0
      go_wp2_with fail
      go_region_held3 (VKd ⟨neg, false, dg, pw, bh⟩ w K kk) (first | assumption | exact VKd.step (by assumption) (by assumption) | exact VKd.put (by assumption) _ _ _ | exact VKd.drew (by assumption) | exact VKd.drawn (by assumption) _)
        (first
          | (go_at_call 40; (with_reducible refine (KWU.out _).mono ?_); rintro ee wa hp; obtain ⟨A3, c3, rfl, hc3, hr3, hb3⟩ := hp.get; have hrb := (hra.below hb3).more hb3.size; clear hp hra)
          | (go_at_call 42; (refine (KM.out _ _ _ _ _ hrb hr3).mono ?_); rintro ee wb hp; obtain ⟨A4, c4, rfl, hc4, hr4, hb4⟩ := hp.get; clear hp hrb hr3)
          | (go_at_call 40; (with_reducible refine (KWV.out _).mono ?_); rintro ee wc hp; obtain ⟨A5, c5, rfl, hc5, hr5, hb5⟩ := hp.get; have hrc := (hr4.below hb5).more hb5.size; clear hp hr4)
          | (go_at_call 41; (refine (KF.out _ _ _ _ _ hc4 hc5 hrc hr5).mono ?_); rintro ee wd ⟨rfl, hb6⟩; have HSV := Lib.hid (VKd.step (d := ⟨neg, false, dg, pw, bh⟩) (w := w) (by assumption) hb6)))
      obtain ⟨q0, q1, q2, q3, q4, q5, q6⟩ := HSV.out.res
      have hfin := below_put3 HSV.out.1 (show w.heap.size ≤ w.heap.size + 1 by omega)
      generalize fr neg (N * tu) tv = Q at *
      clear L0 M1 M2 M3 M4 M5 M6 TT KF KM KWU KWV HI
      go_wp2_with fail
      refine bodyPost_ret (v := .tuple #[.agg #[.bool (rsG Q), .string (rsN Q), .string (rsD Q)], .int .i64 (rsE Q)]) (by simp [results, Tryd.results35, go_sem, q0, q1, q2, q3]) rfl ⟨rfl, hfin _ _ _⟩
set_option maxRecDepth 100000 in
set_option maxHeartbeats 2000000 in
theorem PValue_t (neg : Bool) (dg pw : ByteArray) (bh : Nat) (w : World) (hd : Digits pw) (hz : pw.size ≤ 9223372036854775807) (hb5 : bh ≤ 4096) (hdg : Digits dg) (hz2 : dg.size ≤ 4096) (hl : smV pw pw.size ≤ 5000) (u v : Nat) (hu : u = 0) (hv : v = smV pw pw.size + bh) : Calls Tryd.prog 35 #[.agg #[.bool neg, .bool true, .string dg, .string pw, .int .i64 (bh : Nat)]] w (LwPost (fr neg (preV dg dg.size * 10 ^ u) (10 ^ v)) w) := by
  have KS := Lib.hid (fun w => PSmall_c pw w hd hz)
  generalize smV pw pw.size = n at *
  have HDG := Lib.hid hdg
  have HU0 := Lib.hid hu
  have HV0 := Lib.hid hv
  clear hd hdg hu hv
  have T0 := VBd.start ⟨neg, true, dg, pw, bh⟩ w 25
  have TC := T0.cells
  dsimp only [Dm.cells] at TC T0
  obtain ⟨p0, p1, p2, p3, p5, p4⟩ := TC
  go_enter Tryd.func35, Tryd.ntmps35
  go_wp2_with fail
  refine (KS.out _).mono ?_
  rintro ee w1 ⟨rfl, hb⟩
  replace T0 := T0.step hb
  clear hb p0 p1 p2 p3 p4 p5
  have TC := T0.cells
  dsimp only at TC
  obtain ⟨p0, p1, p2, p3, p5, p4⟩ := TC
  go_wp2_with fail
  have T2 := T0.iter
  clear T0 p0 p1 p2 p3 p4 p5
  generalize w1.iter dg 0 = w2 at *
  generalize w1.heap.size = K at *
  go_loopw [5] (fun v wr => ∃ (k c : Nat) (A : Option Addr), v = .slice A (nd W (preV dg k)) c ∧ k ≤ dg.size ∧ Hid (Row wr wr.heap.size A (preV dg k) (nd W (preV dg k))) ∧ Hid (VKd ⟨neg, true, dg, pw, bh⟩ w K k wr)) (fun _ wr => dg.size - itPos wr K)
  case atStart => exact ⟨0, 0, none, by rw [preV_zero, nd_zero], Nat.zero_le _, Lib.hid (by rw [preV_zero, nd_zero]; exact Row.none_), Lib.hid T2⟩
  case round =>
    obtain ⟨k, c, A, rfl, hk, hr, hi⟩ := hrel
    by_cases hlt : k < dg.size
    · have hdk := HDG.out k hlt
      unfold isDig at hdk
      have hsv := preV_succ dg k hlt
      have hn0 : ∀ ty, (Instr.next (.pointer (some ⟨K, 0, none⟩)) true ty).run Tryd.prog wr = .ok (.tuple #[.bool true, .int .i64 (k : Nat), .int .i32 (dg[k].toNat : Nat)]) (wr.iterAt K dg (k + 1)) := fun ty => run_next_ascii_at wr K dg k ty hi.out.2.2.2.2 hlt (by omega)
      have hi2 := hi.out.next (k + 1)
      have hb2 : Row (wr.iterAt K dg (k + 1)) (wr.iterAt K dg (k + 1)).heap.size A (preV dg k) (nd W (preV dg k)) := by rw [iterAt_size]; exact hr.out.iter hi.out.2.2.2.2 (k + 1)
      have hp1 := itPos_of hi.out.2.2.2.2
      have hp2 := itPos_of hi2.2.2.2.2
      revert hn0 hi2 hb2 hsv hp2
      generalize wr.iterAt K dg (k + 1) = wq
      generalize dg[k].toNat = m at *
      intro hsv hn0 hi2 hb2 hp2
      have hput := Put_c A c (preV dg k) 10 (m - 48) wq.heap.size wq (by omega) (by omega) (by have := ten_nd k (by omega); have := nd_mono (b := W) W2 (Nat.le_of_lt (dig_pre HDG.out k hk)); omega) hb2 (Nat.le_refl _)
      rw [show preV dg k * 10 + (m - 48) = preV dg (k + 1) by omega] at hput
      have HPUT := Lib.hid hput
      have HI := Lib.hid hi2
      have HP1 := Lib.hid hp1
      have HP2 := Lib.hid hp2
      have HM : 48 ≤ m ∧ m ≤ 57 := by omega
      clear hsv hi2 hb2 hi hr hp1 hp2 hput
      go_wp2_with fail
      rw [show (m : Int) - 48 = ((m - 48 : Nat) : Int) by omega]
      refine HPUT.out.mono ?_
      rintro ee w4 hp
      obtain ⟨A1, c1, rfl, hc1, hr1, hb1⟩ := hp.get
      have HI2 := Lib.hid (HI.out.step hb1)
      have HP3 := Lib.hid (itPos_of HI2.out.2.2.2.2)
      have HR1 := Lib.hid hr1
      clear hp hr1 hb1 hn0 HPUT
      go_wp2_with fail
      go_round
      case rel => exact ⟨k + 1, c1, A1, rfl, hlt, HR1, HI2⟩
      case measure => rw [HP1.out, HP3.out]; omega
    · have hke : k = dg.size := by omega
      subst hke
      have hn0 : ∀ ty, (Instr.next (.pointer (some ⟨K, 0, none⟩)) true ty).run Tryd.prog wr = .ok (.tuple #[.bool false]) wr := fun ty => run_next_end_at wr K dg dg.size ty hi.out.2.2.2.2 hlt
      clear hlt
      have TC := hi.out.cells
      dsimp only at TC
      obtain ⟨p0, p1, p2, p3, p5, p4⟩ := TC
      go_wp2_with fail
      have KO := Lib.hid (fun w => Of_n 10 w (by decide))
      have KP := Lib.hid (fun n w h => Pow10_c n w h)
      refine (KO.out _).mono ?_
      rintro ee w7 ⟨rfl, hb⟩
      have HI := Lib.hid (hi.out.step hb)
      have HR := Lib.hid ((hr.out.below hb).more hb.size)
      clear hb hn0 hi hr p0 p1 p2 p3 p4 p5
      have HU : u ≤ 9096 := by have := HU0.out; omega
      have HV : v ≤ 9096 := by have := HV0.out; omega
      go_wp2_with fail
      rw [show max (-(n : Int) - bh) 0 = ((u : Nat) : Int) by have := HU0.out; omega]
      refine (KP.out _ _ HU).mono ?_
      rintro ee w8 ⟨rfl, hb⟩
      replace HI := Lib.hid (HI.out.step hb)
      replace HR := Lib.hid ((HR.out.below hb).more hb.size)
      clear hb
      go_wp2_with fail
      refine (KO.out _).mono ?_
      rintro ee w9 ⟨rfl, hb⟩
      replace HI := Lib.hid (HI.out.step hb)
      replace HR := Lib.hid ((HR.out.below hb).more hb.size)
      clear hb
      go_wp2_with fail
      rw [show max (-(-(n : Int) - bh)) 0 = ((v : Nat) : Int) by have := HV0.out; omega]
      refine (KP.out _ _ HV).mono ?_
      rintro ee w10 ⟨rfl, hb⟩
      replace HI := Lib.hid (HI.out.step hb)
      replace HR := Lib.hid ((HR.out.below hb).more hb.size)
      clear hb
      have HX := ten_prod dg HDG.out u (show dg.size + u ≤ 9096 by have := HU0.out; omega)
      obtain ⟨HX1, HX2⟩ := HX
      have HX3 := ten_nd v HV
      have HD0 : 10 ^ v ≠ 0 := Nat.pos_iff_ne_zero.1 (Nat.pow_pos (by omega))
      have KWU := Lib.hid (fun w => Pwords_c (10 ^ u) w (ten_fits _ HU))
      have KWV := Lib.hid (fun w => Pwords_c (10 ^ v) w (ten_fits _ HV))
      generalize 10 ^ u = tu at *
      generalize 10 ^ v = tv at *
      generalize preV dg dg.size = N at *
      have KM := Lib.hid (fun (A A' : Option Addr) (c c' : Nat) (W' : World) (r1 : Row W' W'.heap.size A N (nd W N)) (r2 : Row W' W'.heap.size A' tu (nd W tu)) => Mul_c A A' c c' N tu W'.heap.size W' (by omega) r1 r2 (Nat.le_refl _))
      have KF := Lib.hid (fun (A A' : Option Addr) (c c' : Nat) (W' : World) (hc : nd W (N * tu) ≤ c) (hc' : nd W tv ≤ c') (r1 : Row W' W'.heap.size A (N * tu) (nd W (N * tu))) (r2 : Row W' W'.heap.size A' tv (nd W tv)) => Flow_c neg (N * tu) tv A A' c c' W' HD0 (by omega) (by omega) hc hc' r1 r2)
      clear HX1 HX2 HX3 HD0 KP KO KS HU HV
      have hra : Row w10.drew w10.drew.heap.size A N (nd W N) := HR.out.drewN 1
      have TT := HI.out.drew
      clear HR
      generalize dg.size = kk at *
      have M1 := fun U (hU : VKd ⟨neg, true, dg, pw, bh⟩ w K kk U) => hU.res.2.1
      have M2 := fun U (hU : VKd ⟨neg, true, dg, pw, bh⟩ w K kk U) => hU.res.2.2.1
      have M3 := fun U (hU : VKd ⟨neg, true, dg, pw, bh⟩ w K kk U) => hU.res.2.2.2.1
      have M4 := fun U (hU : VKd ⟨neg, true, dg, pw, bh⟩ w K kk U) => hU.res.2.2.2.2.1
      have M5 := fun U (hU : VKd ⟨neg, true, dg, pw, bh⟩ w K kk U) => hU.res.2.2.2.2.2.1
      have M6 := fun U (hU : VKd ⟨neg, true, dg, pw, bh⟩ w K kk U) => hU.res.2.2.2.2.2.2
      have L0 := fun U (hU : VKd ⟨neg, true, dg, pw, bh⟩ w K kk U) => hU.cells.2.1
      dsimp only at L0
      go_wp2_with fail
      go_region_held3 (VKd ⟨neg, true, dg, pw, bh⟩ w K kk) (first | assumption | exact VKd.step (by assumption) (by assumption) | exact VKd.put (by assumption) _ _ _ | exact VKd.drew (by assumption) | exact VKd.drawn (by assumption) _)
        (first
          | (go_at_call 40; (with_reducible refine (KWU.out _).mono ?_); rintro ee wa hp; obtain ⟨A3, c3, rfl, hc3, hr3, hb3⟩ := hp.get; have hrb := (hra.below hb3).more hb3.size; clear hp hra)
          | (go_at_call 42; (refine (KM.out _ _ _ _ _ hrb hr3).mono ?_); rintro ee wb hp; obtain ⟨A4, c4, rfl, hc4, hr4, hb4⟩ := hp.get; clear hp hrb hr3)
          | (go_at_call 40; (with_reducible refine (KWV.out _).mono ?_); rintro ee wc hp; obtain ⟨A5, c5, rfl, hc5, hr5, hb5⟩ := hp.get; have hrc := (hr4.below hb5).more hb5.size; clear hp hr4)
          | (go_at_call 41; (refine (KF.out _ _ _ _ _ hc4 hc5 hrc hr5).mono ?_); rintro ee wd ⟨rfl, hb6⟩; have HSV := Lib.hid (VKd.step (d := ⟨neg, true, dg, pw, bh⟩) (w := w) (by assumption) hb6)))
      obtain ⟨q0, q1, q2, q3, q4, q5, q6⟩ := HSV.out.res
      have hfin := below_put3 HSV.out.1 (show w.heap.size ≤ w.heap.size + 1 by omega)
      generalize fr neg (N * tu) tv = Q at *
      clear L0 M1 M2 M3 M4 M5 M6 TT KF KM KWU KWV HI
      go_wp2_with fail
      refine bodyPost_ret (v := .tuple #[.agg #[.bool (rsG Q), .string (rsN Q), .string (rsD Q)], .int .i64 (rsE Q)]) (by simp [results, Tryd.results35, go_sem, q0, q1, q2, q3]) rfl ⟨rfl, hfin _ _ _⟩
end Go.Proofs.YtajcapliokblfaaDoor
namespace Go.Proofs.YtajcapliokblfaaDoor
open Go Go.RowKit Nt Go.Lib
theorem digits_list {s : ByteArray} : Digits s ↔ ∀ c ∈ s.data.toList, isDig c := by
  constructor
  · intro h c hc
    obtain ⟨j, hj, rfl⟩ := List.getElem_of_mem hc
    exact h j hj
  · intro h k hk
    exact h _ (List.getElem_mem (l := s.data.toList) hk)
theorem digits_ext {t : ByteArray} {i j e : Nat} (he : e ≤ i) (h : j ≤ zE t e) (hj : j ≤ t.size) : Digits (t.extract i j) := by
  intro k hk
  have hs : (t.extract i j).size = min j t.size - i := ByteArray.size_extract
  rw [ByteArray.getElem_extract]
  have := zE_in t e (i + k) (by omega) (by omega) (by omega)
  unfold isDgB at this
  exact of_decide_eq_true this
theorem digits_app {a b : ByteArray} (ha : Digits a) (hb : Digits b) : Digits (a ++ b) := by
  rw [digits_list] at *
  intro c hc
  rw [ByteArray.data_append, Array.toList_append, List.mem_append] at hc
  exact hc.elim (ha c) (hb c)
theorem digits_nil : Digits ⟨#[]⟩ := fun k h => absurd h (Nat.not_lt_zero _)
theorem zD_dig (t : ByteArray) : Digits (zD t) := by
  unfold zD
  refine digits_app (digits_ext (e := 0) (Nat.le_refl _) (by unfold zN; exact Nat.le_refl _) (zN_le t)) ?_
  split
  · rename_i h
    exact digits_ext (e := zN t + 1) (Nat.le_refl _) (by unfold zM; rw [if_pos h]; exact Nat.le_refl _) (zM_le t)
  · exact digits_nil
theorem zP_dig {t : ByteArray} (h : zOk t) : Digits (zP t) := by
  unfold zP
  split
  · rename_i hx
    exact digits_ext (e := zJ t) (Nat.le_refl _) (by rw [(h.2.2.2.2 hx).2.1]; exact Nat.le_refl _) (Nat.le_refl _)
  · exact digits_nil
theorem zNM (t : ByteArray) : zPt t = true → zN t + 1 ≤ zM t := fun h => by
  unfold zM; rw [if_pos h]; exact zE_ge t _
theorem zD_size (t : ByteArray) : (zD t).size ≤ t.size := by
  have h1 := zN_le t
  have h2 := zM_le t
  unfold zD
  rw [ByteArray.size_append, ByteArray.size_extract]
  split
  · rename_i h
    have := zNM t h
    rw [ByteArray.size_extract]; omega
  · show _ + 0 ≤ _
    omega
theorem zB_le (t : ByteArray) : zB t ≤ t.size := by
  have h2 := zM_le t
  unfold zB
  split <;> omega
theorem zP_size (t : ByteArray) : (zP t).size ≤ t.size := by
  unfold zP
  split
  · rw [ByteArray.size_extract]; omega
  · exact Nat.zero_le _
@[irreducible] noncomputable def dcM (t : ByteArray) : Nat := smV (zP t) (zP t).size
theorem dcM_le (t : ByteArray) : dcM t ≤ 5001 := by unfold dcM; exact smV_le _ _
noncomputable section
open Classical
@[irreducible] def dcU (t : ByteArray) : Nat := if zL t = true then 0 else dcM t - zB t
@[irreducible] def dcV (t : ByteArray) : Nat := if zL t = true then dcM t + zB t else zB t - dcM t
@[irreducible] def dcQ (s : ByteArray) : Rat := fr (begB 45 s) (preV (zD (offB 45 s)) (zD (offB 45 s)).size * 10 ^ dcU (offB 45 s)) (10 ^ dcV (offB 45 s))
def dcOk (s : ByteArray) : Prop := s.size ≤ 4096 ∧ zOk (offB 45 s) ∧ dcM (offB 45 s) ≤ 5000
@[irreducible] def dcG (s : ByteArray) : Bool := if dcOk s then rsG (dcQ s) else false
@[irreducible] def dcN (s : ByteArray) : ByteArray := if dcOk s then rsN (dcQ s) else ⟨#[]⟩
@[irreducible] def dcD (s : ByteArray) : ByteArray := if dcOk s then rsD (dcQ s) else ⟨#[]⟩
@[irreducible] def dcE (s : ByteArray) : Int := if dcOk s then rsE (dcQ s) else if s.size ≤ 4096 ∧ ¬ zOk (offB 45 s) then 40 else 4
end
theorem dc_ok {s : ByteArray} (h : dcOk s) : dcG s = rsG (dcQ s) ∧ dcN s = rsN (dcQ s) ∧ dcD s = rsD (dcQ s) ∧ dcE s = rsE (dcQ s) := by
  unfold dcG dcN dcD dcE; rw [if_pos h, if_pos h, if_pos h, if_pos h]; exact ⟨rfl, rfl, rfl, rfl⟩
theorem dc_no {s : ByteArray} (h : ¬ dcOk s) : dcG s = false ∧ dcN s = ⟨#[]⟩ ∧ dcD s = ⟨#[]⟩ := by
  unfold dcG dcN dcD; rw [if_neg h, if_neg h, if_neg h]; exact ⟨rfl, rfl, rfl⟩
theorem dc_long {s : ByteArray} (h : 4096 < s.size) : dcG s = false ∧ dcN s = ⟨#[]⟩ ∧ dcD s = ⟨#[]⟩ ∧ dcE s = 4 := by
  have hn : ¬ dcOk s := fun c => by have := c.1; omega
  obtain ⟨a, b, c⟩ := dc_no hn
  refine ⟨a, b, c, ?_⟩
  unfold dcE; rw [if_neg hn, if_neg (fun c => by have := c.1; omega)]
theorem dc_bad {s : ByteArray} (h : s.size ≤ 4096) (hz : ¬ zOk (offB 45 s)) : dcG s = false ∧ dcN s = ⟨#[]⟩ ∧ dcD s = ⟨#[]⟩ ∧ dcE s = 40 := by
  have hn : ¬ dcOk s := fun c => hz c.2.1
  obtain ⟨a, b, c⟩ := dc_no hn
  refine ⟨a, b, c, ?_⟩
  unfold dcE; rw [if_neg hn, if_pos ⟨h, hz⟩]
theorem dc_far {s : ByteArray} (h : s.size ≤ 4096) (hz : zOk (offB 45 s)) (hm : ¬ dcM (offB 45 s) ≤ 5000) : dcG s = false ∧ dcN s = ⟨#[]⟩ ∧ dcD s = ⟨#[]⟩ ∧ dcE s = 4 := by
  have hn : ¬ dcOk s := fun c => hm c.2.2
  obtain ⟨a, b, c⟩ := dc_no hn
  refine ⟨a, b, c, ?_⟩
  unfold dcE; rw [if_neg hn, if_neg (fun c => c.2 hz)]
def DcPost (s : ByteArray) (w : World) (e : Ending) (w' : World) : Prop := e = .returned (.tuple #[.agg #[.bool (dcG s), .string (dcN s), .string (dcD s)], .int .i64 (dcE s)]) ∧ Below w.heap.size w w'
theorem PValue_c (s : ByteArray) (w : World) (hs : s.size ≤ 4096) (hz : zOk (offB 45 s)) : Calls Tryd.prog 35 #[.agg #[.bool (begB 45 s), .bool (zL (offB 45 s)), .string (zD (offB 45 s)), .string (zP (offB 45 s)), .int .i64 (zB (offB 45 s) : Nat)]] w (DcPost s w) := by
  have ho := offB_size 45 s
  have h1 := zD_size (offB 45 s)
  have h2 := zP_size (offB 45 s)
  have h3 := zB_le (offB 45 s)
  have hm := dcM_le (offB 45 s)
  have hM : dcM (offB 45 s) = smV (zP (offB 45 s)) (zP (offB 45 s)).size := by unfold dcM; rfl
  by_cases h5 : dcM (offB 45 s) ≤ 5000
  · have hok : dcOk s := ⟨hs, hz, h5⟩
    obtain ⟨e1, e2, e3, e4⟩ := dc_ok hok
    unfold DcPost
    rw [e1, e2, e3, e4]
    unfold dcQ
    cases hl : zL (offB 45 s)
    · exact PValue_f (begB 45 s) _ _ _ w (zP_dig hz) (by omega) (by omega) (zD_dig _) (by omega) (by omega) (dcU (offB 45 s)) (dcV (offB 45 s)) (by unfold dcU; rw [hl, if_neg (by decide), hM]) (by unfold dcV; rw [hl, if_neg (by decide), hM])
    · exact PValue_t (begB 45 s) _ _ _ w (zP_dig hz) (by omega) (by omega) (zD_dig _) (by omega) (by omega) (dcU (offB 45 s)) (dcV (offB 45 s)) (by unfold dcU; rw [hl, if_pos rfl]) (by unfold dcV; rw [hl, if_pos rfl, hM])
  · obtain ⟨e1, e2, e3, e4⟩ := dc_far hs hz h5
    unfold DcPost
    rw [e1, e2, e3, e4]
    exact PValue_long (begB 45 s) _ _ _ _ w (zP_dig hz) (by omega) (by omega) (by omega)
set_option maxRecDepth 100000 in
set_option maxHeartbeats 1000000 in
theorem PDecimal_c (s : ByteArray) (w : World) (hs : s.size + 1 ≤ 9223372036854775807) : Calls Tryd.prog 17 #[.string s] w (DcPost s w) := by
  have T0 := BR.start0 w false (.string ⟨#[]⟩) (.string ⟨#[]⟩) 25
  by_cases h4 : 4096 < s.size
  · obtain ⟨e1, e2, e3, e4⟩ := dc_long h4
    unfold DcPost
    rw [e1, e2, e3, e4]
    obtain ⟨q0, q1, q2, q3, q4, q5, q6⟩ := (Bx3.new w (.bool false) (.string ⟨#[]⟩) (.string ⟨#[]⟩) 25).facts
    have hfin := T0.1
    go_enter Tryd.func17, Tryd.ntmps17
    go_wp2_with fail
    refine bodyPost_ret (v := .tuple #[.agg #[.bool false, .string ⟨#[]⟩, .string ⟨#[]⟩], .int .i64 4]) (by simp [results, Tryd.results17, go_sem, q0, q1, q2, q3]) rfl ⟨rfl, hfin⟩
  · have KS := Lib.hid (fun w => scan_c s w hs)
    by_cases hz : zOk (offB 45 s)
    · have KV := Lib.hid (fun w => PValue_c s w (by omega) hz)
      go_enter Tryd.func17, Tryd.ntmps17
      go_wp2_with fail
      refine (KS.out _).mono ?_
      rintro ee w1 ⟨⟨b1, b2, x1, x2, n1, ok, rfl, ho, hv⟩, hb⟩
      have hok := ho.2 hz
      subst hok
      obtain ⟨r1, r2, r3, r4, r5⟩ := hv rfl
      rw [← r1, ← r2, ← r3, ← r4, ← r5] at KV
      clear hv ho r1 r2 r3 r4 r5
      replace T0 := T0.step hb
      clear hb
      go_wp2_with fail
      refine (KV.out _).mono ?_
      rintro ee w2 ⟨rfl, hb2⟩
      replace T0 := (T0.more _).step hb2
      clear hb2
      obtain ⟨q0, q1, q2, q3, q4, q5, q6⟩ := T0.res0
      have hfin := below_put3 T0.1 (Nat.le_refl _)
      go_wp2_with fail
      refine bodyPost_ret (v := .tuple #[.agg #[.bool (dcG s), .string (dcN s), .string (dcD s)], .int .i64 (dcE s)]) (by simp [results, Tryd.results17, go_sem, q0, q1, q2, q3]) rfl ⟨rfl, hfin _ _ _⟩
    · obtain ⟨e1, e2, e3, e4⟩ := dc_bad (by omega) hz
      unfold DcPost
      rw [e1, e2, e3, e4]
      go_enter Tryd.func17, Tryd.ntmps17
      go_wp2_with fail
      refine (KS.out _).mono ?_
      rintro ee w1 ⟨⟨b1, b2, x1, x2, n1, ok, rfl, ho, hv⟩, hb⟩
      have hok : ok = false := by cases ok with
        | false => rfl
        | true => exact absurd (ho.1 rfl) hz
      subst hok
      clear hv ho
      replace T0 := T0.step hb
      clear hb
      obtain ⟨q0, q1, q2, q3, q4, q5, q6⟩ := T0.res0
      have hfin := below_put3 T0.1 (Nat.le_refl _)
      go_wp2_with fail
      refine bodyPost_ret (v := .tuple #[.agg #[.bool false, .string ⟨#[]⟩, .string ⟨#[]⟩], .int .i64 40]) (by simp [results, Tryd.results17, go_sem, q0, q1, q2, q3]) rfl ⟨rfl, (hfin _ _ _).alloc (by simp [World.setCell]; omega) _⟩
end Go.Proofs.YtajcapliokblfaaDoor
namespace Go.Proofs.YtajcapliokblfaaDoor
open Go Go.RowKit Nt Go.Lib
theorem isDgB_iff (c : UInt8) : isDgB c = true ↔ 48 ≤ c.toNat ∧ c.toNat ≤ 57 := by unfold isDgB; exact decide_eq_true_iff
end Go.Proofs.YtajcapliokblfaaDoor
namespace Go.Proofs.YtajcapliokblfaaDoor
open Go Go.RowKit Nt Go.Lib
@[irreducible] noncomputable def zH (t : ByteArray) : ByteArray := t.extract 0 (zN t)
@[irreducible] noncomputable def zT (t : ByteArray) : ByteArray := if zPt t = true then t.extract (zN t + 1) (zM t) else ⟨#[]⟩
@[irreducible] noncomputable def zW (t : ByteArray) : ByteArray := if zX t = true then t.extract (zM t + 1) t.size else ⟨#[48]⟩
def PtP (t : ByteArray) (w : World) (e : Ending) (w' : World) : Prop := (∃ (a b c : ByteArray) (ok : Bool), e = .returned (.tuple #[.string a, .string b, .string c, .bool ok]) ∧ (ok = true ↔ zOk t) ∧ (ok = true → a = zH t ∧ b = zT t ∧ c = zW t)) ∧ Below w.heap.size w w'
theorem ext_from (t : ByteArray) (i a : Nat) : (t.extract i t.size).extract a (t.extract i t.size).size = t.extract (i + a) t.size := by
  apply ba_eq
  rw [ba_from, ba_from, ba_from, List.drop_drop]
theorem PtP.no {t : ByteArray} {a b c : ByteArray} {w w' : World} (h : ¬ zOk t) (hb : Below w.heap.size w w') : PtP t w (.returned (.tuple #[.string a, .string b, .string c, .bool false])) w' := ⟨⟨a, b, c, false, rfl, ⟨fun k => absurd k Bool.false_ne_true, fun k => absurd k h⟩, fun k => absurd k Bool.false_ne_true⟩, hb⟩
theorem PtP.of {t : ByteArray} {a b c : ByteArray} {ok : Bool} {w w' : World} (h : ok = true ↔ zOk t) (h1 : a = zH t) (h2 : b = zT t) (h3 : c = zW t) (hb : Below w.heap.size w w') : PtP t w (.returned (.tuple #[.string a, .string b, .string c, .bool ok])) w' := ⟨⟨a, b, c, ok, rfl, h, fun _ => ⟨h1, h2, h3⟩⟩, hb⟩
end Go.Proofs.YtajcapliokblfaaDoor
namespace Go.Proofs.YtajcapliokblfaaDoor
open Go Go.RowKit Nt Go.Lib
end Go.Proofs.YtajcapliokblfaaDoor
namespace Go.Proofs.YtajcapliokblfaaDoor
open Go Go.RowKit Nt Go.Lib
end Go.Proofs.YtajcapliokblfaaDoor
namespace Go.Proofs.YtajcapliokblfaaDoor
open Go Go.RowKit Nt Go.Lib
end Go.Proofs.YtajcapliokblfaaDoor
namespace Go.Proofs.YtajcapliokblfaaDoor
open Go Go.RowKit Nt
theorem ten_bytes (n : Nat) : nd 256 (10 ^ n) ≤ 5 * (n / 12 + 1) := by
  refine nd_le (by omega) ?_
  have h1 : (10 : Nat) ^ n ≤ 10 ^ (12 * (n / 12 + 1)) := Nat.pow_le_pow_right (by omega) (by omega)
  rw [Nat.pow_mul] at h1
  rw [Nat.pow_mul]
  exact Nat.lt_of_le_of_lt h1 (Nat.pow_lt_pow_left (by decide) (by omega))
theorem num_bytes {s : ByteArray} (h : Digits s) : nd 256 (preV s s.size) ≤ 5 * (s.size / 12 + 1) :=
  Nat.le_trans (nd_mono (by omega) (Nat.le_of_lt (dig_pre h s.size (Nat.le_refl _)))) (ten_bytes _)
theorem dc_fits {s : ByteArray} (h : dcOk s) : Bq (dcQ s) 3900 := by
  obtain ⟨h1, h2, h3⟩ := h
  have hb := zB_le (offB 45 s)
  have ho := offB_size 45 s
  have hd := num_bytes (zD_dig (offB 45 s))
  have hz := zD_size (offB 45 s)
  have hu := ten_bytes (dcU (offB 45 s))
  have hv := ten_bytes (dcV (offB 45 s))
  have hm := dcM_le (offB 45 s)
  have hu2 : dcU (offB 45 s) ≤ 5000 := by unfold dcU; split <;> omega
  have hv2 : dcV (offB 45 s) ≤ 9096 := by unfold dcV; split <;> omega
  unfold dcQ
  refine Bq_fr (Nat.pos_iff_ne_zero.1 (Nat.pow_pos (by omega))) ?_ ?_
  · refine Nat.le_trans (ndB_mul _ _) ?_
    omega
  · omega
end Go.Proofs.YtajcapliokblfaaDoor
namespace Go.Proofs.YtajcapliokblfaaDoor
open Go Go.RowKit Nt
section
variable [Env]
end
open Classical in
@[irreducible] noncomputable def nrF (s : ByteArray) : Nat := if dcOk s then (if qN (dcQ s) = 0 then Bt.wf (begB 45 s) 0 else QW 0 (dcQ s)) else 0
theorem nrF_z {s : ByteArray} (h : dcOk s) (h0 : qN (dcQ s) = 0) : nrF s = Bt.wf (begB 45 s) 0 := by unfold nrF; rw [if_pos h, if_pos h0]
theorem nrF_q {s : ByteArray} (h : dcOk s) (h0 : qN (dcQ s) ≠ 0) : nrF s = QW 0 (dcQ s) := by unfold nrF; rw [if_pos h, if_neg h0]
theorem dc_fit {s : ByteArray} (h : dcOk s) : qfits (dcQ s) := ⟨fits_nd (dc_fits h).1 (by decide), fits_nd (dc_fits h).2 (by decide)⟩
theorem dc_val {s : ByteArray} (h : dcOk s) : dcG s = qG (dcQ s) ∧ dcN s = natS (qN (dcQ s)) ∧ dcD s = natS (qD (dcQ s)) ∧ dcE s = 0 := by
  obtain ⟨e1, e2, e3, e4⟩ := dc_ok h
  obtain ⟨f1, f2, f3, f4⟩ := rs_ok (dc_fit h)
  rw [e1, e2, e3, e4]; exact ⟨f1, f2, f3, f4⟩
theorem dcE_no {s : ByteArray} (h : ¬ dcOk s) : dcE s ≠ 0 := by
  by_cases h4 : 4096 < s.size
  · rw [(dc_long h4).2.2.2]; decide
  · by_cases hz : zOk (offB 45 s)
    · rw [(dc_far (by omega) hz (fun c => h ⟨by omega, hz, c⟩)).2.2.2]; decide
    · rw [(dc_bad (by omega) hz).2.2.2]; decide
theorem PDec_q (s : ByteArray) (h : dcOk s) (hz : s.size ≤ 9223372036854775806) (w : World) : Calls Tryd.prog 17 #[.string s] w fun e w' => e = .returned (.tuple #[qv (dcQ s), .int .i64 0]) ∧ Below w.heap.size w w' := by
  have := PDecimal_c s w (by omega)
  unfold DcPost at this
  obtain ⟨e1, e2, e3, e4⟩ := dc_val h
  rwa [e1, e2, e3, e4] at this
theorem nat_nil {n : Nat} : natS n = ⟨#[]⟩ ↔ n = 0 := by
  constructor
  · intro h
    have := congrArg bytesN h
    rw [bytesN_natS] at this
    exact this
  · rintro rfl; exact natS_zero
theorem QW_z {q : Rat} (h : qN q = 0) : QW 0 q = Bt.wf false 0 := by
  have e : QW 0 q = 0 := by unfold QW; exact if_pos h
  rw [e, Bt.wf_eq]; rfl
@[reducible] def PNear_q_f : FuncId := 18
@[reducible] def PNear_q_a : List AV := [.sym 0]
@[reducible] noncomputable def PNear_q_k (b1 b2 : Bool) : Know := ⟨[([0, 11, 23], [.sym 2, .lit (.string ⟨#[]⟩)], .lit (.bool b2))],
  [(17, [.sym 0], .tup [.agg [.sym 1, .sym 2, .sym 3], .lit (.int .i64 0)]),
  (36, [.sym 0, .lit (.string ⟨#[45]⟩)], .lit (.bool b1)),
  (37, [.lit (.float .f64 0), .lit (.float .f64 13830554455654793216)], .sym 4),
  (38, [.agg [.sym 1, .sym 2, .sym 3]], .tup [.sym 5, .lit (.int .i64 0)])]⟩
theorem PNear_q_r1 : @comes (PNear_q_k true true) Tryd.prog glT 3000 PNear_q_f PNear_q_a = some (.tup [.sym 4, .lit (.int .i64 0)]) := by kernel_rfl
theorem PNear_q_r2 : @comes (PNear_q_k false true) Tryd.prog glT 3000 PNear_q_f PNear_q_a = some (.tup [.sym 5, .lit (.int .i64 0)]) := by kernel_rfl
theorem PNear_q_r3 (b1 : Bool) : @comes (PNear_q_k b1 false) Tryd.prog glT 3000 PNear_q_f PNear_q_a = some (.tup [.sym 5, .lit (.int .i64 0)]) := by kernel_rfl
set_option maxRecDepth 100000 in
set_option maxHeartbeats 4000000 in
theorem PNear_q (s : ByteArray) (w : World) (hG : Globs glT w) (h : dcOk s) (hz : s.size ≤ 9223372036854775806) : Calls Tryd.prog 18 #[.string (s)] w fun e w' => e = .returned (.tuple #[.float .f64 (nrF s), .int .i64 0]) ∧ Below w.heap.size w w' := by
  obtain ⟨b1, i1⟩ := bex (begB 45 s = true)
  obtain ⟨b2, i2⟩ := bex (natS (qN (dcQ s)) = ⟨#[]⟩)
  letI : Env := mkEnv glT [.string (s), .bool (qG (dcQ s)), .string (natS (qN (dcQ s))), .string (natS (qD (dcQ s))), .float .f64 (Bt.wf true 0), .float .f64 (QW 0 (dcQ s))] rfl
  have hops : OpsT Tryd.prog (@Know.ops (PNear_q_k b1 b2)) := ⟨optS_eql_i rfl rfl i2,
    trivial⟩
  have hcalls : CallsT Tryd.prog (@Know.calls (PNear_q_k b1 b2)) := ⟨callt rfl rfl fun w hG => PDec_q s h hz w,
    callt rfl rfl fun w hG => (by have hh := PHasPrefix_c 45 s w; rwa [← show _ = begB 45 s from Bool.eq_iff_iff.2 i1] at hh),
    callt rfl rfl fun w hG => (rCopysign_c 0 (by decide) w).mono fun e w' hh => ⟨hh.1, by rw [hh.2]; exact Below.refl _ _⟩,
    callt rfl rfl fun w hG => PFloat_c (dcQ s) w hG (dc_fit h),
    trivial⟩
  have fin : ∀ v, @comes (PNear_q_k b1 b2) Tryd.prog glT 3000 PNear_q_f PNear_q_a = some v → ground v = true → Ending.returned (gval v) = .returned (.tuple #[.float .f64 (nrF s), .int .i64 0]) → Calls Tryd.prog 18 #[.string (s)] w fun e w' => e = .returned (.tuple #[.float .f64 (nrF s), .int .i64 0]) ∧ Below w.heap.size w w' := fun v h1 h2 h3 => (@sym_ok _ (PNear_q_k b1 b2) _ (@KnowOk.of _ (PNear_q_k b1 b2) _ hops hcalls) (by kernel_rfl) _ _ _ _ h1 rfl h2 _ hG).mono fun e w' h => ⟨h.1.trans h3, h.2⟩
  clear hops hcalls
  cases b2 with
  | true =>
    have h2 : natS (qN (dcQ s)) = ⟨#[]⟩ := i2.1 rfl
    cases b1 with
    | true =>
      have h1 : begB 45 s = true := i1.1 rfl
      exact fin _ (PNear_q_r1) rfl (show Ending.returned (.tuple #[.float .f64 (Bt.wf true 0), .int .i64 0]) = .returned (.tuple #[.float .f64 (nrF s), .int .i64 0]) from (by rw [nrF_z h (nat_nil.1 h2), h1]))
    | false =>
      have h1 : ¬ (begB 45 s = true) := fun c => Bool.false_ne_true (i1.2 c)
      exact fin _ (PNear_q_r2) rfl (show Ending.returned (.tuple #[.float .f64 (QW 0 (dcQ s)), .int .i64 0]) = .returned (.tuple #[.float .f64 (nrF s), .int .i64 0]) from (by rw [nrF_z h (nat_nil.1 h2), Bool.eq_false_iff.2 h1, QW_z (nat_nil.1 h2)]))
  | false =>
    have h2 : ¬ (natS (qN (dcQ s)) = ⟨#[]⟩) := fun c => Bool.false_ne_true (i2.2 c)
    exact fin _ (PNear_q_r3 b1) rfl (show Ending.returned (.tuple #[.float .f64 (QW 0 (dcQ s)), .int .i64 0]) = .returned (.tuple #[.float .f64 (nrF s), .int .i64 0]) from (by rw [nrF_q h (fun c => h2 (nat_nil.2 c))]))
end Go.Proofs.YtajcapliokblfaaDoor
namespace Go.Proofs.YtajcapliokblfaaDoor
open Go Go.RowKit Nt Go.Lib
theorem begB_own (c : UInt8) (u : ByteArray) : begB c (⟨#[c]⟩ ++ u) = true ∧ offB c (⟨#[c]⟩ ++ u) = u := by
  have hs : (ByteArray.mk #[c]).size = 1 := rfl
  have hb : begB c (⟨#[c]⟩ ++ u) = true := by
    refine begB_iff.2 ⟨by rw [ByteArray.size_append]; omega, ?_⟩
    rw [ByteArray.getElem_append_left (by rw [hs]; decide)]
    rfl
  refine ⟨hb, ?_⟩
  rw [offB_t hb]
  apply ba_eq
  rw [ba_from, ba_app, ba_one]
  rfl
def NoB (c : UInt8) (u : ByteArray) : Prop := ∀ k (h : k < u.size), u[k] ≠ c
theorem begB_no {c : UInt8} {u : ByteArray} (h : ∀ h0 : 0 < u.size, u[0] ≠ c) : begB c u = false ∧ offB c u = u := by
  have hb : begB c u = false := Bool.eq_false_iff.2 (fun k => by
    obtain ⟨a, b⟩ := begB_iff.1 k
    exact h a b)
  exact ⟨hb, offB_f (by rw [hb]; exact Bool.false_ne_true)⟩
theorem ixB_eq {c : UInt8} {s : ByteArray} {n : Nat} (hn : n ≤ s.size) (h1 : ∀ k (h : k < s.size), k < n → s[k] ≠ c) (h2 : ∀ h : n < s.size, s[n] = c) : ixB c s = n := by
  have hl := ixB_le c s
  rcases Nat.lt_trichotomy (ixB c s) n with h | h | h
  · have := (ixB_get c s (ixB c s) (by omega)).2 rfl
    exact absurd this (h1 _ (by omega) h)
  · exact h
  · exact absurd (h2 (by omega)) ((ixB_get c s n (by omega)).1 h)
theorem hasB_no {c : UInt8} {u : ByteArray} (h : NoB c u) : hasB c u = false ∧ headB c u = u := by
  have e : ixB c u = u.size := ixB_eq (Nat.le_refl _) (fun k hk _ => h k hk) (fun hh => by omega)
  have hb : hasB c u = false := Bool.eq_false_iff.2 (fun k => by have := hasB_iff.1 k; omega)
  exact ⟨hb, (cut_split c u).2 (by rw [hb]; exact Bool.false_ne_true)⟩
theorem hasB_mid {c : UInt8} {u v : ByteArray} (h : NoB c u) : hasB c (u ++ (⟨#[c]⟩ ++ v)) = true ∧ headB c (u ++ (⟨#[c]⟩ ++ v)) = u ∧ tailB c (u ++ (⟨#[c]⟩ ++ v)) = v := by
  have h1 : (ByteArray.mk #[c]).size = 1 := rfl
  have hs : (u ++ (⟨#[c]⟩ ++ v)).size = u.size + (1 + v.size) := by rw [ByteArray.size_append, ByteArray.size_append, h1]
  have e : ixB c (u ++ (⟨#[c]⟩ ++ v)) = u.size := ixB_eq (by omega) (fun k hk hku => by rw [ByteArray.getElem_append_left hku]; exact h k hku) (fun hh => by
    rw [ByteArray.getElem_append_right (Nat.le_refl _), ByteArray.getElem_append_left (by rw [h1]; omega)]
    have this : ∀ i (hi : i = 0) (h : i < (ByteArray.mk #[c]).size), (ByteArray.mk #[c])[i] = c := by
      intro i hi h
      subst hi
      rfl
    exact this _ (by omega) _)
  have hb : hasB c (u ++ (⟨#[c]⟩ ++ v)) = true := hasB_iff.2 (by rw [e, hs]; omega)
  have hl : u.data.toList.length = u.size := rfl
  refine ⟨hb, ?_, ?_⟩
  · unfold headB
    rw [if_pos hb, e]
    apply ba_eq
    rw [ba_upto, ba_app, List.take_append_of_le_length (by rw [hl]; exact Nat.le_refl _), List.take_of_length_le (by rw [hl]; exact Nat.le_refl _)]
  · unfold tailB
    rw [if_pos hb, e]
    apply ba_eq
    rw [ba_from, ba_app, ba_app, ba_one, List.drop_append, hl, List.drop_of_length_le (by rw [hl]; omega), show u.size + 1 - u.size = 1 by omega]
    rfl
theorem dig_no {c : UInt8} {u : ByteArray} (h : Digits u) (hc : c.toNat < 48 ∨ 57 < c.toNat) : NoB c u := fun k hk e => by
  have := h k hk
  unfold isDig at this
  rw [e] at this
  omega
theorem rt_dec (n : Nat) (hf : fits n) : rtS (decS n) = natS n ∧ rtE (decS n) = 0 := by
  obtain ⟨hv, hp⟩ := pre_of_dec n
  unfold rtS rtE
  rw [if_pos hv, if_pos hv, hp, resS_ok hf, resE_ok hf]
  exact ⟨rfl, rfl⟩
theorem dec_first (n : Nat) (v : ByteArray) (c : UInt8) (hc : c.toNat < 48 ∨ 57 < c.toNat) : ∀ h0 : 0 < (decS n ++ v).size, (decS n ++ v)[0] ≠ c := fun h0 => by
  have hv := (pre_of_dec n).1
  rw [ByteArray.getElem_append_left hv.1]
  exact dig_no hv.2.1 hc 0 hv.1
theorem rd_txt (q : Rat) (h : qfits q) : rdR (txR (qG q) (qN q) (qD q)) = ⟨qG q, natS (qN q), natS (qD q)⟩ ∧ rdE (txR (qG q) (qN q) (qD q)) = 0 := by
  have hvn := (pre_of_dec (qN q)).1
  have hvd := (pre_of_dec (qD q)).1
  obtain ⟨n1, n2⟩ := rt_dec (qN q) h.1
  obtain ⟨d1, d2⟩ := rt_dec (qD q) h.2
  have hmay : mayR ⟨qG q, natS (qN q), natS (qD q)⟩ = true := mayR_iff.2 ⟨q, h, rfl⟩
  have key : ∀ (s core : ByteArray), begB 45 s = qG q → offB 45 s = core → (qD q = 1 → core = decS (qN q)) → (qD q ≠ 1 → core = decS (qN q) ++ (⟨#[47]⟩ ++ decS (qD q))) → rdR s = ⟨qG q, natS (qN q), natS (qD q)⟩ ∧ rdE s = 0 := by
    intro s core hb ho hc1 hc2
    by_cases hd : qD q = 1
    · have hc := hc1 hd
      obtain ⟨e1, e2⟩ := hasB_no (dig_no hvn.2.1 (c := 47) (by decide))
      rw [← hc, ← ho] at e1 e2
      have hX : rdX s = ⟨qG q, natS (qN q), natS (qD q)⟩ := by
        rw [rdX_f (by rw [e1]; exact Bool.false_ne_true), hb, e2, ho, hc, n1, hd, natS_1r]
      have hok : rdOk s := ⟨by rw [e2, ho, hc]; exact n2, (fun c => by rw [e1] at c; cases c), by rw [hX]; exact hmay⟩
      obtain ⟨r1, r2⟩ := rd_ok hok
      exact ⟨r1.trans hX, r2⟩
    · have hc := hc2 hd
      obtain ⟨e1, e2, e3⟩ := hasB_mid (c := 47) (v := decS (qD q)) (dig_no hvn.2.1 (c := 47) (by decide))
      rw [← hc, ← ho] at e1 e2 e3
      have hX : rdX s = ⟨qG q, natS (qN q), natS (qD q)⟩ := by
        rw [rdX_t e1, hb, e2, e3, n1, d1]
      have hok : rdOk s := ⟨by rw [e2]; exact n2, fun _ => ⟨by rw [e3]; exact d2, by rw [e3, d1]; exact fun c => hd (one_iff.1 c)⟩, by rw [hX]; exact hmay⟩
      obtain ⟨r1, r2⟩ := rd_ok hok
      exact ⟨r1.trans hX, r2⟩
  by_cases hg : qG q = true
  · by_cases hd : qD q = 1
    · obtain ⟨b1, b2⟩ := begB_own 45 (decS (qN q))
      have e : txR (qG q) (qN q) (qD q) = ⟨#[45]⟩ ++ decS (qN q) := tx_tt hg (one_iff.2 hd)
      exact key _ _ (by rw [e, b1, hg]) (by rw [e, b2]) (fun _ => rfl) (fun c => absurd hd c)
    · obtain ⟨b1, b2⟩ := begB_own 45 (decS (qN q) ++ (⟨#[47]⟩ ++ decS (qD q)))
      have e : txR (qG q) (qN q) (qD q) = ⟨#[45]⟩ ++ (decS (qN q) ++ (⟨#[47]⟩ ++ decS (qD q))) := by
        rw [tx_tf hg (fun c => hd (one_iff.1 c)), ByteArray.append_assoc]
      exact key _ _ (by rw [e, b1, hg]) (by rw [e, b2]) (fun c => absurd c hd) (fun _ => rfl)
  · have hg' : qG q = false := by cases hh : qG q with
      | false => rfl
      | true => exact absurd hh hg
    by_cases hd : qD q = 1
    · obtain ⟨b1, b2⟩ := begB_no (c := 45) (u := decS (qN q)) (fun h0 => dig_no hvn.2.1 (by decide) 0 h0)
      have e : txR (qG q) (qN q) (qD q) = decS (qN q) := tx_ft hg (one_iff.2 hd)
      exact key _ _ (by rw [e, b1, hg']) (by rw [e, b2]) (fun _ => rfl) (fun c => absurd hd c)
    · obtain ⟨b1, b2⟩ := begB_no (dec_first (qN q) (⟨#[47]⟩ ++ decS (qD q)) 45 (by decide))
      have e : txR (qG q) (qN q) (qD q) = decS (qN q) ++ (⟨#[47]⟩ ++ decS (qD q)) := tx_ff hg (fun c => hd (one_iff.1 c))
      exact key _ _ (by rw [e, b1, hg']) (by rw [e, b2]) (fun c => absurd c hd) (fun _ => rfl)
theorem txt_rd {s : ByteArray} (h : rdOk s) : ∃ q, qfits q ∧ rdR s = ⟨qG q, natS (qN q), natS (qD q)⟩ ∧ txR (qG q) (qN q) (qD q) = s := by
  obtain ⟨q, hq0, hq⟩ := mayR_iff.1 h.2.2
  refine ⟨q, hq0, (rd_ok h).1.trans hq, ?_⟩
  by_cases hp : hasB 47 (offB 45 s) = true
  · exact (txt_t hp h.1 (h.2.1 hp).1 hq).2 (h.2.1 hp).2
  · exact txt_f hp h.1 hq
theorem dec_small {n k : Nat} (h : nd 256 n ≤ k) : (decS n).size ≤ 3 * k + 1 := by
  rw [decS_size]
  unfold dlen
  split
  · omega
  · refine Nat.le_succ_of_le (nd_le (by omega) ?_)
    have h1 := lt_nd (b := 256) (n := n) (by omega)
    have h2 : 256 ^ nd 256 n ≤ 256 ^ k := Nat.pow_le_pow_right (by omega) h
    rw [Nat.pow_mul]
    exact Nat.lt_of_lt_of_le h1 (Nat.le_trans h2 (Nat.pow_le_pow_left (by decide) _))
theorem txt_small (q : Rat) (h : Bq q 300) : (txR (qG q) (qN q) (qD q)).size ≤ 2000 := by
  have h1 := dec_small h.1
  have h2 := dec_small h.2
  have e1 : (ByteArray.mk #[45]).size = 1 := rfl
  have e2 : (ByteArray.mk #[47]).size = 1 := rfl
  unfold txR
  split <;> split <;> (try simp only [ByteArray.size_append]) <;> omega
end Go.Proofs.YtajcapliokblfaaDoor
namespace Go.Proofs.YtajcapliokblfaaDoor
open Go Go.RowKit Nt Go.Lib
theorem zE_at {t : ByteArray} {i n : Nat} (hi : i ≤ n) (hn : n ≤ t.size) (h1 : ∀ k (h : k < t.size), i ≤ k → k < n → isDgB t[k] = true) (h2 : ∀ h : n < t.size, isDgB t[n] = false) : zE t i = n := by
  have hg := zE_le t i (by omega)
  have hge := zE_ge t i
  rcases Nat.lt_trichotomy (zE t i) n with h | h | h
  · have a := zE_out t i (by omega) (by omega)
    rw [h1 _ (by omega) (by omega) h] at a; cases a
  · exact h
  · have a := zE_in t i n hi h (by omega)
    rw [h2 (by omega)] at a; cases a
@[irreducible] def zer (k : Nat) : ByteArray := ⟨(List.replicate k 48).toArray⟩
theorem zer_size (k : Nat) : (zer k).size = k := by unfold zer; show (Array.size _) = _; simp
theorem zer_list (k : Nat) : (zer k).data.toList = List.replicate k 48 := by unfold zer; rfl
theorem zer_get (k j : Nat) (h : j < (zer k).size) : (zer k)[j] = 48 := by
  have e : (zer k).data.toList[j]'h = (zer k)[j] := rfl
  rw [← e]
  have : ∀ (l : List UInt8) (hl : l = List.replicate k 48) (hk : j < l.length), l[j] = 48 := by
    intro l hl hk; subst hl; simp
  exact this _ (zer_list k) _
theorem zer_succ (k : Nat) : zer k ++ ⟨#[48]⟩ = zer (k + 1) := by
  apply ba_eq
  rw [ba_app, zer_list, zer_list, ba_one, List.replicate_succ']
theorem zer_zero : zer 0 = ⟨#[]⟩ := ba_eq (by rw [zer_list]; rfl)
def insB (t : ByteArray) (m : Nat) (z : ByteArray) : ByteArray := t.extract 0 m ++ (z ++ t.extract m t.size)
theorem insB_size {t z : ByteArray} {m : Nat} (hm : m ≤ t.size) : (insB t m z).size = t.size + z.size := by
  unfold insB
  rw [ByteArray.size_append, ByteArray.size_append, ByteArray.size_extract, ByteArray.size_extract]
  omega
theorem insB_l {t z : ByteArray} {m k : Nat} (hm : m ≤ t.size) (hk : k < m) (h : k < (insB t m z).size) : (insB t m z)[k] = t[k]'(by omega) := by
  have hs : (t.extract 0 m).size = m := by rw [ByteArray.size_extract]; omega
  have h' : k < (t.extract 0 m ++ (z ++ t.extract m t.size)).size := h
  show (t.extract 0 m ++ (z ++ t.extract m t.size))[k]'h' = _
  rw [ByteArray.getElem_append_left (by rw [hs]; exact hk), ByteArray.getElem_extract]
  congr 1; omega
theorem insB_z {t z : ByteArray} {m j : Nat} (hm : m ≤ t.size) (hj : j < z.size) (h : m + j < (insB t m z).size) : (insB t m z)[m + j] = z[j] := by
  have hs : (t.extract 0 m).size = m := by rw [ByteArray.size_extract]; omega
  have h' : m + j < (t.extract 0 m ++ (z ++ t.extract m t.size)).size := h
  show (t.extract 0 m ++ (z ++ t.extract m t.size))[m + j]'h' = _
  rw [ByteArray.getElem_append_right (by rw [hs]; omega), ByteArray.getElem_append_left (by rw [hs]; omega)]
  congr 1; omega
theorem insB_r {t z : ByteArray} {m k : Nat} (hm : m ≤ k) (hk : k < t.size) (h : k + z.size < (insB t m z).size) : (insB t m z)[k + z.size] = t[k] := by
  have hs : (t.extract 0 m).size = m := by rw [ByteArray.size_extract]; omega
  have h' : k + z.size < (t.extract 0 m ++ (z ++ t.extract m t.size)).size := h
  show (t.extract 0 m ++ (z ++ t.extract m t.size))[k + z.size]'h' = _
  rw [ByteArray.getElem_append_right (by rw [hs]; omega), ByteArray.getElem_append_right (by rw [hs]; omega), ByteArray.getElem_extract]
  congr 1; rw [hs]; omega
theorem insB_from {t z : ByteArray} {m j : Nat} (hm : m ≤ t.size) (hj : m ≤ j) : (insB t m z).extract (j + z.size) (insB t m z).size = t.extract j t.size := by
  apply ba_eq
  have h1 : (t.data.toList.take m).length = m := by rw [List.length_take]; show min m t.size = m; omega
  have h2 : z.data.toList.length = z.size := rfl
  rw [ba_from, ba_from]
  unfold insB
  rw [ba_app, ba_app, ba_upto, ba_from, List.drop_append, h1, List.drop_of_length_le (by rw [h1]; omega), List.nil_append, List.drop_append, h2, List.drop_of_length_le (by rw [h2]; omega), List.nil_append, List.drop_drop]
  congr 1; omega
theorem insB_aL {t z : ByteArray} {m k c : Nat} (hm : m ≤ t.size) (hk : k < m) : isAt (insB t m z) k c ↔ isAt t k c := by
  have hs := insB_size (z := z) hm
  constructor
  · rintro ⟨a, b⟩
    rw [insB_l hm hk] at b
    exact ⟨by omega, b⟩
  · rintro ⟨a, b⟩
    exact ⟨by omega, by rw [insB_l hm hk]; exact b⟩
theorem insB_aR {t z : ByteArray} {m k c : Nat} (hm : m ≤ t.size) (hk : m ≤ k) : isAt (insB t m z) (k + z.size) c ↔ isAt t k c := by
  have hs := insB_size (z := z) hm
  constructor
  · rintro ⟨a, b⟩
    rw [insB_r hk (by omega)] at b
    exact ⟨by omega, b⟩
  · rintro ⟨a, b⟩
    exact ⟨by omega, by rw [insB_r hk a]; exact b⟩
theorem list_ins (l r zl : List UInt8) (M a : Nat) (hM : M ≤ l.length) (ha : a ≤ M) : ((l.take M ++ (zl ++ r)).drop a).take (M + zl.length - a) = (l.drop a).take (M - a) ++ zl := by
  have h1 : ((l.take M).drop a).length = M - a := by rw [List.length_drop, List.length_take]; omega
  have e2 : ((l.take M).drop a).take (M + zl.length - a) = (l.take M).drop a := List.take_of_length_le (by rw [h1]; omega)
  have e3 : (zl ++ r).take zl.length = zl := by rw [List.take_append_of_le_length (Nat.le_refl _), List.take_length]
  rw [List.drop_append_of_le_length (by rw [List.length_take]; omega), List.take_append, h1, e2, List.drop_take, show M + zl.length - a - (M - a) = zl.length by omega, e3]
theorem dgB_not {c : UInt8} {n : Nat} (h : c.toNat = n) (hn : n < 48 ∨ 57 < n) : isDgB c = false := by
  cases hh : isDgB c with
  | false => rfl
  | true => have := (isDgB_iff c).1 hh; omega
noncomputable def zIn (t : ByteArray) (k : Nat) : ByteArray := if zPt t = true then zer k else ⟨#[46]⟩ ++ zer k
theorem zIn_head {t : ByteArray} (h : zOk t) (k : Nat) (hk : zPt t = true ∨ 0 < k) : zN (insB t (zM t) (zIn t k)) = zN t ∧ zPt (insB t (zM t) (zIn t k)) = true ∧ zM (insB t (zM t) (zIn t k)) = zM t + (zIn t k).size ∧ zN t + 1 < zM t + (zIn t k).size ∧ zB (insB t (zM t) (zIn t k)) = zB t + k ∧ zD (insB t (zM t) (zIn t k)) = zD t ++ zer k := by
  have hM := zM_le t
  have hN0 := zN_le t
  have hs := insB_size (z := zIn t k) hM
  have hNin : ∀ j (hj : j < t.size), j < zN t → isDgB t[j] = true := fun j hj hjn => zE_in t 0 j (Nat.zero_le _) (by unfold zN at hjn; exact hjn) hj
  have c46 : isDgB 46 = false := rfl
  have c48 : isDgB 48 = true := rfl
  by_cases hp : zPt t = true
  · have hz : zIn t k = zer k := if_pos hp
    have hlt := h.2.2.1 hp
    obtain ⟨hp1, hp2⟩ := zPt_iff.1 hp
    have hMt := zM_t hp
    rw [hz] at hs ⊢
    have hzs := zer_size k
    have eN : zN (insB t (zM t) (zer k)) = zN t := by
      unfold zN
      refine zE_at (Nat.zero_le _) (by unfold zN at hN0; omega) (fun j hj _ hjn => ?_) (fun hh => ?_)
      · have hjn' : j < zN t := by unfold zN; exact hjn
        rw [insB_l hM (by omega)]
        exact hNin j (by omega) hjn'
      · have : zE t 0 = zN t := by unfold zN; rfl
        simp only [this]
        rw [insB_l hM (by omega)]
        exact dgB_not hp2 (by decide)
    have eP : zPt (insB t (zM t) (zer k)) = true := by
      rw [zPt_iff, eN]
      exact (insB_aL hM (by omega)).2 ⟨hp1, hp2⟩
    have eM : zM (insB t (zM t) (zer k)) = zM t + (zer k).size := by
      rw [zM_t eP, eN]
      refine zE_at (by omega) (by omega) (fun j hj h1 h2 => ?_) (fun hh => ?_)
      · by_cases hjm : j < zM t
        · rw [insB_l hM hjm]
          exact zE_in t (zN t + 1) j h1 (by omega) (by omega)
        · obtain ⟨i, rfl⟩ : ∃ i, j = zM t + i := ⟨j - zM t, by omega⟩
          rw [insB_z hM (by omega), zer_get]; exact c48
      · have hh2 : zM t < t.size := by omega
        rw [insB_r (Nat.le_refl _) hh2]
        have := zE_out t (zN t + 1) (by omega) (by omega)
        simp only [← hMt] at this
        exact this
    refine ⟨eN, eP, eM, by omega, ?_, ?_⟩
    · unfold zB
      rw [if_pos eP, if_pos hp, eM, eN]; omega
    · unfold zD
      rw [if_pos eP, if_pos hp, eM, eN]
      apply ba_eq
      have l1 : (t.data.toList.take (zM t)).length = zM t := by rw [List.length_take]; show min _ t.size = _; omega
      rw [ba_app, ba_app, ba_app, ba_upto, ba_upto, ba_ext, ba_ext, zer_list]
      unfold insB
      rw [ba_app, ba_app, ba_upto, ba_from, zer_list]
      rw [List.take_append_of_le_length (by rw [l1]; omega), List.take_take, Nat.min_eq_left (by omega), List.append_assoc]
      congr 1
      have := list_ins t.data.toList (t.data.toList.drop (zM t)) (List.replicate k 48) (zM t) (zN t + 1) hM (by omega)
      rw [List.length_replicate] at this
      rw [hzs]
      exact this
  · have hk0 : 0 < k := hk.resolve_left hp
    have hz : zIn t k = ⟨#[46]⟩ ++ zer k := if_neg hp
    have hMf := zM_f hp
    rw [hz] at hs ⊢
    have hzk := zer_size k
    have h1 : (ByteArray.mk #[46]).size = 1 := rfl
    have hzs : (⟨#[46]⟩ ++ zer k : ByteArray).size = 1 + k := by rw [ByteArray.size_append, hzk, h1]
    have z0 : ∀ hh : 0 < (⟨#[46]⟩ ++ zer k : ByteArray).size, (⟨#[46]⟩ ++ zer k : ByteArray)[0] = 46 := fun hh => by
      rw [ByteArray.getElem_append_left (by rw [h1]; decide)]; rfl
    have eN : zN (insB t (zM t) (⟨#[46]⟩ ++ zer k)) = zN t := by
      unfold zN
      refine zE_at (Nat.zero_le _) (by unfold zN at hN0; omega) (fun j hj _ hjn => ?_) (fun hh => ?_)
      · have hjn' : j < zN t := by unfold zN; exact hjn
        rw [insB_l hM (by omega)]
        exact hNin j (by omega) hjn'
      · have e : zE t 0 = zM t + 0 := by rw [hMf]; unfold zN; rfl
        simp only [e]
        rw [insB_z hM (by omega), z0]; exact c46
    have eP : zPt (insB t (zM t) (⟨#[46]⟩ ++ zer k)) = true := by
      rw [zPt_iff, eN, ← hMf]
      refine ⟨by omega, ?_⟩
      have := insB_z (t := t) (z := ⟨#[46]⟩ ++ zer k) (m := zM t) (j := 0) hM (by omega) (by omega)
      simp only [Nat.add_zero] at this
      rw [this, z0]; rfl
    have eM : zM (insB t (zM t) (⟨#[46]⟩ ++ zer k)) = zM t + (⟨#[46]⟩ ++ zer k : ByteArray).size := by
      rw [zM_t eP, eN, ← hMf]
      refine zE_at (by omega) (by omega) (fun j hj h1' h2 => ?_) (fun hh => ?_)
      · obtain ⟨i, rfl⟩ : ∃ i, j = zM t + i := ⟨j - zM t, by omega⟩
        rw [insB_z hM (by omega), ByteArray.getElem_append_right (by rw [h1]; omega), zer_get]; exact c48
      · have hh2 : zM t < t.size := by omega
        rw [insB_r (Nat.le_refl _) hh2]
        have := zE_out t 0 (Nat.zero_le _) (by have e : zE t 0 = zM t := by rw [hMf]; unfold zN; rfl
                                               omega)
        have e : zE t 0 = zM t := by rw [hMf]; unfold zN; rfl
        simp only [e] at this
        exact this
    refine ⟨eN, eP, eM, by omega, ?_, ?_⟩
    · unfold zB
      rw [if_pos eP, if_neg hp, eM, eN]; omega
    · unfold zD
      rw [if_pos eP, if_neg hp, eM, eN, ← hMf]
      apply ba_eq
      have l1 : (t.data.toList.take (zM t)).length = zM t := by rw [List.length_take]; show min _ t.size = _; omega
      rw [ba_app, ba_app, ba_app, ba_upto, ba_upto, ba_ext, zer_list]
      unfold insB
      rw [ba_app, ba_app, ba_app, ba_upto, ba_from, zer_list, ba_one]
      have e0 : (ByteArray.mk #[]).data.toList = [] := rfl
      rw [List.take_append_of_le_length (by rw [l1]; exact Nat.le_refl _), List.take_take, Nat.min_self, e0, List.append_nil]
      congr 1
      rw [List.drop_append, l1, List.drop_of_length_le (by rw [l1]; omega), List.nil_append, show zM t + 1 - zM t = 1 by omega]
      show List.take _ (List.replicate k 48 ++ List.drop (zM t) t.data.toList) = List.replicate k 48
      rw [show zM t + (⟨#[46]⟩ ++ zer k : ByteArray).size - (zM t + 1) = k by omega, List.take_append_of_le_length (by simp), List.take_of_length_le (by simp)]
theorem ins_ok {t : ByteArray} (h : zOk t) (k : Nat) (hk : zPt t = true ∨ 0 < k) : zOk (insB t (zM t) (zIn t k)) ∧ zL (insB t (zM t) (zIn t k)) = zL t ∧ zP (insB t (zM t) (zIn t k)) = zP t := by
  obtain ⟨eN, eP, eM, hlt, eB, eD⟩ := zIn_head h k hk
  have hM := zM_le t
  have hs := insB_size (z := zIn t k) hM
  generalize zIn t k = z at *
  have hN1 := h.1
  have hNM : zN t ≤ zM t := by
    by_cases hp : zPt t = true
    · have := h.2.2.1 hp; omega
    · rw [zM_f hp]; exact Nat.le_refl _
  have xi : zX (insB t (zM t) z) = true ↔ zX t = true := by rw [zX_iff, zX_iff, eM]; exact insB_aR hM (Nat.le_refl _)
  have xe : zX (insB t (zM t) z) = zX t := Bool.eq_iff_iff.2 xi
  have li : zL (insB t (zM t) z) = true ↔ zL t = true := by
    rw [zL_iff, zL_iff, eM, insB_aR hM (Nat.le_refl _), show zM t + z.size + 1 = zM t + 1 + z.size by omega, insB_aR hM (by omega)]
  have le : zL (insB t (zM t) z) = zL t := Bool.eq_iff_iff.2 li
  have je : zJ (insB t (zM t) z) = zJ t + z.size := by
    by_cases hl : zL t = true
    · rw [zJ_t hl, zJ_t (li.2 hl), eM]; omega
    · rw [zJ_f hl, zJ_f (fun c => hl (li.1 c)), eM]; omega
  have hJM : zM t ≤ zJ t := by
    by_cases hl : zL t = true
    · rw [zJ_t hl]; omega
    · rw [zJ_f hl]; omega
  refine ⟨⟨by omega, ?_, fun _ => by omega, fun c => ?_, fun c => ?_⟩, le, ?_⟩
  · rw [eN]
    exact h.2.1.imp id (fun d e => d ((insB_aL hM (by omega)).1 e))
  · rw [xi] at c
    have := h.2.2.2.1 c
    rw [eM, hs]; omega
  · rw [xi] at c
    obtain ⟨j1, j2, j3⟩ := h.2.2.2.2 c
    refine ⟨by rw [je, hs]; omega, ?_, fun d => ?_⟩
    · rw [je, hs]
      refine zE_at (by omega) (by omega) (fun i hi h1 h2 => ?_) (fun hh => by omega)
      obtain ⟨i', rfl⟩ : ∃ i', i = i' + z.size := ⟨i - z.size, by omega⟩
      rw [insB_r (by omega) (by omega)]
      exact zE_in t (zJ t) i' (by omega) (by rw [j2]; omega) (by omega)
    · rw [je, insB_aR hM hJM] at d
      obtain ⟨d1, d2⟩ := j3 d
      exact ⟨by rw [le]; exact d1, by rw [hs, je]; omega⟩
  · by_cases hx : zX t = true
    · unfold zP
      rw [if_pos hx, if_pos (xi.2 hx), je]
      exact insB_from hM hJM
    · unfold zP
      rw [if_neg hx, if_neg (fun c => hx (xi.1 c))]
theorem pre_left (a b : ByteArray) (k : Nat) (hk : k ≤ a.size) : preV (a ++ b) k = preV a k := by
  unfold preV
  rw [ba_app, List.take_append_of_le_length hk]
theorem pre_zer (a : ByteArray) (k : Nat) : preV (a ++ zer k) (a ++ zer k).size = preV a a.size * 10 ^ k := by
  have hs : (a ++ zer k).size = a.size + k := by rw [ByteArray.size_append, zer_size]
  rw [hs]
  have key : ∀ j, j ≤ k → preV (a ++ zer k) (a.size + j) = preV a a.size * 10 ^ j := by
    intro j
    induction j with
    | zero => intro _; rw [Nat.add_zero, pre_left _ _ _ (Nat.le_refl _), Nat.pow_zero, Nat.mul_one]
    | succ j ih =>
      intro hj
      rw [show a.size + (j + 1) = (a.size + j) + 1 by omega, preV_succ _ _ (by omega), ih (by omega), ByteArray.getElem_append_right (by omega), zer_get, Nat.pow_succ]
      have : (48 : UInt8).toNat - 48 = 0 := rfl
      rw [this, Nat.add_zero, Nat.mul_comm 10, Nat.mul_assoc]
  exact key k (Nat.le_refl _)
theorem fr_pow (g : Bool) (n a1 b1 a2 b2 : Nat) (h : a1 + b2 = a2 + b1) : fr g (n * 10 ^ a1) (10 ^ b1) = fr g (n * 10 ^ a2) (10 ^ b2) := by
  have p1 : (10 : Nat) ^ b1 ≠ 0 := Nat.pos_iff_ne_zero.1 (Nat.pow_pos (by decide))
  have p2 : (10 : Nat) ^ b2 ≠ 0 := Nat.pos_iff_ne_zero.1 (Nat.pow_pos (by decide))
  have e : n * 10 ^ a1 * 10 ^ b2 = n * 10 ^ a2 * 10 ^ b1 := by rw [Nat.mul_assoc, Nat.mul_assoc, ← Nat.pow_add, ← Nat.pow_add, h]
  unfold fr
  rw [Rat.mkRat_eq_iff p1 p2]
  have e2 : ((n * 10 ^ a1 : Nat) : Int) * ((10 ^ b2 : Nat) : Int) = ((n * 10 ^ a2 : Nat) : Int) * ((10 ^ b1 : Nat) : Int) := by rw [← Int.natCast_mul, ← Int.natCast_mul, e]
  cases g
  · rw [sgI_false, sgI_false]; exact e2
  · rw [sgI_true, sgI_true, Int.neg_mul, Int.neg_mul, e2]
theorem dc_ins {s u : ByteArray} (h : dcOk s) (k : Nat) (hk : zPt (offB 45 s) = true ∨ 0 < k) (hb : begB 45 u = begB 45 s) (ho : offB 45 u = insB (offB 45 s) (zM (offB 45 s)) (zIn (offB 45 s) k)) (hu : u.size ≤ 4096) : dcOk u ∧ dcQ u = dcQ s := by
  obtain ⟨h1, h2, h3⟩ := h
  obtain ⟨eN, eP, eM, hlt, eB, eD⟩ := zIn_head h2 k hk
  obtain ⟨eO, eL, eW⟩ := ins_ok h2 k hk
  have em : dcM (offB 45 u) = dcM (offB 45 s) := by
    rw [ho]; unfold dcM; rw [eW]
  have hB := zB_le (offB 45 s)
  refine ⟨⟨hu, by rw [ho]; exact eO, by rw [em]; exact h3⟩, ?_⟩
  have eU : dcU (offB 45 u) + dcV (offB 45 s) + k = dcU (offB 45 s) + dcV (offB 45 u) := by
    unfold dcU dcV
    rw [em, ho, eL, eB]
    split <;> omega
  unfold dcQ
  rw [hb]
  have eN2 : preV (zD (offB 45 u)) (zD (offB 45 u)).size = preV (zD (offB 45 s)) (zD (offB 45 s)).size * 10 ^ k := by
    rw [ho, eD]; exact pre_zer _ k
  rw [eN2, Nat.mul_assoc, ← Nat.pow_add]
  exact fr_pow _ _ _ _ _ _ (by omega)
end Go.Proofs.YtajcapliokblfaaDoor
namespace Go.Proofs.YtajcapliokblfaaDoor
open Go Go.RowKit Nt Go.Lib
theorem has_iff {c : UInt8} {s : ByteArray} : hasB c s = true ↔ ∃ k, ∃ h : k < s.size, s[k] = c := by
  constructor
  · intro h
    have hi := hasB_iff.1 h
    exact ⟨_, hi, (ixB_get c s _ hi).2 rfl⟩
  · rintro ⟨k, hk, e⟩
    refine hasB_iff.2 ?_
    by_cases h : ixB c s < s.size
    · exact h
    · exact absurd e ((ixB_get c s k hk).1 (by omega))
theorem has_cons {c d : UInt8} (h : d ≠ c) (t : ByteArray) : hasB c (⟨#[d]⟩ ++ t) = hasB c t := by
  have h1 : (ByteArray.mk #[d]).size = 1 := rfl
  refine Bool.eq_iff_iff.2 ⟨fun k => ?_, fun k => ?_⟩
  · obtain ⟨j, hj, e⟩ := has_iff.1 k
    rw [ByteArray.size_append, h1] at hj
    by_cases hj0 : j < 1
    · have hj0' : j = 0 := by omega
      subst hj0'
      rw [ByteArray.getElem_append_left (by rw [h1]; omega)] at e
      exact absurd e h
    · rw [ByteArray.getElem_append_right (by rw [h1]; omega)] at e
      exact has_iff.2 ⟨_, _, e⟩
  · obtain ⟨j, hj, e⟩ := has_iff.1 k
    refine has_iff.2 ⟨j + 1, by rw [ByteArray.size_append, h1]; omega, ?_⟩
    rw [ByteArray.getElem_append_right (by rw [h1]; omega)]
    simp only [h1, Nat.add_sub_cancel]
    exact e
theorem ix_cons {c d : UInt8} (h : d ≠ c) (t : ByteArray) : ixB c (⟨#[d]⟩ ++ t) = 1 + ixB c t := by
  unfold ixB
  rw [ba_app, ba_one]
  show atB c (d :: t.data.toList) = _
  rw [atB_cons, if_neg h, Nat.add_comm]
theorem z_bytes {t : ByteArray} (h : zOk t) (k : Nat) (hk : k < t.size) : (k < zM t → isDgB t[k] = true ∨ (zPt t = true ∧ t[k] = 46)) ∧ (k = zM t → t[k] = 101 ∧ zX t = true) ∧ (zM t < k → isDgB t[k] = true ∨ t[k] = 45) := by
  have hM := zM_le t
  refine ⟨fun h1 => ?_, fun h1 => ?_, fun h1 => ?_⟩
  · by_cases hn : k < zN t
    · exact Or.inl (zE_in t 0 k (Nat.zero_le _) (by unfold zN at hn; exact hn) hk)
    · by_cases hp : zPt t = true
      · obtain ⟨p1, p2⟩ := zPt_iff.1 hp
        by_cases hn2 : k = zN t
        · subst hn2; exact Or.inr ⟨hp, UInt8.toNat_inj.1 p2⟩
        · exact Or.inl (zE_in t (zN t + 1) k (by omega) (by rw [← zM_t hp]; exact h1) hk)
      · rw [zM_f hp] at h1; omega
  · subst h1
    by_cases hx : zX t = true
    · obtain ⟨p1, p2⟩ := zX_iff.1 hx
      exact ⟨UInt8.toNat_inj.1 p2, hx⟩
    · have := h.2.2.2.1 hx; omega
  · by_cases hx : zX t = true
    · obtain ⟨j1, j2, j3⟩ := h.2.2.2.2 hx
      by_cases hj : zJ t ≤ k
      · exact Or.inl (zE_in t (zJ t) k hj (by rw [j2]; exact hk) hk)
      · by_cases hl : zL t = true
        · obtain ⟨_, p1, p2⟩ := zL_iff.1 hl
          rw [zJ_t hl] at hj
          have : k = zM t + 1 := by omega
          subst this
          exact Or.inr (UInt8.toNat_inj.1 p2)
        · rw [zJ_f hl] at hj; omega
    · have := h.2.2.2.1 hx; omega
theorem dgB_ne {c : UInt8} (h : isDgB c = true) (d : UInt8) (hd : d.toNat < 48 ∨ 57 < d.toNat) : c ≠ d := fun e => by
  have := (isDgB_iff c).1 h
  rw [e] at this
  omega
theorem z_e {t : ByteArray} (h : zOk t) : ixB 101 t = zM t := ixB_eq (zM_le t) (fun k hk hkM => by
  rcases (z_bytes h k hk).1 hkM with d | ⟨_, d⟩
  · exact dgB_ne d 101 (by decide)
  · rw [d]; decide) (fun hk => ((z_bytes h _ hk).2.1 rfl).1)
theorem z_pt {t : ByteArray} (h : zOk t) : hasB 46 t = zPt t := by
  refine Bool.eq_iff_iff.2 ⟨fun k => ?_, fun k => ?_⟩
  · obtain ⟨j, hj, e⟩ := has_iff.1 k
    obtain ⟨b1, b2, b3⟩ := z_bytes h j hj
    rcases Nat.lt_trichotomy j (zM t) with c | c | c
    · rcases b1 c with d | ⟨d, _⟩
      · exact absurd e (dgB_ne d 46 (by decide))
      · exact d
    · rw [(b2 c).1] at e; exact absurd e (by decide)
    · rcases b3 c with d | d
      · exact absurd e (dgB_ne d 46 (by decide))
      · rw [d] at e; exact absurd e (by decide)
  · obtain ⟨p1, p2⟩ := zPt_iff.1 k
    exact has_iff.2 ⟨_, p1, UInt8.toNat_inj.1 p2⟩
theorem z_x {t : ByteArray} (h : zOk t) (hx : ¬ hasB 101 t = true) : ¬ zX t = true := fun c => by
  obtain ⟨p1, p2⟩ := zX_iff.1 c
  exact hx (has_iff.2 ⟨_, p1, UInt8.toNat_inj.1 p2⟩)
theorem beg_cases (s : ByteArray) : (begB 45 s = true ∧ s = ⟨#[45]⟩ ++ offB 45 s) ∨ (begB 45 s = false ∧ offB 45 s = s) := by
  cases hb : begB 45 s with
  | true => exact Or.inl ⟨rfl, ((sign_split 45 s).1 hb).symm⟩
  | false => exact Or.inr ⟨rfl, (sign_split 45 s).2 (by rw [hb]; exact Bool.false_ne_true)⟩
theorem s_pt {s : ByteArray} (h : zOk (offB 45 s)) : hasB 46 s = zPt (offB 45 s) := by
  rcases beg_cases s with ⟨hb, e⟩ | ⟨hb, e⟩
  · rw [← z_pt h]
    have := has_cons (c := 46) (d := 45) (by decide) (offB 45 s)
    rwa [← e] at this
  · rw [← z_pt h, e]
theorem s_at {s : ByteArray} (h : zOk (offB 45 s)) : ixB 101 s = (if begB 45 s = true then 1 else 0) + zM (offB 45 s) := by
  rcases beg_cases s with ⟨hb, e⟩ | ⟨hb, e⟩
  · rw [if_pos hb, ← z_e h]
    have := ix_cons (c := 101) (d := 45) (by decide) (offB 45 s)
    rwa [← e] at this
  · rw [if_neg (by rw [hb]; exact Bool.false_ne_true), ← z_e h, e, Nat.zero_add]
theorem s_ins {s z : ByteArray} (h : zOk (offB 45 s)) : begB 45 ((s.extract 0 (ixB 101 s) ++ z) ++ s.extract (ixB 101 s) s.size) = begB 45 s ∧ offB 45 ((s.extract 0 (ixB 101 s) ++ z) ++ s.extract (ixB 101 s) s.size) = insB (offB 45 s) (zM (offB 45 s)) z := by
  have ha := s_at h
  have hM := zM_le (offB 45 s)
  rcases beg_cases s with ⟨hb, e⟩ | ⟨hb, e⟩
  · rw [if_pos hb] at ha
    have e2 : (s.extract 0 (ixB 101 s) ++ z) ++ s.extract (ixB 101 s) s.size = ⟨#[45]⟩ ++ insB (offB 45 s) (zM (offB 45 s)) z := by
      rw [ha]
      generalize zM (offB 45 s) = M at *
      generalize offB 45 s = t at *
      subst e
      apply ba_eq
      unfold insB
      rw [ba_app, ba_app, ba_app, ba_app, ba_app, ba_upto, ba_from, ba_upto, ba_from, ba_app, ba_one]
      show List.take (1 + M) (45 :: t.data.toList) ++ z.data.toList ++ List.drop (1 + M) (45 :: t.data.toList) = 45 :: (_ ++ (_ ++ _))
      rw [Nat.add_comm 1 M, List.take_succ_cons, List.drop_succ_cons]
      simp
    obtain ⟨b1, b2⟩ := begB_own 45 (insB (offB 45 s) (zM (offB 45 s)) z)
    rw [e2, hb]
    exact ⟨b1, b2⟩
  · rw [if_neg (by rw [hb]; exact Bool.false_ne_true), Nat.zero_add] at ha
    have hN := h.1
    have hNM : zN (offB 45 s) ≤ zM (offB 45 s) := by
      by_cases hp : zPt (offB 45 s) = true
      · have := h.2.2.1 hp; omega
      · rw [zM_f hp]; exact Nat.le_refl _
    have e2 : (s.extract 0 (ixB 101 s) ++ z) ++ s.extract (ixB 101 s) s.size = insB (offB 45 s) (zM (offB 45 s)) z := by
      rw [ha]
      unfold insB
      rw [e, ByteArray.append_assoc]
    rw [e2, hb]
    refine begB_no (fun h0 c => ?_)
    rw [insB_l hM (by omega)] at c
    rcases (z_bytes h 0 (by omega)).1 (by omega) with d | ⟨_, d⟩
    · exact dgB_ne d 45 (by decide) c
    · rw [d] at c; exact absurd c (by decide)
theorem more_same {s u : ByteArray} (h : dcOk s) (k : Nat) (hk : zPt (offB 45 s) = true ∨ 0 < k) (hu : u = (s.extract 0 (ixB 101 s) ++ zIn (offB 45 s) k) ++ s.extract (ixB 101 s) s.size) (hz : u.size ≤ 4096) : dcOk u ∧ dcG u = dcG s ∧ dcN u = dcN s ∧ dcD u = dcD s ∧ nrF u = nrF s := by
  obtain ⟨b1, b2⟩ := s_ins (z := zIn (offB 45 s) k) h.2.1
  rw [← hu] at b1 b2
  obtain ⟨o1, o2⟩ := dc_ins h k hk b1 b2 hz
  obtain ⟨v1, v2, v3, v4⟩ := dc_val h
  obtain ⟨w1, w2, w3, w4⟩ := dc_val o1
  refine ⟨o1, by rw [w1, v1, o2], by rw [w2, v2, o2], by rw [w3, v3, o2], ?_⟩
  by_cases h0 : qN (dcQ s) = 0
  · rw [nrF_z h h0, nrF_z o1 (by rw [o2]; exact h0), b1]
  · rw [nrF_q h h0, nrF_q o1 (by rw [o2]; exact h0), o2]
theorem dec_zero_s : decS 0 = ⟨#[48]⟩ := by
  obtain ⟨hv, hp⟩ := pre_of_dec 0
  have h1 : Valid ⟨#[48]⟩ := by
    refine ⟨by decide, fun j hj => ?_, fun c => absurd c.1 (by decide)⟩
    have : j = 0 := by have : (ByteArray.mk #[48]).size = 1 := rfl
                       omega
    subst this
    show 48 ≤ (48 : UInt8).toNat ∧ (48 : UInt8).toNat ≤ 57
    decide
  have h2 := dec_of_pre h1
  have h3 : preV ⟨#[48]⟩ (ByteArray.mk #[48]).size = 0 := by
    show preV ⟨#[48]⟩ 1 = 0
    rw [preV_succ _ 0 (by decide), preV_zero]; rfl
  rw [h3] at h2
  exact h2
theorem whole_rd {s : ByteArray} (h : dcOk s) (h46 : hasB 46 s = false) (h101 : hasB 101 s = false) (hs : s ≠ ⟨#[45, 48]⟩) : rdE s = 0 ∧ rdR s = ⟨dcG s, dcN s, dcD s⟩ := by
  have hz := h.2.1
  have hp : ¬ zPt (offB 45 s) = true := by rw [← s_pt hz, h46]; exact Bool.false_ne_true
  have hx : ¬ zX (offB 45 s) = true := by
    refine z_x hz ?_
    rcases beg_cases s with ⟨hb, e⟩ | ⟨hb, e⟩
    · have := has_cons (c := 101) (d := 45) (by decide) (offB 45 s)
      rw [← e, h101] at this
      rw [← this]; exact Bool.false_ne_true
    · rw [e, h101]; exact Bool.false_ne_true
  have hM : zM (offB 45 s) = (offB 45 s).size := hz.2.2.2.1 hx
  have hN : zN (offB 45 s) = (offB 45 s).size := by rw [← zM_f hp, hM]
  have hl : zL (offB 45 s) = false := zL_n hx
  have hD : zD (offB 45 s) = offB 45 s := by
    unfold zD
    rw [if_neg hp, hN]
    apply ba_eq
    have e0 : (ByteArray.mk #[]).data.toList = [] := rfl
    rw [ba_app, ba_upto, e0, List.append_nil]
    exact List.take_of_length_le (Nat.le_refl _)
  have hB : zB (offB 45 s) = 0 := by unfold zB; rw [if_neg hp]
  have hP : zP (offB 45 s) = ⟨#[]⟩ := by unfold zP; rw [if_neg hx]
  have hm : dcM (offB 45 s) = 0 := by
    unfold dcM; rw [hP]; exact smV_zero _
  have hdig : Digits (offB 45 s) := by have := zD_dig (offB 45 s); rwa [hD] at this
  have hv : Valid (offB 45 s) := by
    refine ⟨by have := hz.1; omega, hdig, fun ⟨c1, c2⟩ => ?_⟩
    rcases hz.2.1 with d | d
    · omega
    · exact d ⟨by omega, c2 (by omega)⟩
  obtain ⟨N, hNN⟩ : ∃ N, N = preV (offB 45 s) (offB 45 s).size := ⟨_, rfl⟩
  have ho := offB_size 45 s
  have hNf : fits N := by
    have h1 := num_bytes hdig
    have h2 := h.1
    rw [hNN]
    exact fits_nd h1 (by omega)
  have hQ : dcQ s = fr (begB 45 s) N 1 := by
    unfold dcQ dcU dcV
    rw [if_neg (by rw [hl]; exact Bool.false_ne_true), if_neg (by rw [hl]; exact Bool.false_ne_true), hm, hB, hD, ← hNN, Nat.sub_self, Nat.pow_zero, Nat.mul_one]
  have hlow : Low (begB 45 s) N 1 := by
    refine ⟨by decide, Nat.gcd_one_right _, fun hN0 => ?_⟩
    cases hb : begB 45 s with
    | false => rfl
    | true =>
      have e1 := dec_of_pre hv
      rw [← hNN, hN0, dec_zero_s] at e1
      have e2 := (sign_split 45 s).1 hb
      rw [← e1] at e2
      exact absurd (e2.symm.trans (ba_eq rfl)) hs
  obtain ⟨q1, q2, q3⟩ := low_fr hlow
  rw [← hQ] at q1 q2 q3
  have e47 := hasB_no (dig_no hdig (c := 47) (by decide))
  have hrt : rtS (offB 45 s) = natS N ∧ rtE (offB 45 s) = 0 := by
    unfold rtS rtE
    rw [if_pos hv, if_pos hv, ← hNN, resS_ok hNf, resE_ok hNf]; exact ⟨rfl, rfl⟩
  have hX : rdX s = ⟨qG (dcQ s), natS (qN (dcQ s)), natS (qD (dcQ s))⟩ := by
    rw [rdX_f (by rw [e47.1]; exact Bool.false_ne_true), e47.2, hrt.1, q1, q2, q3, natS_1r]
  have hok : rdOk s := ⟨by rw [e47.2]; exact hrt.2, (fun c => by rw [e47.1] at c; cases c), by rw [hX]; exact mayR_iff.2 ⟨dcQ s, dc_fit h, rfl⟩⟩
  obtain ⟨r1, r2⟩ := rd_ok hok
  obtain ⟨v1, v2, v3, v4⟩ := dc_val h
  exact ⟨r2, by rw [r1, hX, v1, v2, v3]⟩
def wpB (s : ByteArray) (k : Nat) : Bool := (s.data.toList.take k).all (fun c => c != 46 && c != 101)
def ptB (s : ByteArray) (k : Nat) : Bool := (s.data.toList.take k).any (fun c => c == 46)
theorem take_one (s : ByteArray) (k : Nat) (h : k < s.size) : s.data.toList.take (k + 1) = s.data.toList.take k ++ [s[k]] := List.take_succ_eq_append_getElem (l := s.data.toList) h
theorem wpB_succ (s : ByteArray) (k : Nat) (h : k < s.size) : wpB s (k + 1) = (wpB s k && (s[k] != 46 && s[k] != 101)) := by
  unfold wpB
  rw [take_one s k h, List.all_append]; simp
theorem ptB_succ (s : ByteArray) (k : Nat) (h : k < s.size) : ptB s (k + 1) = (ptB s k || (s[k] == 46)) := by
  unfold ptB
  rw [take_one s k h, List.any_append]; simp
theorem u8_beq (x c : UInt8) : (x == c) = ((x.toNat : Int) == (c.toNat : Int)) := by
  refine Bool.eq_iff_iff.2 ⟨fun e => ?_, fun e => ?_⟩
  · rw [beq_iff_eq.1 e]; exact beq_iff_eq.2 rfl
  · exact beq_iff_eq.2 (UInt8.toNat_inj.1 (by have := beq_iff_eq.1 e; omega))
theorem u8_bne (x c : UInt8) : (x != c) = ((x.toNat : Int) != (c.toNat : Int)) := by
  unfold bne; rw [u8_beq]
theorem wpB_int (s : ByteArray) (k : Nat) (h : k < s.size) : wpB s (k + 1) = (wpB s k && (((s[k].toNat : Int) != 46) && ((s[k].toNat : Int) != 101))) := by
  rw [wpB_succ s k h, u8_bne, u8_bne]; rfl
theorem ptB_int (s : ByteArray) (k : Nat) (h : k < s.size) : ptB s (k + 1) = (ptB s k || ((s[k].toNat : Int) == 46)) := by
  rw [ptB_succ s k h, u8_beq]; rfl
theorem wpB_end (s : ByteArray) : wpB s s.size = (!hasB 46 s && !hasB 101 s) := by
  refine Bool.eq_iff_iff.2 ?_
  unfold wpB
  have et : s.data.toList.take s.size = s.data.toList := List.take_of_length_le (Nat.le_refl _)
  rw [et, List.all_eq_true, Bool.and_eq_true, Bool.not_eq_true', Bool.not_eq_true']
  constructor
  · intro h
    constructor
    · refine Bool.eq_false_iff.2 (fun c => ?_)
      obtain ⟨k, hk, e⟩ := has_iff.1 c
      have := h s[k] (List.getElem_mem (l := s.data.toList) hk)
      rw [e] at this; exact absurd this (by decide)
    · refine Bool.eq_false_iff.2 (fun c => ?_)
      obtain ⟨k, hk, e⟩ := has_iff.1 c
      have := h s[k] (List.getElem_mem (l := s.data.toList) hk)
      rw [e] at this; exact absurd this (by decide)
  · rintro ⟨h1, h2⟩ c hc
    obtain ⟨k, hk, rfl⟩ := List.getElem_of_mem hc
    have e1 : s.data.toList[k] ≠ 46 := fun e => by
      have : hasB 46 s = true := has_iff.2 ⟨k, hk, e⟩
      rw [h1] at this; cases this
    have e2 : s.data.toList[k] ≠ 101 := fun e => by
      have : hasB 101 s = true := has_iff.2 ⟨k, hk, e⟩
      rw [h2] at this; cases this
    rw [Bool.and_eq_true, bne_iff_ne, bne_iff_ne]
    exact ⟨e1, e2⟩
theorem ptB_end (s : ByteArray) : ptB s s.size = hasB 46 s := by
  refine Bool.eq_iff_iff.2 ?_
  unfold ptB
  have et : s.data.toList.take s.size = s.data.toList := List.take_of_length_le (Nat.le_refl _)
  rw [et, List.any_eq_true]
  constructor
  · rintro ⟨c, hc, e⟩
    obtain ⟨k, hk, rfl⟩ := List.getElem_of_mem hc
    exact has_iff.2 ⟨k, hk, beq_iff_eq.1 e⟩
  · intro h
    obtain ⟨k, hk, e⟩ := has_iff.1 h
    exact ⟨s[k], List.getElem_mem (l := s.data.toList) hk, by simp [e]⟩
end Go.Proofs.YtajcapliokblfaaDoor
namespace Go.Proofs.YtajcapliokblfaaDoor
open Go Go.RowKit Nt Go.Lib
theorem rat_cells {w : World} {B : Nat} {t : TypeId} {x y z : Value} (h : Blk w B t #[x, y, z]) : w.cell? ⟨B, 0, none⟩ = some x ∧ w.cell? ⟨B, 1, none⟩ = some y ∧ w.cell? ⟨B, 2, none⟩ = some z := ⟨h.cell 0, h.cell 1, h.cell 2⟩
set_option maxRecDepth 100000 in
set_option maxHeartbeats 4000000 in
theorem RBack_no (a : Rx) (s tx rs rt t2 dn dd : ByteArray) (mm rg dg : Bool) (re f2 de no : Int) (w : World)
    (hl : s.size ≤ 2000)
    (KS : ∀ U, Calls Tryd.prog 13 #[.agg #[.bool a.g, .string a.s, .string a.t]] U fun e w' => e = .returned (.bool true) ∧ Below U.heap.size U w')
    (KM : ∀ U, Calls Tryd.prog 14 #[.agg #[.bool a.g, .string a.s, .string a.t]] U fun e w' => e = .returned (.bool mm) ∧ Below U.heap.size U w')
    (KX : ∀ U, mm = true → Below w.heap.size w U → Calls Tryd.prog 15 #[.agg #[.bool a.g, .string a.s, .string a.t]] U fun e w' => e = .returned (.tuple #[.string tx, .int .i64 0]) ∧ Below U.heap.size U w')
    (KY : ∀ U, mm = true → Below w.heap.size w U → Calls Tryd.prog 16 #[.string tx] U fun e w' => e = .returned (.tuple #[.agg #[.bool a.g, .string a.s, .string a.t], .int .i64 0]) ∧ Below U.heap.size U w')
    (KR : ∀ U, Below w.heap.size w U → Calls Tryd.prog 16 #[.string s] U fun e w' => e = .returned (.tuple #[.agg #[.bool rg, .string rs, .string rt], .int .i64 re]) ∧ Below U.heap.size U w')
    (KT : ∀ U, Below w.heap.size w U → Calls Tryd.prog 15 #[.agg #[.bool rg, .string rs, .string rt]] U fun e w' => e = .returned (.tuple #[.string t2, .int .i64 f2]) ∧ Below U.heap.size U w')
    (hrt : re = 0 → f2 = 0 ∧ t2 = s)
    (KD : ∀ U, Below w.heap.size w U → Calls Tryd.prog 17 #[.string s] U fun e w' => e = .returned (.tuple #[.agg #[.bool dg, .string dn, .string dd], .int .i64 de]) ∧ Below U.heap.size U w')
    (KL : ∀ U, Below w.heap.size w U → Calls Tryd.prog 6 #[] U fun e w' => e = .returned (.bool true) ∧ Below U.heap.size U w')
    (hde : ¬ de = 0) :
    Calls Tryd.prog 5 #[.agg #[.bool a.g, .string a.s, .string a.t], .string s, .int .i64 no] w fun e w' => e = .returned (.bool true) ∧ Below w.heap.size w w' := by
  replace KS := Lib.hid KS
  replace KM := Lib.hid KM
  replace KX := Lib.hid KX
  replace KY := Lib.hid KY
  replace KR := Lib.hid KR
  replace KT := Lib.hid KT
  replace KD := Lib.hid KD
  replace KL := Lib.hid KL
  replace hrt := Lib.hid hrt
  have P0 := Blk.new w 25 #[.bool a.g, .string a.s, .string a.t]
  have HB0 : Below w.heap.size w (w.alloc (.cells #[.bool a.g, .string a.s, .string a.t] 25)) := (Below.refl _ w).alloc (Nat.le_refl _) _
  go_enter Tryd.func5, Tryd.ntmps5
  go_upto_region 1 with fail
  generalize w.alloc (.cells #[.bool a.g, .string a.s, .string a.t] 25) = w0 at *
  obtain ⟨g0, hg0⟩ : ∃ g, g = w.heap.size := ⟨_, rfl⟩
  rw [← hg0] at P0 ⊢
  have HG0 := Lib.hid hg0
  clear hg0
  obtain ⟨a0, a1, a2⟩ := rat_cells P0
  go_upto_region 3 with (first
    | (go_at_call 13; (with_reducible refine (KS.out _).mono ?_); rintro ee w1 ⟨rfl, hb1⟩))
  replace P0 := P0.below hb1 P0.lt
  have HB1 := below_chain HB0 hb1
  clear a0 a1 a2 HB0 hb1 KS
  obtain ⟨a0, a1, a2⟩ := rat_cells P0
  go_upto_if 39 with (first
    | (go_at_call 14; (with_reducible refine (KM.out _).mono ?_); rintro ee w2 ⟨rfl, hb2⟩))
  replace P0 := P0.below hb2 P0.lt
  have HB2 := Lib.hid (below_chain HB1 hb2)
  clear a0 a1 a2 HB1 hb2 KM
  go_cut [] (fun wc => Below w.heap.size w wc)
  case first =>
    cases mm with
    | false =>
      go_wp2_with fail
      go_meet
      case rel => exact HB2.out
    | true =>
      have KX1 := Lib.hid (fun U h => KX.out U rfl h)
      have KY1 := Lib.hid (fun U h => KY.out U rfl h)
      clear KX KY KR KT KD KL hrt
      obtain ⟨a0, a1, a2⟩ := rat_cells P0
      go_upto_region 5 with (first | (go_at_call 15; (with_reducible refine (KX1.out _ HB2.out).mono ?_); rintro ee w3 ⟨rfl, hb3⟩))
      have P1 := P0.below hb3 P0.lt
      have HB3 := Lib.hid (below_chain HB2.out hb3)
      clear a0 a1 a2 hb3 HB2 P0
      go_upto_region 6 with (first | (go_at_call 16; (with_reducible refine (KY1.out _ HB3.out).mono ?_); rintro ee w4 ⟨rfl, hb4⟩))
      have P2 := (P1.below hb4 P1.lt).alloc (.cells #[.bool a.g, .string a.s, .string a.t] 25)
      have Q2 := Blk.new w4 25 #[.bool a.g, .string a.s, .string a.t]
      have HB4 := below_chain HB3.out hb4
      have HB5 := Lib.hid (HB4.alloc HB4.size (.cells #[.bool a.g, .string a.s, .string a.t] 25))
      clear hb4 HB3 HB4 P1
      generalize w4.alloc (.cells #[.bool a.g, .string a.s, .string a.t] 25) = w5 at *
      generalize w4.heap.size = g1 at *
      obtain ⟨a0, a1, a2⟩ := rat_cells P2
      obtain ⟨b0, b1, b2⟩ := rat_cells Q2
      clear P2 Q2
      go_wp2_with fail
      go_meet
      case rel => exact HB5.out
  case rest =>
    clear P0 HB2 KX KY
    rename_i wc
    have HB := Lib.hid hcut
    clear hcut
    go_upto_region 9 with (first | (go_at_call 16; (with_reducible refine (KR.out _ HB.out).mono ?_); rintro ee w6 ⟨rfl, hb6⟩))
    have PR := Blk.new w6 25 #[.bool rg, .string rs, .string rt]
    have HB6 := below_chain HB.out hb6
    have HB7 := Lib.hid (HB6.alloc HB6.size (.cells #[.bool rg, .string rs, .string rt] 25))
    clear hb6 HB6 HB
    generalize w6.alloc (.cells #[.bool rg, .string rs, .string rt] 25) = w7 at *
    generalize w6.heap.size = g1 at *
    obtain ⟨a0, a1, a2⟩ := rat_cells PR
    go_upto_region 10 with (first | (go_at_call 15; (with_reducible refine (KT.out _ HB7.out).mono ?_); rintro ee w8 ⟨rfl, hb8⟩))
    have HPR := Lib.hid (PR.below hb8 PR.lt)
    have HB8 := Lib.hid (below_chain HB7.out hb8)
    clear a0 a1 a2 hb8 HB7 PR
    go_cut [81] (fun c wc => c = .bool false ∧ wc = w8)
    case first =>
      by_cases hre : re = 0
      · obtain ⟨hf2, ht2⟩ := hrt.out hre
        subst hre hf2 ht2
        clear KR KT KD KL hrt
        go_wp2_with fail
        go_meet
        case rel => exact ⟨by simp, rfl⟩
      · have e1 : (re == 0) = false := beq_eq_false_iff_ne.2 hre
        clear KR KT KD KL hrt hre
        go_wp2_with fail
        go_meet
        case rel => exact ⟨by simp, rfl⟩
    case rest =>
      obtain ⟨rfl, rfl⟩ := hcut
      go_upto_region 13 with (first | (go_at_call 17; (with_reducible refine (KD.out _ HB8.out).mono ?_); rintro ee w9 ⟨rfl, hb9⟩))
      have PD := Lib.hid (Blk.new w9 25 #[.bool dg, .string dn, .string dd])
      have HR1 := Lib.hid ((HPR.out.below hb9 HPR.out.lt).alloc (.cells #[.bool dg, .string dn, .string dd] 25))
      have HB9 := below_chain HB8.out hb9
      have HB10 := Lib.hid (HB9.alloc HB9.size (.cells #[.bool dg, .string dn, .string dd] 25))
      clear hb9 HB9 HB8 HPR
      generalize w9.alloc (.cells #[.bool dg, .string dn, .string dd] 25) = wa at *
      generalize w9.heap.size = g2 at *
      go_wp2_with fail
      go_loopw [17, 18, 19] (fun v p i wr => ∃ (k : Nat) (b c : Bool), v = .bool b ∧ p = .bool c ∧ i = .int .i64 (k : Nat) ∧ k ≤ s.size ∧ Hid (b = wpB s k) ∧ Hid (c = ptB s k) ∧ wr = wa) (fun _ _ i _ => s.size - (Lib.intOf i).toNat)
      case atStart => exact ⟨0, true, false, rfl, rfl, rfl, Nat.zero_le _, Lib.hid rfl, Lib.hid rfl, rfl⟩
      case round =>
        obtain ⟨k, b, c, rfl, rfl, rfl, hk, hb, hc, rfl⟩ := hrel
        by_cases hlt : k < s.size
        · 
          have HW := wpB_int s k hlt
          have HP := ptB_int s k hlt
          rw [← hb.out] at HW
          rw [← hc.out] at HP
          clear hb hc KR KT KD KL
          replace HW := Lib.hid HW
          replace HP := Lib.hid HP
          have hm : (((s[k].toNat : Int) == 46) = true ∧ ((s[k].toNat : Int) != 46) = false ∧ ((s[k].toNat : Int) == 101) = false ∧ ((s[k].toNat : Int) != 101) = true) ∨ (((s[k].toNat : Int) == 46) = false ∧ ((s[k].toNat : Int) != 46) = true ∧ ((s[k].toNat : Int) == 101) = true ∧ ((s[k].toNat : Int) != 101) = false) ∨ (((s[k].toNat : Int) == 46) = false ∧ ((s[k].toNat : Int) != 46) = true ∧ ((s[k].toNat : Int) == 101) = false ∧ ((s[k].toNat : Int) != 101) = true) := by
            by_cases h1 : s[k].toNat = 46
            · rw [h1]; exact Or.inl ⟨rfl, rfl, rfl, rfl⟩
            · by_cases h2 : s[k].toNat = 101
              · rw [h2]; exact Or.inr (Or.inl ⟨rfl, rfl, rfl, rfl⟩)
              · exact Or.inr (Or.inr ⟨beq_eq_false_iff_ne.2 (by omega), bne_iff_ne.2 (by omega), beq_eq_false_iff_ne.2 (by omega), bne_iff_ne.2 (by omega)⟩)
          rcases hm with ⟨q1, q2, q3, q4⟩ | ⟨q1, q2, q3, q4⟩ | ⟨q1, q2, q3, q4⟩ <;> cases b <;> cases c
          all_goals
            go_wp2_with fail
            go_round
            case rel => exact ⟨k + 1, _, _, rfl, rfl, by go_num, hlt, Lib.hid (by rw [HW.out]; simp [q1, q2, q3, q4]), Lib.hid (by rw [HP.out]; simp [q1, q2, q3, q4]), trivial⟩
            case measure => simp [Lib.intOf]; omega
        · have hke : s.size = k := by omega
          have HBW := hb.out
          have HBP := hc.out
          rw [← hke] at HBW HBP
          replace HBW := Lib.hid HBW
          replace HBP := Lib.hid HBP
          clear hb hc hk hke
          have e1 : (de == 0) = false := beq_eq_false_iff_ne.2 hde
          clear KR KT KD
          go_wp2_with (first | (go_at_call 6; (with_reducible refine (KL.out _ HB10.out).mono ?_); rintro ee wl ⟨rfl, hbl⟩))
          refine bodyPost_ret (v := .bool true) (by simp [results, Tryd.results5, go_sem]) rfl ⟨rfl, below_chain HB10.out hbl⟩
end Go.Proofs.YtajcapliokblfaaDoor
namespace Go.Proofs.YtajcapliokblfaaDoor
open Go Go.RowKit Nt Go.Lib
set_option maxRecDepth 100000 in
set_option maxHeartbeats 4000000 in
theorem RBack_yes (a : Rx) (s tx rs rt t2 dn dd : ByteArray) (mm rg dg : Bool) (re f2 de no : Int) (ix nn nf : Nat) (m0 m1 m2 u : ByteArray) (N0 : Int) (w : World)
    (hl : s.size ≤ 2000)
    (KS : ∀ U, Calls Tryd.prog 13 #[.agg #[.bool a.g, .string a.s, .string a.t]] U fun e w' => e = .returned (.bool true) ∧ Below U.heap.size U w')
    (KM : ∀ U, Calls Tryd.prog 14 #[.agg #[.bool a.g, .string a.s, .string a.t]] U fun e w' => e = .returned (.bool mm) ∧ Below U.heap.size U w')
    (KX : ∀ U, mm = true → Below w.heap.size w U → Calls Tryd.prog 15 #[.agg #[.bool a.g, .string a.s, .string a.t]] U fun e w' => e = .returned (.tuple #[.string tx, .int .i64 0]) ∧ Below U.heap.size U w')
    (KY : ∀ U, mm = true → Below w.heap.size w U → Calls Tryd.prog 16 #[.string tx] U fun e w' => e = .returned (.tuple #[.agg #[.bool a.g, .string a.s, .string a.t], .int .i64 0]) ∧ Below U.heap.size U w')
    (KR : ∀ U, Below w.heap.size w U → Calls Tryd.prog 16 #[.string s] U fun e w' => e = .returned (.tuple #[.agg #[.bool rg, .string rs, .string rt], .int .i64 re]) ∧ Below U.heap.size U w')
    (KT : ∀ U, Below w.heap.size w U → Calls Tryd.prog 15 #[.agg #[.bool rg, .string rs, .string rt]] U fun e w' => e = .returned (.tuple #[.string t2, .int .i64 f2]) ∧ Below U.heap.size U w')
    (hrt : re = 0 → f2 = 0 ∧ t2 = s)
    (KD : ∀ U, Below w.heap.size w U → Calls Tryd.prog 17 #[.string s] U fun e w' => e = .returned (.tuple #[.agg #[.bool dg, .string dn, .string dd], .int .i64 de]) ∧ Below U.heap.size U w')
    (KL : ∀ U, Below w.heap.size w U → Calls Tryd.prog 6 #[] U fun e w' => e = .returned (.bool true) ∧ Below U.heap.size U w')
    (hde : de = 0) (hwh : wpB s s.size = true → s ≠ ⟨#[45, 48]⟩ → re = 0 ∧ rg = dg ∧ rs = dn ∧ rt = dd)
    (hix : ix ≤ s.size) (hne : ∀ k (h : k < s.size), k < ix → ((s[k].toNat : Int) == 101) = false) (heq : ∀ h : ix < s.size, ((s[ix].toNat : Int) == 101) = true)
    (r2 : ∀ w, (Instr.slice 9 (.string s) none (some (.int .i64 (ix : Int))) none).run Tryd.prog w = .ok (.string m0) w) (r3 : ∀ w, (Instr.slice 9 (.string s) (some (.int .i64 (ix : Int))) none none).run Tryd.prog w = .ok (.string m2) w)
    (hm1t : ptB s s.size = true → m1 = m0) (hm1f : ptB s s.size = false → m1 = m0 ++ ⟨#[46, 48]⟩) (hm0s : m0.size ≤ 2500) (hm1s : m1.size ≤ 3000) (hm2s : m2.size ≤ 2000)
    (hno : no.tmod 50 = N0) (hN1 : N0 < 50) (hN2 : N0 ≤ (nn : Int)) (hN3 : 0 < nn → N0 = (nn : Int)) (hN4 : nn < 50) (hu : (m1 ++ zer nn) ++ m2 = u)
    (KD2 : ∀ U, Below w.heap.size w U → Calls Tryd.prog 17 #[.string u] U fun e w' => e = .returned (.tuple #[.agg #[.bool dg, .string dn, .string dd], .int .i64 0]) ∧ Below U.heap.size U w')
    (KN1 : ∀ U, Below w.heap.size w U → Calls Tryd.prog 18 #[.string s] U fun e w' => e = .returned (.tuple #[.float .f64 nf, .int .i64 0]) ∧ Below U.heap.size U w')
    (KN2 : ∀ U, Below w.heap.size w U → Calls Tryd.prog 18 #[.string u] U fun e w' => e = .returned (.tuple #[.float .f64 nf, .int .i64 0]) ∧ Below U.heap.size U w')
    (KK : ∀ U, Calls Tryd.prog 19 #[.float .f64 nf, .float .f64 nf] U fun e w' => e = .returned (.bool true) ∧ Below U.heap.size U w')
    :
    Calls Tryd.prog 5 #[.agg #[.bool a.g, .string a.s, .string a.t], .string s, .int .i64 no] w fun e w' => e = .returned (.bool true) ∧ Below w.heap.size w w' := by
  replace KS := Lib.hid KS
  replace KM := Lib.hid KM
  replace KX := Lib.hid KX
  replace KY := Lib.hid KY
  replace KR := Lib.hid KR
  replace KT := Lib.hid KT
  replace KD := Lib.hid KD
  replace KL := Lib.hid KL
  replace hrt := Lib.hid hrt
  replace hwh := Lib.hid hwh
  replace hne := Lib.hid hne
  replace heq := Lib.hid heq
  replace hm1t := Lib.hid hm1t
  replace hm1f := Lib.hid hm1f
  replace hu := Lib.hid hu
  replace KD2 := Lib.hid KD2
  replace KN1 := Lib.hid KN1
  replace KN2 := Lib.hid KN2
  replace KK := Lib.hid KK
  have P0 := Blk.new w 25 #[.bool a.g, .string a.s, .string a.t]
  have HB0 : Below w.heap.size w (w.alloc (.cells #[.bool a.g, .string a.s, .string a.t] 25)) := (Below.refl _ w).alloc (Nat.le_refl _) _
  go_enter Tryd.func5, Tryd.ntmps5
  go_upto_region 1 with fail
  generalize w.alloc (.cells #[.bool a.g, .string a.s, .string a.t] 25) = w0 at *
  obtain ⟨g0, hg0⟩ : ∃ g, g = w.heap.size := ⟨_, rfl⟩
  rw [← hg0] at P0 ⊢
  have HG0 := Lib.hid hg0
  clear hg0
  obtain ⟨a0, a1, a2⟩ := rat_cells P0
  go_upto_region 3 with (first
    | (go_at_call 13; (with_reducible refine (KS.out _).mono ?_); rintro ee w1 ⟨rfl, hb1⟩))
  replace P0 := P0.below hb1 P0.lt
  have HB1 := below_chain HB0 hb1
  clear a0 a1 a2 HB0 hb1 KS
  obtain ⟨a0, a1, a2⟩ := rat_cells P0
  go_upto_if 39 with (first
    | (go_at_call 14; (with_reducible refine (KM.out _).mono ?_); rintro ee w2 ⟨rfl, hb2⟩))
  replace P0 := P0.below hb2 P0.lt
  have HB2 := Lib.hid (below_chain HB1 hb2)
  clear a0 a1 a2 HB1 hb2 KM
  go_cut [] (fun wc => Below w.heap.size w wc)
  case first =>
    cases mm with
    | false =>
      go_wp2_with fail
      go_meet
      case rel => exact HB2.out
    | true =>
      have KX1 := Lib.hid (fun U h => KX.out U rfl h)
      have KY1 := Lib.hid (fun U h => KY.out U rfl h)
      clear KX KY KR KT KD KL hrt
      obtain ⟨a0, a1, a2⟩ := rat_cells P0
      go_upto_region 5 with (first | (go_at_call 15; (with_reducible refine (KX1.out _ HB2.out).mono ?_); rintro ee w3 ⟨rfl, hb3⟩))
      have P1 := P0.below hb3 P0.lt
      have HB3 := Lib.hid (below_chain HB2.out hb3)
      clear a0 a1 a2 hb3 HB2 P0
      go_upto_region 6 with (first | (go_at_call 16; (with_reducible refine (KY1.out _ HB3.out).mono ?_); rintro ee w4 ⟨rfl, hb4⟩))
      have P2 := (P1.below hb4 P1.lt).alloc (.cells #[.bool a.g, .string a.s, .string a.t] 25)
      have Q2 := Blk.new w4 25 #[.bool a.g, .string a.s, .string a.t]
      have HB4 := below_chain HB3.out hb4
      have HB5 := Lib.hid (HB4.alloc HB4.size (.cells #[.bool a.g, .string a.s, .string a.t] 25))
      clear hb4 HB3 HB4 P1
      generalize w4.alloc (.cells #[.bool a.g, .string a.s, .string a.t] 25) = w5 at *
      generalize w4.heap.size = g1 at *
      obtain ⟨a0, a1, a2⟩ := rat_cells P2
      obtain ⟨b0, b1, b2⟩ := rat_cells Q2
      clear P2 Q2
      go_wp2_with fail
      go_meet
      case rel => exact HB5.out
  case rest =>
    clear P0 HB2 KX KY
    rename_i wc
    have HB := Lib.hid hcut
    clear hcut
    go_upto_region 9 with (first | (go_at_call 16; (with_reducible refine (KR.out _ HB.out).mono ?_); rintro ee w6 ⟨rfl, hb6⟩))
    have PR := Blk.new w6 25 #[.bool rg, .string rs, .string rt]
    have HB6 := below_chain HB.out hb6
    have HB7 := Lib.hid (HB6.alloc HB6.size (.cells #[.bool rg, .string rs, .string rt] 25))
    clear hb6 HB6 HB
    generalize w6.alloc (.cells #[.bool rg, .string rs, .string rt] 25) = w7 at *
    generalize w6.heap.size = g1 at *
    obtain ⟨a0, a1, a2⟩ := rat_cells PR
    go_upto_region 10 with (first | (go_at_call 15; (with_reducible refine (KT.out _ HB7.out).mono ?_); rintro ee w8 ⟨rfl, hb8⟩))
    have HPR := Lib.hid (PR.below hb8 PR.lt)
    have HB8 := Lib.hid (below_chain HB7.out hb8)
    clear a0 a1 a2 hb8 HB7 PR
    go_cut [81] (fun c wc => c = .bool false ∧ wc = w8)
    case first =>
      by_cases hre : re = 0
      · obtain ⟨hf2, ht2⟩ := hrt.out hre
        subst hre hf2 ht2
        clear KR KT KD KL hrt
        go_wp2_with fail
        go_meet
        case rel => exact ⟨by simp, rfl⟩
      · have e1 : (re == 0) = false := beq_eq_false_iff_ne.2 hre
        clear KR KT KD KL hrt hre
        go_wp2_with fail
        go_meet
        case rel => exact ⟨by simp, rfl⟩
    case rest =>
      obtain ⟨rfl, rfl⟩ := hcut
      go_upto_region 13 with (first | (go_at_call 17; (with_reducible refine (KD.out _ HB8.out).mono ?_); rintro ee w9 ⟨rfl, hb9⟩))
      have PD := Lib.hid (Blk.new w9 25 #[.bool dg, .string dn, .string dd])
      have HR1 := Lib.hid ((HPR.out.below hb9 HPR.out.lt).alloc (.cells #[.bool dg, .string dn, .string dd] 25))
      have HB9 := below_chain HB8.out hb9
      have HB10 := Lib.hid (HB9.alloc HB9.size (.cells #[.bool dg, .string dn, .string dd] 25))
      clear hb9 HB9 HB8 HPR
      generalize w9.alloc (.cells #[.bool dg, .string dn, .string dd] 25) = wa at *
      generalize w9.heap.size = g2 at *
      go_wp2_with fail
      go_loopw [17, 18, 19] (fun v p i wr => ∃ (k : Nat) (b c : Bool), v = .bool b ∧ p = .bool c ∧ i = .int .i64 (k : Nat) ∧ k ≤ s.size ∧ Hid (b = wpB s k) ∧ Hid (c = ptB s k) ∧ wr = wa) (fun _ _ i _ => s.size - (Lib.intOf i).toNat)
      case atStart => exact ⟨0, true, false, rfl, rfl, rfl, Nat.zero_le _, Lib.hid rfl, Lib.hid rfl, rfl⟩
      case round =>
        obtain ⟨k, b, c, rfl, rfl, rfl, hk, hb, hc, rfl⟩ := hrel
        by_cases hlt : k < s.size
        · 
          have HW := wpB_int s k hlt
          have HP := ptB_int s k hlt
          rw [← hb.out] at HW
          rw [← hc.out] at HP
          clear hb hc KR KT KD KL
          replace HW := Lib.hid HW
          replace HP := Lib.hid HP
          have hm : (((s[k].toNat : Int) == 46) = true ∧ ((s[k].toNat : Int) != 46) = false ∧ ((s[k].toNat : Int) == 101) = false ∧ ((s[k].toNat : Int) != 101) = true) ∨ (((s[k].toNat : Int) == 46) = false ∧ ((s[k].toNat : Int) != 46) = true ∧ ((s[k].toNat : Int) == 101) = true ∧ ((s[k].toNat : Int) != 101) = false) ∨ (((s[k].toNat : Int) == 46) = false ∧ ((s[k].toNat : Int) != 46) = true ∧ ((s[k].toNat : Int) == 101) = false ∧ ((s[k].toNat : Int) != 101) = true) := by
            by_cases h1 : s[k].toNat = 46
            · rw [h1]; exact Or.inl ⟨rfl, rfl, rfl, rfl⟩
            · by_cases h2 : s[k].toNat = 101
              · rw [h2]; exact Or.inr (Or.inl ⟨rfl, rfl, rfl, rfl⟩)
              · exact Or.inr (Or.inr ⟨beq_eq_false_iff_ne.2 (by omega), bne_iff_ne.2 (by omega), beq_eq_false_iff_ne.2 (by omega), bne_iff_ne.2 (by omega)⟩)
          rcases hm with ⟨q1, q2, q3, q4⟩ | ⟨q1, q2, q3, q4⟩ | ⟨q1, q2, q3, q4⟩ <;> cases b <;> cases c
          all_goals
            go_wp2_with fail
            go_round
            case rel => exact ⟨k + 1, _, _, rfl, rfl, by go_num, hlt, Lib.hid (by rw [HW.out]; simp [q1, q2, q3, q4]), Lib.hid (by rw [HP.out]; simp [q1, q2, q3, q4]), trivial⟩
            case measure => simp [Lib.intOf]; omega
        · have hke : s.size = k := by omega
          have HBW := hb.out
          have HBP := hc.out
          rw [← hke] at HBW HBP
          replace HBW := Lib.hid HBW
          replace HBP := Lib.hid HBP
          clear hb hc hk hke
          subst hde
          clear KR KT KD
          obtain ⟨a0, a1, a2⟩ := rat_cells HR1.out
          obtain ⟨b0, b1, b2⟩ := rat_cells PD.out
          go_upto_region 22 with fail
          clear hlt
          go_cut [129] (fun c wc => c = .bool false ∧ wc = wr)
          case first =>
            cases b with
            | false =>
              go_wp2_with fail
              go_meet
              case rel => exact ⟨by simp, rfl⟩
            | true =>
              by_cases hs45 : s = ⟨#[45, 48]⟩
              · have q1 : (s.toList == [45, 48]) = true := by rw [hs45, ba_toList]; rfl
                have q2 : (s.toList != [45, 48]) = false := by unfold bne; rw [q1]; rfl
                have q3 : s.toList = [45, 48] := beq_iff_eq.1 q1
                clear hs45
                go_wp2_with fail
                go_meet
                case rel => exact ⟨by simp, rfl⟩
              · obtain ⟨x1, x2, x3, x4⟩ := hwh.out HBW.out.symm hs45
                have q3 : ¬ s.toList = [45, 48] := fun c => hs45 (by
                  rw [ba_toList] at c
                  exact ba_eq c)
                have q1 : (s.toList == [45, 48]) = false := beq_eq_false_iff_ne.2 q3
                clear hs45
                subst x1 x2 x3 x4
                go_wp2_with fail
                go_meet
                case rel => exact ⟨by simp, rfl⟩
          case rest =>
            obtain ⟨rfl, rfl⟩ := hcut
            clear a0 a1 a2 b0 b1 b2 HR1 HBW hwh
            go_upto_block 2 with fail
            go_cut [20] (fun i wq => i = .int .i64 (ix : Nat) ∧ wq = wc)
            case first =>
              clear KL KD2 KN1 KN2 KK hm1t hm1f hu r2 r3 HB10 PD
              go_wp2_with fail
              go_loopw [20] (fun i wq => ∃ k : Nat, k ≤ ix ∧ i = .int .i64 (k : Nat) ∧ wq = wc) (fun i _ => ix - (Lib.intOf i).toNat)
              case atStart => exact ⟨0, Nat.zero_le _, rfl, rfl⟩
              case round =>
                obtain ⟨k, hk, rfl, rfl⟩ := hrel
                by_cases hlt : k < ix
                · have hks : k < s.size := by omega
                  have q1 := hne.out k hks hlt
                  have q2 : ((s[k].toNat : Int) != 101) = true := by unfold bne; rw [q1]; rfl
                  go_wp2_with fail
                  go_round
                  case rel => exact ⟨k + 1, hlt, by go_num, trivial⟩
                  case measure => simp [Lib.intOf]; omega
                · obtain rfl : ix = k := by omega
                  have hway : (¬ ix < s.size) ∨ ∃ h : ix < s.size, ((s[ix].toNat : Int) == 101) = true ∧ ((s[ix].toNat : Int) != 101) = false := by
                    by_cases c : ix < s.size
                    · exact Or.inr ⟨c, heq.out c, by unfold bne; rw [heq.out c]; rfl⟩
                    · exact Or.inl c
                  clear hlt hk
                  rcases hway with q0 | ⟨q0, q1, q2⟩
                  all_goals
                    go_wp2_with fail
                    go_meet
                    case rel => exact ⟨by simp, rfl⟩
            case rest =>
              obtain ⟨rfl, rfl⟩ := hcut
              clear hne heq
              go_upto_if 146 with fail
              go_cut [21] (fun v wq => v = .string m1 ∧ wq = wc)
              case first =>
                cases c with
                | true =>
                  have q := hm1t.out HBP.out.symm
                  subst q
                  go_wp2_with fail
                  go_meet
                  case rel => exact ⟨by simp, rfl⟩
                | false =>
                  have q := hm1f.out HBP.out.symm
                  subst q
                  go_wp2_with fail
                  go_meet
                  case rel => exact ⟨by simp, rfl⟩
              case rest =>
                obtain ⟨rfl, rfl⟩ := hcut
                clear hm1t hm1f HBP
                go_wp2_with fail
                go_loopw [21, 22] (fun v i wq => ∃ (j : Nat) (z : ByteArray), v = .string z ∧ i = .int .i64 (j : Nat) ∧ j ≤ nn ∧ Hid (z = m1 ++ zer j) ∧ z.size ≤ 3100 ∧ wq = wc) (fun _ i _ => nn - (Lib.intOf i).toNat)
                case atStart => exact ⟨0, m1, rfl, rfl, Nat.zero_le _, Lib.hid (by rw [zer_zero]; exact (ByteArray.append_empty).symm), by omega, rfl⟩
                case round =>
                  obtain ⟨j, z, rfl, rfl, hj, hz, hzs, rfl⟩ := hrel
                  by_cases hlt : j < nn
                  · have q3 : (j : Int) < N0 := by omega
                    go_wp2_with fail
                    go_round
                    case rel => exact ⟨j + 1, z ++ ⟨#[48]⟩, by simp, by go_num, hlt, Lib.hid (by rw [hz.out, ByteArray.append_assoc, zer_succ]), by
                      have := hz.out
                      rw [this, ByteArray.append_assoc, zer_succ, ByteArray.size_append, zer_size]; omega, trivial⟩
                    case measure => simp [Lib.intOf]; omega
                  · have q3 : ¬ (j : Int) < N0 := by omega
                    obtain rfl : nn = j := by omega
                    have HU : Hid (z ++ m2 = u) := Lib.hid (by rw [hz.out]; exact hu.out)
                    clear hz hlt hj
                    have PD1 := PD.out
                    have HB11 := HB10.out
                    go_upto_region 35 with (first | (go_at_call 17; rw [HU.out]; (with_reducible refine (KD2.out _ HB11).mono ?_); rintro ee w11 ⟨rfl, hb11⟩))
                    have PH := Lib.hid (Blk.new w11 25 #[.bool dg, .string dn, .string dd])
                    have PD2 := Lib.hid ((PD1.below hb11 PD1.lt).alloc (.cells #[.bool dg, .string dn, .string dd] 25))
                    have HB12 := below_chain HB11 hb11
                    have HB13 := Lib.hid (HB12.alloc HB12.size (.cells #[.bool dg, .string dn, .string dd] 25))
                    clear hb11 PD1 HB11 HB12 KD2
                    generalize w11.alloc (.cells #[.bool dg, .string dn, .string dd] 25) = w12 at *
                    generalize w11.heap.size = g3 at *
                    go_upto_region 37 with (first
                      | (go_at_call 18; (with_reducible refine (KN1.out _ HB13.out).mono ?_); rintro ee w13 ⟨rfl, hb13⟩; have HB14 := below_chain HB13.out hb13)
                      | (go_at_call 18; rw [HU.out]; (with_reducible refine (KN2.out _ HB14).mono ?_); rintro ee w14 ⟨rfl, hb14⟩))
                    have PH1 := (PH.out.below hb13 PH.out.lt)
                    have PH2 := PH1.below hb14 PH1.lt
                    have PD3 := (PD2.out.below hb13 PD2.out.lt)
                    have PD4 := PD3.below hb14 PD3.lt
                    have HB15 := Lib.hid (below_chain HB14 hb14)
                    clear PH1 PD3 hb13 hb14 HB14 KN1 KN2
                    obtain ⟨a0, a1, a2⟩ := rat_cells PH2
                    obtain ⟨b0, b1, b2⟩ := rat_cells PD4
                    clear PH2 PD4
                    go_wp2_with (first
                      | (go_at_call 19; (with_reducible refine (KK.out _).mono ?_); rintro ee w15 ⟨rfl, hb15⟩; have HB16 := below_chain HB15.out hb15)
                      | (go_at_call 6; (with_reducible refine (KL.out _ HB16).mono ?_); rintro ee w16 ⟨rfl, hb16⟩; have HB17 := below_chain HB16 hb16))
                    refine bodyPost_ret (v := .bool true) (by simp [results, Tryd.results5, go_sem]) rfl ⟨rfl, HB17⟩
end Go.Proofs.YtajcapliokblfaaDoor
namespace Go.Proofs.YtajcapliokblfaaDoor
open Go Go.RowKit Nt
theorem wf_ok (g : Bool) (p : Nat) (hp : p ≤ 9218868437227405312) : ¬ Bt.Ff.isn (Bt.wf g p) := by
  intro c
  have c' := (Bt.isn_iff _).1 c
  unfold Bt.Ff.rung at c'
  rw [Bt.wf_eq] at c'
  cases g
  · rw [if_neg Bool.false_ne_true] at c'; omega
  · rw [if_pos rfl, Bt.topped_eq] at c'; omega
theorem nrF_ok (s : ByteArray) : ¬ Bt.Ff.isn (nrF s) := by
  unfold nrF
  split
  · split
    · exact wf_ok _ _ (by decide)
    · exact QW_ok _ _
  · exact fun c => absurd ((Bt.isn_iff _).1 c) (by decide)
end Go.Proofs.YtajcapliokblfaaDoor
