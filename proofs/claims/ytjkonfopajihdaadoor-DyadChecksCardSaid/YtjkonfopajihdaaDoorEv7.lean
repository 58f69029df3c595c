/- A closed run, reckoned: memory is read, made, written. -/
import Derived.Test.YtjkonfopajihdaaDoorEv6
import Derived.IntWalk
import Derived.Laws.Append
import Derived.Laws.AppendOwn
import Derived.Laws.BytesString
import Derived.Laws.IdiomStrings
set_option linter.unusedVariables false
set_option linter.unusedSimpArgs false
namespace Go.Proofs.YtjkonfopajihdaaDoor
open Go Go.RowKit

section
variable {P : Program} {R : Rho}
theorem evalWl_ok {f : Fr} {a : Act} {o : Oper} {v : AV} (h : evalWl P f o = some v) (hf : FRel R f a.tmps) : WlOk P R v a o := by
  unfold evalWl at h
  split at h
  · rename_i v' hv; injection h with h; subst h; exact fastWl_ok hv hf
  · split at h
    · rename_i v' hv; injection h with h; subst h; exact evalWl0_ok hv hf
    · split at h
      · rename_i v' hv
        injection h with h; subst h
        exact ⟨v', VRel.lit_ _, fun w => evalPure_ok hv hf w⟩
      · cases h
/-- What an operation on memory comes to. -/
def MemOk (P : Program) (R : Rho) (f : Fr) (s : AS) (w : World) (fl base : Nat) (a : Act) (o : Oper) (v : AV) (s' : AS) : Prop :=
  ∃ nx x w' R', (execOp a.eval o).run P w = .ok nx w' ∧ (nx = .value x ∨ (nx = .skip ∧ x = undef)) ∧ VRel R' v x ∧ Went R R' s s' w w' fl base
theorem loadG_run {t : TypeId} {g off : Nat} {y : Value} {w : World} (ht : isRowT P t = some false) (hc : w.cell? ⟨g, off, none⟩ = some y) : (Instr.loadAt t (.pointer (some ⟨g, off, none⟩))).run P w = .ok y w := by
  simp [Instr.loadAt, Instr.sureAddr, loadVar, isRowT_false ht w, hc]
theorem storeVar_run {t : TypeId} {b o n : Nat} {x : Value} {w : World} (hn : sizeT P t = some n) (hc : x.cells.size = n) (ht : w.there b o n) (h1 : ∀ u ∈ x.cells.toList, u.oneCell' = true) :
    (Instr.storeAt t (.pointer (some ⟨b, o, none⟩)) x).run P w = .ok () (w.setCells b o x.cells.toList) := by
  have := run_storeCells_cells (P := P) b o x.cells.toList 0 w (fun j hj => by simpa using (ht j (by simp at hj; omega)).1) (fun j hj => by simpa using (ht j (by simp at hj; omega)).2) h1
  simp only [Nat.add_zero] at this
  simp [Instr.storeAt, Instr.sureAddr, storeVar, sizeT_run hn, hc, this]
theorem new_ok {s : AS} {w w2 : World} {fl base : Nat} (hI : Inv R s w fl base) {a : Act} {o : Oper} {f : Fr} {B : List AV} {C : Array Value} {e : TypeId} {fz : Nat × Nat} {v : AV} {x : Value}
    (hw : w2.heap = w.heap.push (.cells C e fz)) (ho : w2.os = w.os ∧ w2.tape = w.tape ∧ w2.output = w.output) (hB : VRels R B (C.toList.take B.length)) (hl : B.length ≤ C.size)
    (hfz : ∀ i, i < C.size → (decide (fz.1 ≤ i) && decide (i < fz.2)) = false) (hrun : (execOp a.eval o).run P w = .ok (.value x) w2) (hv : ∀ R', R' s.n w.heap.size C.size → VRel R' v x) :
    MemOk P R f s w fl base a o v (newB s B) := by
  obtain ⟨R', r, hg, hbl⟩ := hI.new hw ho hB hl hfz
  exact ⟨_, x, w2, R', hrun, .inl rfl, hv R' r, hg⟩
theorem fz0 (n : Nat) : ∀ i, i < n → (decide ((0, 0).1 ≤ i) && decide (i < ((0, 0) : Nat × Nat).2)) = false := fun i _ => by simp
theorem load_mem {s : AS} {w : World} {fl base : Nat} (hI : Inv R s w fl base) {f : Fr} {a : Act} {o : Oper} (hf : FRel R f a.tmps) {v : AV} {k : Nat} (h : evalHeld P f o s = some (v, k)) :
    ∃ x b T B, VRel R v x ∧ look k s.h = some B ∧ R k b T ∧ ∀ w' : World, w'.heap[b]? = w.heap[b]? → (execOp a.eval o).run P w' = .ok (.value x) w' := by
  unfold evalHeld at h
  obtain ⟨dst, op, type, pos, after, guard⟩ := o
  simp only at h
  split at h
  · rename_i t x
    split at h
    · rename_i k' off e1
      split at h
      · rename_i B hB
        split at h
        · rename_i v' hv
          injection h with h
          injection h with h1 h2
          subst h1 h2
          have r1 := opnd_ok hf x
          rw [e1] at r1
          obtain ⟨b, T, r3, r4⟩ := ptr_inv r1
          obtain ⟨b', T', r5, r6⟩ := hI.rel.blk hB
          obtain ⟨rfl, rfl⟩ := hI.rel.fn r3 r5
          obtain ⟨y, h1, h2⟩ := load_ok (P := P) hv r6
          refine ⟨y, b, T, B, h1, hB, r3, fun w' hw => ?_⟩
          simp [execOp, r4, h2 w' hw]
        · cases h
      · cases h
    · cases h
  · cases h
theorem firstA_ok {fl base : Nat} {s : AS} {w : World} (hI : Inv R s w fl base) {size n : Nat} {y : AV} {x : Value} (hy : VRel R y x) {l : List AV} (h : firstA s size n y = some l) :
    ∃ xs, VRels R l xs ∧ ∀ w' : World, w'.heap = w.heap → (Builtin.firstCells size n x).run P w' = .ok xs.toArray w' := by
  unfold firstA at h
  split at h
  · injection h with h; subst h
    have hy := lit_inv hy
    subst hy
    exact ⟨[], VRels.nil, fun w' _ => by simp [Builtin.firstCells]⟩
  · rename_i b
    split at h
    · rename_i hb
      have hb := Nat.le_of_ble_eq_true hb
      injection h with h; subst h
      have hy := lit_inv hy
      subst hy
      rw [mapL_eq, takeL_eq]
      refine ⟨(b.data.toList.take n).map fun x => .int .u8 x.toNat, VRels.map_ _ _ (fun _ => VRel.lit_ _) _, fun w' _ => ?_⟩
      simp only [Builtin.firstCells, Sem.run_pure]
      congr 1
      apply Array.ext'
      rw [Array.toList_map]
      have : (b.extract 0 n).data.toList = b.data.toList.take n := by
        rw [ByteArray.data_extract]
        simp [List.extract_eq_take_drop]
      rw [this]
    · cases h
  · rename_i k off len c sz
    obtain ⟨b, T, c', r3, r4, _, _⟩ := sl_inv hy
    split at h
    · rename_i B hB
      split at h
      · rename_i hb
        have hb := Nat.le_of_ble_eq_true hb
        rw [lenL_eq] at hb
        injection h with h; subst h
        rw [takeL_eq, dropL_eq]
        obtain ⟨b', T', r5, C, e, fz, hC, hT, hl, hr, hfz⟩ := hI.rel.blk hB
        obtain ⟨rfl, rfl⟩ := hI.rel.fn r3 r5
        refine ⟨((C.toList.take B.length).drop off).take (n * size), (hr.drop off).take _, fun w' hw => ?_⟩
        rw [r4]
        have hlen : (((C.toList.take B.length).drop off).take (n * size)).length = n * size := by simp; omega
        refine run_firstCells_some (P := P) w' size n ⟨b, off, none⟩ len c' _ hlen ?_
        intro j u hu
        rw [Addr.add_mid]
        have hj : j < n * size := by have := (List.getElem?_eq_some_iff.1 hu).1; omega
        rw [List.getElem?_take_of_lt hj, List.getElem?_drop, List.getElem?_take_of_lt (by omega)] at hu
        simpa [World.cell?, hw, hC] using hu
      · cases h
    · cases h
  · cases h
theorem lenOf_ok {y : AV} {x : Value} (hy : VRel R y x) {n : Nat} (h : lenOfSlice y = some n) (w : World) : (Builtin.lenOf x).run P w = .ok n w := by
  unfold lenOfSlice at h
  split at h
  · injection h with h; subst h; rw [lit_inv hy]; rfl
  · injection h with h; subst h; rw [lit_inv hy]; rfl
  · rename_i k off len c sz
    obtain ⟨b, T, c', r3, r4, _, _⟩ := sl_inv hy
    injection h with h; subst h; rw [r4]; rfl
  · simp only [VRel] at hy
    obtain ⟨a, c, e⟩ := hy
    injection h with h; subst h; rw [e]; rfl
  · cases h
theorem bytesOf_ok : ∀ {l : List AV} {r : List UInt8}, bytesOf l = some r → ∃ ns : List Int, l = ns.map (fun n => AV.lit (.int .u8 n)) ∧ r = ns.map (fun n => UInt8.ofNat n.toNat)
  | [], r, h => by simp only [bytesOf] at h; injection h with h; subst h; exact ⟨[], rfl, rfl⟩
  | v :: l, r, h => by
    unfold bytesOf at h
    split at h
    · rename_i e; cases e
    · rename_i n r' e
      injection e with e1 e2
      subst e1 e2
      split at h
      · rename_i t ht
        injection h with h; subst h
        obtain ⟨ns, h1, h2⟩ := bytesOf_ok ht
        exact ⟨(n : Int) :: ns, by rw [h1]; rfl, by rw [h2]; rfl⟩
      · cases h
    · cases h
theorem lits_of_map {ns : List Int} {xs : List Value} (h : VRels R (ns.map (fun n => AV.lit (.int .u8 n))) xs) : xs = ns.map (Value.int .u8) := by
  induction ns generalizing xs with
  | nil => simpa only [List.map_nil, VRels] using h
  | cons n ns ih =>
    simp only [List.map_cons, VRels] at h
    obtain ⟨y, ys, rfl, r, q⟩ := h
    rw [lit_inv r, ih q]; rfl
theorem push_bytes : ∀ (ns : List Int) (b : ByteArray), ns.foldl (fun r n => r.push (UInt8.ofNat n.toNat)) b = ⟨(b.data.toList ++ ns.map (fun n => UInt8.ofNat n.toNat)).toArray⟩
  | [], b => by simp
  | n :: ns, b => by
    rw [List.foldl_cons, push_bytes ns]
    congr 1
    apply Array.ext'
    simp [ByteArray.push]
theorem append_place {t u ty e : TypeId} {i : TypeInfo} {y : Value} {n len cap b off : Nat} {xs : List Value} {d : TypeDesc} {w : World} (ht : P.underlying t = some (.slice e)) (hu : P.underlying u = some d) (hd : d = .string ∨ ∃ e', d = .slice e')
    (hi : P.info? e = some i) (hn : ∀ w, (Builtin.lenOf y).run P w = .ok n w) (hx : (Builtin.firstCells i.size n y).run P w = .ok xs.toArray w) (hroom : len + n ≤ cap) (hth : w.there b (off + len * i.size) xs.length) (h1 : ∀ v ∈ xs, v.oneCell' = true) :
    (Builtin.append_ #[t, u] ty #[.slice (some ⟨b, off, none⟩) len cap, y]).run P w = .ok (.slice (some ⟨b, off, none⟩) (len + n) cap) (w.setCells b (off + len * i.size) xs) := by
  have hst := run_storeCells_cells (P := P) b (off + len * i.size) xs 0 w (fun j hj => by simpa using (hth j hj).1) (fun j hj => by simpa using (hth j hj).2) h1
  simp only [Nat.add_zero] at hst
  rcases hd with rfl | ⟨e', rfl⟩ <;> simp [Builtin.append_, run_underlying ht, run_underlying hu, sizeOf, typeInfo, hi, hn, hroom, hx, Addr.add_mid, hst]
theorem append_none {t u ty e : TypeId} {i : TypeInfo} {y : Value} {len cap : Nat} {base : Option Addr} {d : TypeDesc} {w : World} (ht : P.underlying t = some (.slice e)) (hu : P.underlying u = some d) (hd : d = .string ∨ ∃ e', d = .slice e')
    (hi : P.info? e = some i) (hn : ∀ w, (Builtin.lenOf y).run P w = .ok 0 w) (hx : (Builtin.firstCells i.size 0 y).run P w = .ok #[] w) (hroom : len ≤ cap) :
    (Builtin.append_ #[t, u] ty #[.slice base len cap, y]).run P w = .ok (.slice base len cap) w := by
  rcases hd with rfl | ⟨e', rfl⟩ <;> cases base <;> simp [Builtin.append_, run_underlying ht, run_underlying hu, sizeOf, typeInfo, hi, hn, hroom, hx, storeCells]
theorem append_grow {t u ty e : TypeId} {i : TypeInfo} {z y : Value} {n len cap : Nat} {base : Option Addr} {olds news : List Value} {d : TypeDesc} {w : World} (ht : P.underlying t = some (.slice e)) (hu : P.underlying u = some d) (hd : d = .string ∨ ∃ e', d = .slice e')
    (hi : P.info? e = some i) (hz : i.zero = some z) (hn : ∀ w, (Builtin.lenOf y).run P w = .ok n w) (hx : (Builtin.firstCells i.size n y).run P w.drew = .ok news.toArray w.drew)
    (ho : (Builtin.firstCells i.size len (.slice base len cap)).run P w.drew = .ok olds.toArray w.drew) (hg : cap < len + n) (h6 : len + n ≤ 1000000) (hb : i.bytes ≤ 10000000) :
    (Builtin.append_ #[t, u] ty #[.slice base len cap, y]).run P w = .ok (.slice (some ⟨w.heap.size, 0, none⟩) (len + n) (grownCap w (len + n) cap e))
      (w.drew.alloc (.cells (olds.toArray ++ news.toArray ++ Builtin.zeroCells z.cells (grownCap w (len + n) cap e - (len + n))) e)) := by
  have hn' : ¬ (len + n ≤ cap) := by omega
  have h63' : ¬ (9223372036854775807 < ((len : Int) + (n : Int))) := by omega
  have hfit := growslice_fits (bytes := i.bytes) hg (Nat.le_trans (Nat.mul_le_mul h6 hb) (by decide))
  have h48' : ¬ (281474976710656 < Builtin.nextslicecap (len + n) cap * i.bytes) := by omega
  rcases hd with rfl | ⟨e', rfl⟩
  · simp [Builtin.append_, run_underlying ht, run_underlying hu, sizeOf, typeInfo, zeroValue, hi, hz, hn, hn', h63', h48', Question.forced, hx, ho, newRow, grownCap]
    congr 2
    apply Array.ext'
    simp [List.append_assoc]
  · simp [Builtin.append_, run_underlying ht, run_underlying hu, sizeOf, typeInfo, zeroValue, hi, hz, hn, hn', h63', h48', Question.forced, hx, ho, newRow, grownCap]
    congr 2
    apply Array.ext'
    simp [List.append_assoc]
theorem makeSlice_run {a : Act} {dst : Option Tmp} {t : TypeId} {l c : Operand} {type : TypeId} {pos : String} {after : Array Edge} {guard : Option (Nat × Bool)} {e : TypeId} {i : TypeInfo} {z : Value} {kl kc : IntKind} {l' c' : Nat} {w : World}
    (hu : P.underlying t = some (.slice e)) (hi : P.info? e = some i) (hz : i.zero = some z) (r1 : a.eval l = .int kl l') (r2 : a.eval c = .int kc c') (w1 : IntKind.i64.wrap (l' : Int) = l') (w2 : IntKind.i64.wrap (c' : Int) = c')
    (b1 : l' ≤ c') (hbig : ¬ ((281474976710656 : Int) < (i.bytes : Int) * (c' : Int))) :
    (execOp a.eval ⟨dst, .makeSlice t l c, type, pos, after, guard⟩).run P w = .ok (.value (.slice (some ⟨w.heap.size, 0, none⟩) l' c')) { w with heap := w.heap.push (.cells ((Array.range (c' * i.size)).map (z.cells[· % z.cells.size]!)) e) } := by
  have hti : ∀ w, (typeInfo e).run P w = .ok i w := fun w => by simp [typeInfo, hi]
  have hsz : ∀ w, (sizeOf e).run P w = .ok i.size w := fun w => by simp [sizeOf, hti]
  have hn : ¬ ((l' : Int) < 0) := by omega
  have hn2 : ¬ ((c' : Int) < 0) := by omega
  have hn3 : ¬ ((c' : Int) < (l' : Int)) := by omega
  by_cases h0 : c' * i.size = 0
  · simp [execOp, Instr.makeSlice, run_underlying hu, r1, r2, asInt, asIntOf, hti, hsz, w1, w2, hn, hn2, hn3, hbig, newRow, h0]
    rw [show Array.range 0 = #[] from Array.ext' (by simp)]
    simp
  · simp [execOp, Instr.makeSlice, run_underlying hu, r1, r2, asInt, asIntOf, hti, hsz, w1, w2, hn, hn2, hn3, hbig, newRow, h0, zeroValue, hz]
theorem buildSlice_run {a : Act} {dst : Option Tmp} {t : TypeId} {len : Nat} {ps : Array (Nat × Operand)} {type : TypeId} {pos : String} {after : Array Edge} {guard : Option (Nat × Bool)} {e : TypeId} {i : TypeInfo} {z : Value} {C' : Array Value} {w : World}
    (hu : P.underlying t = some (.slice e)) (hi : P.info? e = some i) (hz : i.zero = some z) (hb : len * i.size ≤ 16777216)
    (hfl : Instr.fill (fun j => some (j * i.size, i.size)) ((Array.range (len * i.size)).map (z.cells[· % z.cells.size]!)) (ps.map fun (i, x) => (i, a.eval x)).toList = some C') :
    (execOp a.eval ⟨dst, .buildSlice t len ps, type, pos, after, guard⟩).run P w = .ok (.value (.slice (some ⟨w.heap.size, 0, none⟩) len len)) { w with heap := w.heap.push (.cells C' e) } := by
  have hti : ∀ w, (typeInfo e).run P w = .ok i w := fun w => by simp [typeInfo, hi]
  have hsz : ∀ w, (sizeOf e).run P w = .ok i.size w := fun w => by simp [sizeOf, hti]
  have hn : ¬ (16777216 < len * i.size) := by omega
  rw [Array.toList_map] at hfl
  by_cases h0 : len * i.size = 0
  · have he : (Array.range (len * i.size)).map (z.cells[· % z.cells.size]!) = (#[] : Array Value) := by rw [h0, show Array.range 0 = #[] from Array.ext' (by simp)]; simp
    rw [he] at hfl
    simp [execOp, Instr.buildSlice, run_underlying hu, hsz, h0, newRow]
    rw [show Array.range 0 = #[] from Array.ext' (by simp)]
    simp only [Array.map_empty]
    simp at hfl
    rw [hfl]
    rfl
  · simp [execOp, Instr.buildSlice, run_underlying hu, hsz, h0, hn, newRow, zeroValue, hti, hz]
    simp at hfl
    rw [hfl]
    rfl
theorem evalAppend_ok {fl base : Nat} {s s' : AS} {w : World} (hI : Inv R s w fl base) {f : Fr} {a : Act} (hf : FRel R f a.tmps) {v : AV} {dst : Option Tmp} {x y : Operand} {t u : TypeId} {type : TypeId} {pos : String} {after : Array Edge} {guard : Option (Nat × Bool)}
    (h : evalAppend P fl t u (opnd f x) (opnd f y) s = some (v, s')) :
    MemOk P R f s w fl base a ⟨dst, .call { callee := .builtin .append, args := #[x, y], argTypes := #[t, u] }, type, pos, after, guard⟩ v s' := by
  have key : ∀ {e : TypeId} {d : TypeDesc}, P.underlying t = some (.slice e) → P.underlying u = some d → (d = .string ∨ ∃ e', d = .slice e') →
      (match P.info? e with
      | some i => match i.zero, firstA s i.size ((lenOfSlice (opnd f y)).getD 0) (opnd f y), lenOfSlice (opnd f y) with
        | some z, some new, some n => match Nat.beq z.cells.size i.size && (Nat.ble i.bytes 10000000 && (Nat.beq (lenL new) (n * i.size) && allL (·.one) new)) with
          | true => appendTo fl i.size (opnd f x) new n s
          | false => none
        | _, _, _ => none
      | none => none) = some (v, s') → MemOk P R f s w fl base a ⟨dst, .call { callee := .builtin .append, args := #[x, y], argTypes := #[t, u] }, type, pos, after, guard⟩ v s' := by
    intro e d ht hu hd h
    split at h
    · rename_i i hi
      split at h
      · rename_i z new n hz hnew hn
        split at h
        · rename_i hb
          simp only [Bool.and_eq_true, lenL_eq, allL_eq] at hb
          obtain ⟨hb1, hb2, hb3, hb4⟩ := hb
          have hb1 := Nat.eq_of_beq_eq_true hb1
          have hb2 := Nat.le_of_ble_eq_true hb2
          have hb3 := Nat.eq_of_beq_eq_true hb3
          rw [hn, Option.getD_some] at hnew
          have hy := opnd_ok hf y
          obtain ⟨xs, hx1, hx2⟩ := firstA_ok (P := P) hI hy hnew
          have hxl := hx1.length
          have hlo := lenOf_ok (P := P) hy hn
          have hxr := opnd_ok hf x
          have hxr0 := hxr
          have hop : ∀ {r w2}, (Builtin.append_ #[t, u] type #[a.eval x, a.eval y]).run P w = .ok r w2 → (execOp a.eval ⟨dst, .call { callee := .builtin .append, args := #[x, y], argTypes := #[t, u] }, type, pos, after, guard⟩).run P w = .ok (.value r) w2 := by
            intro r w2 hr
            simp [execOp, resolve, invoke, builtin, hr]
          -- the row grows
          have grow : ∀ {base' : Option Addr} {len cap : Nat} {old : List AV} {os : List Value}, a.eval x = .slice base' len cap → VRels R old os → (∀ w', w'.heap = w.heap → (Builtin.firstCells i.size len (a.eval x)).run P w' = .ok os.toArray w') → os.length = len * i.size →
              cap < len + n → len + n ≤ 1000000 → MemOk P R f s w fl base a ⟨dst, .call { callee := .builtin .append, args := #[x, y], argTypes := #[t, u] }, type, pos, after, guard⟩ (.sl s.n 0 (len + n) none i.size) (newB s (old ++ new)) := by
            intro base' len cap old os hxe hos hof hol hg h6
            have hrun := append_grow (ty := type) (P := P) (t := t) (u := u) (e := e) (w := w) ht hu hd hi hz hlo (hx2 w.drew rfl) (by rw [← hxe]; exact hof w.drew rfl) hg h6 hb2
            rw [← hxe] at hrun
            have hge := grownCap_ge w (len + n) cap e
            have hsz : (os.toArray ++ xs.toArray ++ Builtin.zeroCells z.cells (grownCap w (len + n) cap e - (len + n))).size = grownCap w (len + n) cap e * i.size := by
              rw [Array.size_append, Array.size_append, size_zeroCells, hb1]
              simp only [List.size_toArray]
              rw [hol, hxl, hb3, ← Nat.add_mul, ← Nat.add_mul]
              congr 1; omega
            have hoo := hos.length
            have hl2 : (old ++ new).length = (os ++ xs).length := by simp; omega
            refine new_ok hI (e := e) (fz := (0, 0)) (w2 := w.drew.alloc (.cells (os.toArray ++ xs.toArray ++ Builtin.zeroCells z.cells (grownCap w (len + n) cap e - (len + n))) e)) rfl ⟨rfl, rfl, rfl⟩ ?_ ?_ (fz0 _) (hop hrun) ?_
            · rw [hl2]
              have : (os.toArray ++ xs.toArray ++ Builtin.zeroCells z.cells (grownCap w (len + n) cap e - (len + n))).toList.take (os ++ xs).length = os ++ xs := by
                simp only [Array.toList_append]
                exact List.take_left
              rw [this]
              exact hos.append hx1
            · rw [hl2, hsz, List.length_append, hol, hxl, hb3, ← Nat.add_mul]
              exact Nat.mul_le_mul_right _ hge
            · intro R' r
              simp only [VRel]
              exact ⟨_, _, _, r, hge, by rw [hsz]; omega, rfl⟩
          unfold appendTo at h
          split at h
          · rename_i e1
            rw [e1] at hxr
            have hxe := lit_inv hxr
            split at h
            · rename_i hn0
              have hn0 := Nat.eq_of_beq_eq_true hn0
              subst hn0
              injection h with h
              injection h with h1 h2
              subst h1 h2
              have hl0 : xs = [] := List.eq_nil_of_length_eq_zero (by rw [hxl, hb3]; simp)
              subst hl0
              have hrun := append_none (ty := type) (P := P) (t := t) (u := u) (base := none) (len := 0) (cap := 0) (w := w) ht hu hd hi hlo (hx2 w rfl) (Nat.le_refl _)
              rw [← hxe] at hrun
              exact ⟨_, _, w, R, hop hrun, .inl rfl, hxr0, Went.refl hI⟩
            · rename_i hn0 h6
              have hn0 := Nat.ne_of_beq_eq_false hn0
              have h6 := Nat.le_of_ble_eq_true h6
              injection h with h
              injection h with h1 h2
              subst h1 h2
              have := grow (len := 0) (old := []) (os := []) hxe VRels.nil (fun w' _ => by rw [hxe]; simp [Builtin.firstCells]) (by simp) (by omega) (by omega)
              simpa using this
            · cases h
          · rename_i k off len sz e1
            rw [e1] at hxr
            obtain ⟨b, T, c', r3, r4, _, hc2⟩ := sl_inv hxr
            obtain ⟨hc3, hc4⟩ := hc2 rfl
            split at h
            · rename_i B hB hbb
              simp only [Bool.and_eq_true] at hbb
              obtain ⟨g1, g2, g3, g4⟩ := hbb
              have g1 := Nat.eq_of_beq_eq_true g1
              have g2 := Nat.le_of_ble_eq_true g2
              have g3 := Nat.eq_of_beq_eq_true g3
              have g4 := Nat.le_of_ble_eq_true g4
              subst g1 g3
              split at h
              · rename_i hn0
                have hn0 := Nat.eq_of_beq_eq_true hn0
                subst hn0
                injection h with h
                injection h with h1 h2
                subst h1 h2
                have hl0 : xs = [] := List.eq_nil_of_length_eq_zero (by rw [hxl, hb3]; simp)
                subst hl0
                have hrun := append_none (ty := type) (P := P) (t := t) (u := u) (base := some ⟨b, 0, none⟩) (len := len) (cap := c') (w := w) ht hu hd hi hlo (hx2 w rfl) hc3
                rw [← r4] at hrun
                exact ⟨_, _, w, R, hop hrun, .inl rfl, hxr0, Went.refl hI⟩
              · rename_i hn0 hlB
                have hn0 := Nat.ne_of_beq_eq_false hn0
                have hlB := Nat.le_of_ble_eq_true hlB
                rw [lenL_eq] at hlB
                injection h with h
                injection h with h1 h2
                subst h1 h2
                rw [appL_eq, takeL_eq]
                have hks := (hI.rel.dom r3).1
                obtain ⟨b', T', r5, r6⟩ := hI.rel.blk hB
                obtain ⟨rfl, rfl⟩ := hI.rel.fn r3 r5
                by_cases hroom : len + n ≤ c'
                · have hTle : (len + n) * i.size ≤ T := Nat.le_trans (Nat.mul_le_mul_right _ hroom) (by omega)
                  have hTle2 : len * i.size + new.length ≤ T := by rw [hb3, ← Nat.add_mul]; exact hTle
                  have hrun := append_place (ty := type) (P := P) (t := t) (u := u) (w := w) (b := b) (off := 0) (xs := xs) ht hu hd hi hlo (hx2 w rfl) hroom (r6.there (by omega)) (hx1.ones hb4)
                  rw [← r4, Nat.zero_add] at hrun
                  obtain ⟨R', h7, h8⟩ := hI.move hB r3 hx1 hlB hTle2 g2
                  exact ⟨_, _, _, R', hop hrun, .inl rfl, by simp only [VRel]; exact ⟨b, T, c', h7, hroom, by omega, rfl⟩, h8⟩
                · have hI2 : Inv R ⟨s.n, kill k s.h, addW k s.wr, s.gl⟩ w fl base := ⟨⟨hI.rel.fn, hI.rel.dom, fun h1 h2 r1 r2 => hI.rel.inj (look_kill_some h1).2 (look_kill_some h2).2 r1 r2, fun h1 => hI.rel.blk (look_kill_some h1).2⟩, hI.hb, hI.hf, hI.own, hI.glo⟩
                  obtain ⟨C, ee, fz, hC, hT, hl, hr, hfz⟩ := r6
                  have hlo2 : ((C.toList.take B.length).take (len * i.size)).length = len * i.size := by simp; omega
                  have hof : ∀ w' : World, w'.heap = w.heap → (Builtin.firstCells i.size len (a.eval x)).run P w' = .ok ((C.toList.take B.length).take (len * i.size)).toArray w' := by
                    intro w' hw
                    rw [r4]
                    refine run_firstCells_some (P := P) w' i.size len ⟨b, 0, none⟩ len c' _ hlo2 ?_
                    intro j u hu
                    rw [Addr.add_mid]
                    have hj : j < len * i.size := by have := (List.getElem?_eq_some_iff.1 hu).1; omega
                    rw [List.getElem?_take_of_lt hj, List.getElem?_take_of_lt (by omega)] at hu
                    simpa [World.cell?, hw, hC] using hu
                  have hg := grow (len := len) (old := B.take (len * i.size)) r4 (hr.take _) hof hlo2 (by omega) g4
                  obtain ⟨nx, xx, w', R', q1, q2, q3, q4⟩ := hg
                  have q4' : Went R R' s (newB ⟨s.n, kill k s.h, addW k s.wr, s.gl⟩ (B.take (len * i.size) ++ new)) w w' fl base := by
                    have hlk : ∀ {j B1}, look j (newB ⟨s.n, kill k s.h, addW k s.wr, s.gl⟩ (B.take (len * i.size) ++ new)).h = some B1 → look j (newB s (B.take (len * i.size) ++ new)).h = some B1 := by
                      intro j B1 h1
                      change look j ((s.n, _) :: kill k s.h) = _ at h1
                      show look j ((s.n, _) :: s.h) = _
                      rw [look_cons] at h1 ⊢
                      split at h1
                      · rename_i e; rw [if_pos e]; exact h1
                      · rename_i e; rw [if_neg e]; exact (look_kill_some h1).2
                    refine ⟨q4.ext, q4.old, q4.num, fun j hj => ?_, ⟨⟨q4.inv.rel.fn, q4.inv.rel.dom, fun h1 h2 r1 r2 => q4.inv.rel.inj (hlk h1) (hlk h2) r1 r2, fun h1 => q4.inv.rel.blk (hlk h1)⟩, q4.inv.hb, q4.inv.hf, q4.inv.own, q4.inv.glo⟩, q4.below, q4.fresh, fun _ h => addW_iff.2 (.inr h), fun {j b1 T1 B1} hj r1 hn => ?_, q4.other⟩
                    · show look j ((s.n, _) :: kill k s.h) = _
                      have := hI.hf
                      rw [look_cons, if_neg (by show ¬ s.n = j; omega), look_kill_ne (by omega)]
                    · have hjk : j ≠ k := fun e => hn (addW_iff.2 (.inl e))
                      refine ⟨(q4.wrote hj r1 (fun hc => hn (addW_iff.2 (.inr hc)))).1, ?_⟩
                      have := (hI.rel.dom r1).1
                      show look j ((s.n, _) :: kill k s.h) = _
                      rw [look_cons, if_neg (by show ¬ s.n = j; omega), look_kill_ne hjk]
                  exact ⟨nx, xx, w', R', q1, q2, q3, q4'⟩
              · cases h
            · cases h
          · rename_i k off len c sz e1
            have e0 := e1
            rw [e1] at hxr
            obtain ⟨b, T, c', r3, r4, hc1, _⟩ := sl_inv hxr
            have hcc := hc1 c rfl
            subst hcc
            split at h
            · rename_i hroom
              have hroom := Nat.le_of_ble_eq_true hroom
              split at h
              · rename_i B hB hfl
                have hfl := Nat.le_of_ble_eq_true hfl
                split at h
                · rename_i hlB
                  have hlB := Nat.le_of_ble_eq_true hlB
                  rw [lenL_eq] at hlB
                  injection h with h
                  injection h with h1 h2
                  subst h1 h2
                  obtain ⟨b', T', r5, r6⟩ := hI.rel.blk hB
                  obtain ⟨rfl, rfl⟩ := hI.rel.fn r3 r5
                  have hT : B.length ≤ T := r6.choose_spec.choose_spec.choose_spec.2.2.1
                  have hsum : off + (len + n) * i.size = off + len * i.size + new.length := by rw [Nat.add_mul, hb3]; omega
                  rw [appL_eq, appL_eq, takeL_eq, dropL_eq, hsum, ← List.append_assoc]
                  have hrun := append_place (ty := type) (P := P) (t := t) (u := u) (w := w) (b := b) (off := off) (xs := xs) ht hu hd hi hlo (hx2 w rfl) hroom (r6.there (by omega)) (hx1.ones hb4)
                  rw [← r4] at hrun
                  exact ⟨_, _, _, R, hop hrun, .inl rfl, by simp only [VRel]; exact ⟨b, T, r3, rfl⟩, hI.put_went hB r3 hx1 (by omega) hfl⟩
                · cases h
              · cases h
            · rename_i hroom
              have hroom : ¬ len + n ≤ c' := fun h => by rw [Nat.ble_eq_true_of_le h] at hroom; cases hroom
              split at h
              · rename_i old hold h6
                have h6 := Nat.le_of_ble_eq_true h6
                injection h with h
                injection h with h1 h2
                subst h1 h2
                rw [e0] at hold
                rw [appL_eq]
                obtain ⟨os, ho1, ho2⟩ := firstA_ok (P := P) hI hxr hold
                have hol : old.length = len * i.size := by
                  unfold firstA at hold
                  simp only at hold
                  split at hold
                  · rename_i B hB
                    split at hold
                    · rename_i hb'
                      have hb' := Nat.le_of_ble_eq_true hb'
                      rw [lenL_eq] at hb'
                      injection hold with hold
                      rw [← hold, takeL_eq, dropL_eq]; simp; omega
                    · cases hold
                  · cases hold
                have := ho1.length
                exact grow r4 ho1 ho2 (by omega) (by omega) h6
              · cases h
          · cases h
        · cases h
      · cases h
    · cases h
  unfold evalAppend at h
  split at h
  · rename_i e e' ht hu
    exact key ht hu (.inr ⟨_, rfl⟩) h
  · rename_i e ht hu
    exact key ht hu (.inl rfl) h
  · cases h
set_option maxHeartbeats 1600000 in
theorem evalMem_ok {fl base : Nat} {s s' : AS} {w : World} (hI : Inv R s w fl base) {f : Fr} {a : Act} {o : Oper} (hf : FRel R f a.tmps) {v : AV} (h : evalMem P fl f o s = some (v, s')) :
    MemOk P R f s w fl base a o v s' := by
  unfold evalMem at h
  obtain ⟨dst, op, type, pos, after, guard⟩ := o
  simp only at h
  split at h
  · rename_i t x
    unfold memLoad at h
    split at h
    · rename_i k off e1
      split at h
      · rename_i B hB
        cases hp : partOf P t B off with
        | none => rw [hp] at h; cases h
        | some u =>
          rw [hp] at h
          injection h with h
          injection h with h1 h2
          subst h1 h2
          obtain ⟨y, b, T, B', h1, h2, h3, h4⟩ := load_mem (P := P) hI (o := ⟨dst, .load t x, type, pos, after, guard⟩) hf (v := u) (k := k) (by simp [evalHeld, e1, hB, hp])
          exact ⟨_, y, w, R, h4 w rfl, .inl rfl, h1, Went.refl hI⟩
      · cases h
    · rename_i g off e1
      split at h
      · rename_i B hB ht
        rw [getO_eq] at h
        split at h
        · rename_i u hu
          injection h with h
          injection h with h1 h2
          subst h1 h2
          obtain ⟨y, rfl, hc⟩ := (hI.glo hB).2 off u hu
          have r1 := opnd_ok hf x
          rw [e1] at r1
          have r1 := lit_inv r1
          refine ⟨_, y, w, R, ?_, .inl rfl, VRel.lit_ _, Went.refl hI⟩
          simp [execOp, r1, loadG_run ht hc]
        · cases h
      · cases h
    · cases h
  · rename_i t x y
    unfold memStore at h
    dsimp only at h
    split at h
    · rename_i k off e1
      split at h
      · rename_i B n hB hfl hn
        split at h
        · rename_i hb
          injection h with h
          injection h with h1 h2
          subst h1 h2
          simp only [Bool.and_eq_true, lenL_eq, allL_eq] at hb
          obtain ⟨hb1, hb2, hb3⟩ := hb
          have hb1 := Nat.eq_of_beq_eq_true hb1
          have hb2 := Nat.le_of_ble_eq_true hb2
          have hfl := Nat.le_of_ble_eq_true hfl
          have r1 := opnd_ok hf x
          rw [e1] at r1
          obtain ⟨b, T, r3, r4⟩ := ptr_inv r1
          obtain ⟨b', T', r5, r6⟩ := hI.rel.blk hB
          obtain ⟨rfl, rfl⟩ := hI.rel.fn r3 r5
          have rc := (opnd_ok hf y).cells_
          have hl := rc.length
          have hT : B.length ≤ T := r6.choose_spec.choose_spec.choose_spec.2.2.1
          have hsz : (a.eval y).cells.size = n := by rw [← hb1, ← hl]; simp
          have ht : w.there b off n := r6.there (by omega)
          have hrun := storeVar_run (P := P) hn hsz ht (rc.ones hb3)
          rw [takeL_eq, dropL_eq, appL_eq, appL_eq, ← hb1, ← List.append_assoc]
          refine ⟨_, undef, _, R, ?_, .inr ⟨rfl, rfl⟩, VRel.lit_ _, hI.put_went hB r3 rc (by omega) hfl⟩
          simp [execOp, r4, hrun]
        · cases h
      · cases h
    · cases h
  · rename_i t
    unfold memAlloc at h
    split at h
    · rename_i i hi
      split at h
      · rename_i z hz
        injection h with h
        injection h with h1 h2
        subst h1 h2
        refine new_ok hI (C := z.cells) (e := t) (fz := (0, 0)) (x := .pointer (some ⟨w.heap.size, 0, none⟩)) (w2 := { w with heap := w.heap.push (.cells z.cells t) }) rfl ⟨rfl, rfl, rfl⟩ ?_ ?_ (fz0 _) ?_ ?_
        · rw [mapL_eq, List.length_map, List.take_length]; exact VRels.lits_ _
        · rw [mapL_eq]; simp
        · simp [execOp, Instr.alloc, zeroValue, typeInfo, hi, hz, newVar, newRow]
        · intro R' r
          simp only [VRel]
          exact ⟨_, _, r, rfl⟩
      · cases h
    · cases h
  · rename_i t x
    injection h with h
    injection h with h1 h2
    subst h1 h2
    have rc := (opnd_ok hf x).cells_
    have hl := rc.length
    refine new_ok hI (C := (a.eval x).cells) (e := t) (fz := (0, 0)) (x := .pointer (some ⟨w.heap.size, 0, none⟩)) (w2 := { w with heap := w.heap.push (.cells (a.eval x).cells t) }) rfl ⟨rfl, rfl, rfl⟩ ?_ ?_ (fz0 _) ?_ ?_
    · rw [← hl, List.take_length]; exact rc
    · rw [← hl]; simp
    · simp [execOp, Instr.box, newVar, newRow]
    · intro R' r
      simp only [VRel]
      exact ⟨_, _, r, rfl⟩
  · rename_i t l c
    unfold memMake at h
    split at h
    · rename_i kl l' kc c' e1 e2
      split at h
      · rename_i e hu
        split at h
        · rename_i i hi
          split at h
          · rename_i z hz
            split at h
            · rename_i hb
              injection h with h
              injection h with h1 h2
              subst h1 h2
              simp only [Bool.and_eq_true] at hb
              have b1 := Nat.le_of_ble_eq_true hb.1
              have b2 := Nat.le_of_ble_eq_true hb.2.1
              have b3 := Nat.le_of_ble_eq_true hb.2.2
              have r1 := opnd_ok hf l
              rw [e1] at r1
              have r1 := lit_inv r1
              have r2 := opnd_ok hf c
              rw [e2] at r2
              have r2 := lit_inv r2
              refine new_ok hI (C := (Array.range (c' * i.size)).map (z.cells[· % z.cells.size]!)) (e := e) (fz := (0, 0)) (x := .slice (some ⟨w.heap.size, 0, none⟩) l' c') (w2 := { w with heap := w.heap.push (.cells ((Array.range (c' * i.size)).map (z.cells[· % z.cells.size]!)) e) }) rfl ⟨rfl, rfl, rfl⟩ ?_ ?_ (fz0 _) ?_ ?_
              · rw [zeros_length]
                have := zeros_ok (R := R) z.cells (c' * i.size)
                rw [List.take_of_length_le (by simp)]
                exact this
              · rw [zeros_length]; simp
              · have hti : (typeInfo e).run P w = .ok i w := by simp [typeInfo, hi]
                have hsz : (sizeOf e).run P w = .ok i.size w := by simp [sizeOf, hti]
                have hbig : i.bytes * c' ≤ 281474976710656 := Nat.le_trans (Nat.mul_le_mul b3 b2) (by decide)
                have w1 : IntKind.i64.wrap (l' : Int) = l' := IntWalk.i64_in _ (by omega)
                have w2 : IntKind.i64.wrap (c' : Int) = c' := IntWalk.i64_in _ (by omega)
                have hbig2 : ¬ ((281474976710656 : Int) < (i.bytes : Int) * (c' : Int)) := Int.not_lt.2 (by rw [← Int.natCast_mul]; exact Int.ofNat_le.2 hbig)
                exact makeSlice_run (a := a) hu hi hz r1 r2 w1 w2 b1 hbig2
              · intro R' r
                simp only [VRel]
                exact ⟨_, _, r, rfl⟩
            · cases h
          · cases h
        · cases h
      · cases h
    · cases h
  · rename_i t len ps
    unfold memBuild at h
    split at h
    · rename_i e hu
      split at h
      · rename_i i hi
        split at h
        · rename_i z hz
          split at h
          · rename_i hb
            have hb := Nat.le_of_ble_eq_true hb
            rw [mapL_eq (fun p => (p.1, opnd f p.2)) ps.toList] at h
            split at h
            · rename_i cs hfl
              injection h with h
              injection h with h1 h2
              subst h1 h2
              have hti : (typeInfo e).run P w = .ok i w := by simp [typeInfo, hi]
              have hsz : (sizeOf e).run P w = .ok i.size w := by simp [sizeOf, hti]
              obtain ⟨C', h3, h4, h5⟩ := fill_ok hf ps.toList (C := (Array.range (len * i.size)).map (z.cells[· % z.cells.size]!)) hfl (zeros_ok _ _)
              have hl4 := h4.length
              refine new_ok hI (C := C') (e := e) (fz := (0, 0)) (x := .slice (some ⟨w.heap.size, 0, none⟩) len len) (w2 := { w with heap := w.heap.push (.cells C' e) }) rfl ⟨rfl, rfl, rfl⟩ ?_ ?_ (fz0 _) ?_ ?_
              · rw [← hl4, List.take_length]; exact h4
              · rw [← hl4]; simp
              · exact buildSlice_run (a := a) hu hi hz hb (by rw [pair_map, h3])
              · intro R' r
                simp only [VRel]
                exact ⟨_, _, r, rfl⟩
            · cases h
          · cases h
        · cases h
      · cases h
    · cases h
  · rename_i src dst x
    unfold memConv at h
    split at h
    · rename_i k off len cap sz e1
      split at h
      · rename_i e hs hd
        split at h
        · rename_i he
          split at h
          · rename_i l hl
            injection h with h
            injection h with h1 h2
            subst h1 h2
            obtain ⟨cs, hc1, hc2⟩ := Option.bind_eq_some_iff.1 hl
            have r1 := opnd_ok hf x
            rw [e1] at r1
            obtain ⟨xs, hx1, hx2⟩ := firstA_ok (P := P) hI r1 hc1
            obtain ⟨ns, rfl, rfl⟩ := bytesOf_ok hc2
            have hxs := lits_of_map hx1
            subst hxs
            obtain ⟨b, T, c', r3, r4, _, _⟩ := sl_inv r1
            have hrun := hx2 w rfl
            rw [r4] at hrun
            simp only [Builtin.firstCells, Nat.mul_one] at hrun
            refine ⟨_, .string ⟨(ns.map (fun n => UInt8.ofNat n.toNat)).toArray⟩, w, R, ?_, .inl rfl, VRel.lit_ _, Went.refl hI⟩
            have hp := push_bytes ns ByteArray.empty
            simp only [execOp, r4, Sem.run_bind, run_convert_bytes_string w src dst e _ _ _ hs he hd, run_bytesToString w _ len c' ns hrun, Result.andThen_ok, Sem.run_pure, hp]
            rfl
          · cases h
        · cases h
      · cases h
    · rename_i b e1
      split at h
      · rename_i e hs hd
        split at h
        · rename_i he
          injection h with h
          injection h with h1 h2
          subst h1 h2
          have r1 := opnd_ok hf x
          rw [e1] at r1
          have r1 := lit_inv r1
          have hge := grownCap_ge w b.size 0 e
          have hsz : (bytesRow b (grownCap w b.size 0 e)).size = grownCap w b.size 0 e := by unfold bytesRow; simp; omega
          refine new_ok hI (C := bytesRow b (grownCap w b.size 0 e)) (e := e) (fz := ((bytesRow b (grownCap w b.size 0 e)).size, (bytesRow b (grownCap w b.size 0 e)).size + 1)) (x := .slice (some ⟨w.heap.size, 0, none⟩) b.size (grownCap w b.size 0 e)) (w2 := w.drew.alloc (.cells (bytesRow b (grownCap w b.size 0 e)) e ((bytesRow b (grownCap w b.size 0 e)).size, (bytesRow b (grownCap w b.size 0 e)).size + 1))) rfl ⟨rfl, rfl, rfl⟩ ?_ ?_ ?_ ?_ ?_
          · rw [mapL_eq, List.length_map]
            have : (bytesRow b (grownCap w b.size 0 e)).toList.take b.data.toList.length = b.data.toList.map fun x => Value.int .u8 x.toNat := by
              unfold bytesRow
              rw [Array.toList_append, List.take_left' (by simp)]
              simp
            rw [this]
            exact VRels.map_ _ _ (fun _ => VRel.lit_ _) _
          · rw [mapL_eq, List.length_map, hsz]; simpa using hge
          · intro i hi
            simp
            omega
          · simp [execOp, r1, run_bytes_of_string w src dst e b hs hd he]
          · intro R' r
            simp only [VRel]
            exact ⟨_, _, _, r, hge, by rw [hsz]; omega, rfl⟩
        · cases h
      · cases h
    · cases h
  · rename_i args argTypes
    unfold memApp at h
    split at h
    · rename_i x y t u ea et
      have ea' := array_two ea
      have et' := array_two et
      subst ea' et'
      exact evalAppend_ok hI hf h
    · cases h
  · rename_i args argTypes
    unfold memCopy at h
    split at h
    · rename_i x y t u ea et
      have ea' := array_two ea
      have et' := array_two et
      subst ea' et'
      split at h
      · rename_i e hu
        split at h
        · rename_i size k off len c sz m hn e1 hm
          split at h
          · rename_i B src hB hfl hsrc
            split at h
            · rename_i hb
              injection h with h
              injection h with h1 h2
              subst h1 h2
              simp only [Bool.and_eq_true, lenL_eq, allL_eq] at hb
              have hb1 := Nat.le_of_ble_eq_true hb.1
              have hfl := Nat.le_of_ble_eq_true hfl
              have r1 := opnd_ok hf x
              rw [e1] at r1
              obtain ⟨b, T, c', r3, r4, _, _⟩ := sl_inv r1
              obtain ⟨b', T', r5, r6⟩ := hI.rel.blk hB
              obtain ⟨rfl, rfl⟩ := hI.rel.fn r3 r5
              have hT : B.length ≤ T := r6.choose_spec.choose_spec.choose_spec.2.2.1
              obtain ⟨xs, hx1, hx2⟩ := firstA_ok (P := P) hI (opnd_ok hf y) hsrc
              have hxl := hx1.length
              have hth : w.there b off xs.length := r6.there (by omega)
              have hst := run_storeCells_cells (P := P) b off xs 0 w (fun j hj => by simpa using (hth j hj).1) (fun j hj => by simpa using (hth j hj).2) (hx1.ones hb.2)
              simp only [Nat.add_zero] at hst
              have hln := lenOf_ok (P := P) (opnd_ok hf y) hm w
              rw [takeL_eq, dropL_eq, appL_eq, appL_eq, lenL_eq, ← List.append_assoc]
              refine ⟨_, goInt (Nat.min m len), _, R, ?_, .inl rfl, VRel.lit_ _, hI.put_went hB r3 hx1 hb1 hfl⟩
              simp [execOp, resolve, invoke, builtin, Builtin.copy_, run_underlying hu, r4, hln, sizeT_run hn, hx2 w rfl, hst]
            · cases h
          · cases h
        · cases h
      · cases h
    · cases h
  · cases h
end
end Go.Proofs.YtjkonfopajihdaaDoor
