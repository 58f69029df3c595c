/- A closed run, reckoned: what a call of a function at closed arguments comes to, in whatever memory. The definitions. -/
import Derived.Deep.Quiet
import Derived.Deep.MidRow
import Derived.Below
import Derived.Scope
set_option linter.unusedVariables false
namespace Go.Proofs.YtjkonfopajihdaaDoor
open Go Go.RowKit


/-! Plain functions on lists, straight by the recursor: the kernel runs them much faster. -/
section lists
variable {α β : Type}
noncomputable def getL (d : α) (l : List α) : Nat → α := List.rec (motive := fun _ => Nat → α) (fun _ => d) (fun a _ ih n => Nat.rec (motive := fun _ => α) a (fun m _ => ih m) n) l
theorem getL_eq (d : α) : ∀ (l : List α) (n : Nat), getL d l n = l.getD n d
  | [], _ => rfl
  | _ :: _, 0 => rfl
  | _ :: l, n + 1 => (getL_eq d l n).trans (by simp)
noncomputable def getO (l : List α) : Nat → Option α := List.rec (motive := fun _ => Nat → Option α) (fun _ => none) (fun a _ ih n => Nat.rec (motive := fun _ => Option α) (some a) (fun m _ => ih m) n) l
theorem getO_eq : ∀ (l : List α) (n : Nat), getO l n = l[n]?
  | [], _ => rfl
  | _ :: _, 0 => rfl
  | _ :: l, n + 1 => (getO_eq l n).trans (by simp)
noncomputable def setL (v : α) (l : List α) : Nat → List α := List.rec (motive := fun _ => Nat → List α) (fun _ => []) (fun a r ih n => Nat.rec (motive := fun _ => List α) (v :: r) (fun m _ => a :: ih m) n) l
theorem setL_eq (v : α) : ∀ (l : List α) (n : Nat), setL v l n = l.set n v
  | [], _ => rfl
  | _ :: _, 0 => rfl
  | a :: l, n + 1 => congrArg (a :: ·) (setL_eq v l n)
noncomputable def takeL (l : List α) : Nat → List α := List.rec (motive := fun _ => Nat → List α) (fun _ => []) (fun a _ ih n => Nat.rec (motive := fun _ => List α) [] (fun m _ => a :: ih m) n) l
theorem takeL_eq : ∀ (l : List α) (n : Nat), takeL l n = l.take n
  | [], n => by simp; rfl
  | _ :: _, 0 => rfl
  | a :: l, n + 1 => congrArg (a :: ·) (takeL_eq l n)
noncomputable def dropL (l : List α) : Nat → List α := List.rec (motive := fun _ => Nat → List α) (fun _ => []) (fun a r ih n => Nat.rec (motive := fun _ => List α) (a :: r) (fun m _ => ih m) n) l
theorem dropL_eq : ∀ (l : List α) (n : Nat), dropL l n = l.drop n
  | [], n => by simp; rfl
  | _ :: _, 0 => rfl
  | a :: l, n + 1 => dropL_eq l n
noncomputable def appL (l m : List α) : List α := List.rec (motive := fun _ => List α) m (fun a _ ih => a :: ih) l
theorem appL_eq : ∀ (l m : List α), appL l m = l ++ m
  | [], _ => rfl
  | a :: l, m => congrArg (a :: ·) (appL_eq l m)
noncomputable def lenL (l : List α) : Nat := List.rec (motive := fun _ => Nat) 0 (fun _ _ ih => Nat.succ ih) l
theorem lenL_eq : ∀ (l : List α), lenL l = l.length
  | [] => rfl
  | _ :: l => congrArg Nat.succ (lenL_eq l)
noncomputable def mapL (f : α → β) (l : List α) : List β := List.rec (motive := fun _ => List β) [] (fun a _ ih => f a :: ih) l
theorem mapL_eq (f : α → β) : ∀ (l : List α), mapL f l = l.map f
  | [] => rfl
  | a :: l => congrArg (f a :: ·) (mapL_eq f l)
noncomputable def allL (p : α → Bool) (l : List α) : Bool := List.rec (motive := fun _ => Bool) true (fun a _ ih => Bool.rec false ih (p a)) l
theorem allL_eq (p : α → Bool) : ∀ (l : List α), allL p l = l.all p
  | [] => rfl
  | a :: l => by
    rw [List.all_cons, ← allL_eq p l]
    show (Bool.rec (motive := fun _ => Bool) false (allL p l) (p a) : Bool) = _
    cases p a <;> rfl
/-- The list laid open to its end, ahead of what follows. -/
noncomputable def forceL (l : List α) : (List α → β) → β := List.rec (motive := fun _ => (List α → β) → β) (fun k => k []) (fun a _ ih k => ih (fun r => k (a :: r))) l
theorem forceL_eq : ∀ (l : List α) (k : List α → β), forceL l k = k l
  | [], _ => rfl
  | a :: l, k => forceL_eq l (fun r => k (a :: r))
noncomputable def forceN (n : Nat) (k : Nat → β) : β := Nat.rec (motive := fun _ => β) (k 0) (fun m _ => k (Nat.succ m)) n
theorem forceN_eq (n : Nat) (k : Nat → β) : forceN n k = k n := by cases n <;> rfl
noncomputable def forceI (n : Int) (k : Int → β) : β := Int.rec (motive := fun _ => β) (fun m => forceN m fun m => k (.ofNat m)) (fun m => forceN m fun m => k (.negSucc m)) n
theorem forceI_eq (n : Int) (k : Int → β) : forceI n k = k n := by
  cases n with
  | ofNat m => exact forceN_eq m fun m => k (.ofNat m)
  | negSucc m => exact forceN_eq m fun m => k (.negSucc m)
end lists
/-- A value as it is reckoned with: known to the letter; an address into a block of the run's own; what holds such. -/
inductive AV where
  | lit (v : Value)
  | ptr (k off : Nat)
  | sl (k off len : Nat) (cap : Option Nat) (sz : Nat)
  | emp
  | agg (vs : List AV)
  | tup (vs : List AV)
  | ifc (t : TypeId) (v : AV)
  | fn (f : Fn) (first captured : List AV)
  deriving Inhabited
/-- A frame: a tree of its temporaries. -/
inductive Tr where
  | lf
  | nd (v : AV) (l r : Tr)
structure Fr where
  n : Nat
  t : Tr
noncomputable def trGet (t : Tr) : Nat → AV := Tr.rec (motive := fun _ => Nat → AV) (fun _ => .lit undef) (fun v _ _ ihl ihr i => Bool.rec (Bool.rec (ihr (i / 2 - 1)) (ihl (i / 2)) (Nat.beq (i % 2) 1)) v (Nat.beq i 0)) t
noncomputable def trSet (v : AV) (t : Tr) : Nat → Tr := Tr.rec (motive := fun _ => Nat → Tr) (fun _ => .lf) (fun u l r ihl ihr i => Bool.rec (Bool.rec (.nd u l (ihr (i / 2 - 1))) (.nd u (ihl (i / 2)) r) (Nat.beq (i % 2) 1)) (.nd v l r) (Nat.beq i 0)) t
noncomputable def trFull (d : Nat) : Tr := Nat.rec (motive := fun _ => Tr) .lf (fun _ t => .nd (.lit undef) t t) d
noncomputable def trInit (l : List AV) : Nat → Tr → Tr := List.rec (motive := fun _ => Nat → Tr → Tr) (fun _ t => t) (fun v _ ih i t => ih (i + 1) (trSet v t i)) l
noncomputable def getF (f : Fr) (i : Nat) : AV := Fr.rec (motive := fun _ => AV) (fun n t => Bool.rec (.lit undef) (trGet t i) (Nat.blt i n)) f
noncomputable def setF (v : AV) (f : Fr) (i : Nat) : Fr := Fr.rec (motive := fun _ => Fr) (fun n t => Bool.rec ⟨n, t⟩ ⟨n, trSet v t i⟩ (Nat.blt i n)) f
/-- The frame's root laid open, ahead of what follows. -/
noncomputable def forceF {β : Type} (f : Fr) (k : Fr → β) : β := Fr.rec (motive := fun _ => β) (fun n t => Tr.rec (motive := fun _ => β) (k ⟨n, .lf⟩) (fun v l r _ _ => k ⟨n, .nd v l r⟩) t) f
theorem forceF_eq {β : Type} (f : Fr) (k : Fr → β) : forceF f k = k f := by
  cases f with
  | mk n t => cases t <;> rfl
/-- n: the next new number; h: the blocks; wr: the numbers of those that were written; gl: the variables that are known, by their blocks. -/
structure AS where
  n : Nat
  h : List (Nat × List AV)
  wr : List Nat
  gl : List (Nat × List AV)
noncomputable def hasN (l : List Nat) (k : Nat) : Bool := List.rec (motive := fun _ => Bool) false (fun a _ ih => Bool.rec ih true (Nat.beq a k)) l
noncomputable def addW (k : Nat) (l : List Nat) : List Nat := match hasN l k with
  | true => l
  | false => k :: l
noncomputable def unionW (l m : List Nat) : List Nat := List.rec (motive := fun _ => List Nat) m (fun a _ ih => addW a ih) l
noncomputable def oldW (n : Nat) (l : List Nat) : List Nat := List.rec (motive := fun _ => List Nat) [] (fun a _ ih => Bool.rec (a :: ih) ih (Nat.ble n a)) l
noncomputable def look (k : Nat) (h : List (Nat × List AV)) : Option (List AV) :=
  List.rec (motive := fun _ => Option (List AV)) none (fun p _ ih => Bool.rec ih (some p.2) (Nat.beq p.1 k)) h
noncomputable def upd (k : Nat) (b : List AV) (h : List (Nat × List AV)) : List (Nat × List AV) :=
  List.rec (motive := fun _ => List (Nat × List AV)) [] (fun p r ih => Bool.rec (p :: ih) ((p.1, b) :: r) (Nat.beq p.1 k)) h
noncomputable def kill (k : Nat) (h : List (Nat × List AV)) : List (Nat × List AV) :=
  List.rec (motive := fun _ => List (Nat × List AV)) [] (fun p _ ih => Bool.rec (p :: ih) ih (Nat.beq p.1 k)) h
noncomputable def dropNew (n : Nat) (h : List (Nat × List AV)) : List (Nat × List AV) :=
  List.rec (motive := fun _ => List (Nat × List AV)) [] (fun p _ ih => Bool.rec (p :: ih) ih (Nat.ble n p.1)) h
noncomputable def litOf : AV → Option Value
  | .lit v => some v
  | _ => none
noncomputable def litOf2 (v : AV) (l : Option (List Value)) : Option (List Value) := match v, l with
  | .lit v, some l => some (v :: l)
  | _, _ => none
noncomputable def lits (l : List AV) : Option (List Value) := List.rec (motive := fun _ => Option (List Value)) (some []) (fun v _ ih => litOf2 v ih) l
noncomputable def mkAgg (vs : List AV) : AV := match lits vs with
  | some l => .lit (.agg l.toArray)
  | none => .agg vs
noncomputable def mkTup (vs : List AV) : AV := match lits vs with
  | some l => .lit (.tuple l.toArray)
  | none => .tup vs
noncomputable def AV.cells : AV → List AV
  | .agg vs => vs
  | .lit (.agg cs) => mapL .lit cs.toList
  | v => [v]
/-- The value of one cell? -/
noncomputable def AV.one : AV → Bool
  | .agg _ | .tup _ => false
  | .lit (.agg _) | .lit (.tuple _) => false
  | _ => true
noncomputable def opnd (f : Fr) : Operand → AV
  | .tmp t => getF f t
  | .const v => .lit v
  | .global g => .lit (.pointer (some ⟨g, 0, none⟩))
  | .func k => .lit (.func (.func k) #[] #[])
noncomputable def val : AV → Value
  | .lit v => v
  | _ => undef
noncomputable def isLit : AV → Bool
  | .lit _ => true
  | _ => false
/-- What asks nothing of the world. -/
noncomputable def runPure (P : Program) {α : Type} : Sem α → Option α
  | .pure a => some a
  | .program k => runPure P (k P)
  | .mark _ k => runPure P k
  | _ => none
noncomputable def noSel : Op → Bool
  | .select .. => false
  | _ => true
noncomputable def evalPure (P : Program) (f : Fr) (o : Oper) : Option Next :=
  match noSel o.op && allL (fun x => isLit (opnd f x)) o.op.operands.toList with
  | true => runPure P (execOp (fun x => val (opnd f x)) o)
  | false => none
noncomputable def isRowT (P : Program) (t : TypeId) : Option Bool := match P.underlying t with
  | some (.struct _) | some (.array _ _) => some true
  | some _ => some false
  | none => none
noncomputable def sizeT (P : Program) (t : TypeId) : Option Nat := (P.info? t).map (·.size)
/-- What lies in these cells from off on, as a value of the type t. -/
noncomputable def partOf (P : Program) (t : TypeId) (cs : List AV) (off : Nat) : Option AV :=
  match isRowT P t, sizeT P t with
  | some true, some n => match Nat.ble (off + n) (lenL cs) with
    | true => some (mkAgg (takeL (dropL cs off) n))
    | false => none
  | some false, some _ => getO cs off
  | _, _ => none
noncomputable def intLit : AV → Option Int
  | .lit (.int _ n) => some n
  | _ => none
/-- The bounds of a cut, each known. -/
noncomputable def bound (d : Nat) : Option AV → Option Nat
  | none => some d
  | some (.lit (.int _ (.ofNat n))) => some n
  | some _ => none
noncomputable def bounds3 (len cap : Nat) (lo hi mx : Option AV) : Option (Nat × Nat × Nat) :=
  match hi, mx with
  | none, some _ => none
  | _, _ => match bound 0 lo, bound len hi, bound cap mx with
    | some l, some h, some m => match Nat.ble l h && (Nat.ble h m && Nat.ble m cap) with
      | true => some (l, h, m)
      | false => none
    | _, _, _ => none
noncomputable def cutSl (k off n l h m : Nat) : AV := match Nat.beq m l with
  | true => .sl k off (h - l) (some (m - l)) 0
  | false => .sl k (off + l * n) (h - l) (some (m - l)) 0
noncomputable def zeros (z : Array Value) (n : Nat) : List AV := mapL (fun i => .lit (z[i % z.size]!)) (List.range n)
noncomputable def newB (s : AS) (b : List AV) : AS := ⟨s.n + 1, (s.n, b) :: s.h, s.wr, s.gl⟩
noncomputable def fillA (place : Nat → Option (Nat × Nat)) (cells : List AV) : List (Nat × AV) → Option (List AV)
  | [] => some cells
  | (i, v) :: rest =>
    match place i with
    | none => none
    | some (off, size) => match Nat.beq (lenL v.cells) size && Nat.ble (off + lenL v.cells) (lenL cells) with
      | true => fillA place (appL (takeL cells off) (appL v.cells (dropL cells (off + lenL v.cells)))) rest
      | false => none
/-- The first n elements' cells. -/
noncomputable def firstA (s : AS) (size n : Nat) : AV → Option (List AV)
  | .lit (.slice none _ _) => some []
  | .lit (.string b) => match Nat.ble n b.size with
    | true => some (mapL (fun x => .lit (.int .u8 x.toNat)) (takeL b.data.toList n))
    | false => none
  | .sl k off _ _ _ => match look k s.h with
    | some b => match Nat.ble (off + n * size) (lenL b) with
      | true => some (takeL (dropL b off) (n * size))
      | false => none
    | none => none
  | _ => none
noncomputable def lenOfSlice : AV → Option Nat
  | .lit (.slice none n _) => some n
  | .lit (.string b) => some b.size
  | .sl _ _ len _ _ => some len
  | .emp => some 0
  | _ => none
noncomputable def bytesOf : List AV → Option (List UInt8)
  | [] => some []
  | .lit (.int .u8 (.ofNat n)) :: r => match bytesOf r with
    | some l => some (UInt8.ofNat n :: l)
    | none => none
  | _ :: _ => none
abbrev CallE := Nat → FuncId → List AV → AS → Option (AV × AS)
noncomputable def appendTo (floor size : Nat) (x : AV) (new : List AV) (n : Nat) (s : AS) : Option (AV × AS) :=
  match x with
  | .lit (.slice none 0 0) => match Nat.beq n 0, Nat.ble n 1000000 with
    | true, _ => some (x, s)
    | false, true => some (.sl s.n 0 n none size, newB s new)
    | _, _ => none
  | .sl k off len none sz => match look k s.h, Nat.beq off 0 && (Nat.ble floor k && (Nat.beq sz size && Nat.ble (len + n) 1000000)) with
    | some b, true => match Nat.beq n 0, Nat.ble (len * size) (lenL b) with
      | true, _ => some (x, s)
      | false, true => some (.sl s.n 0 (len + n) none size, newB ⟨s.n, kill k s.h, addW k s.wr, s.gl⟩ (appL (takeL b (len * size)) new))
      | _, _ => none
    | _, _ => none
  | .sl k off len (some c) _ => match Nat.ble (len + n) c with
    | true => match look k s.h, Nat.ble floor k with
      | some b, true => match Nat.ble (off + (len + n) * size) (lenL b) with
        | true => some (.sl k off (len + n) (some c) 0, ⟨s.n, upd k (appL (takeL b (off + len * size)) (appL new (dropL b (off + (len + n) * size)))) s.h, addW k s.wr, s.gl⟩)
        | false => none
      | _, _ => none
    | false => match firstA s size len x, Nat.ble (len + n) 1000000 with
      | some old, true => some (.sl s.n 0 (len + n) none size, newB s (appL old new))
      | _, _ => none
  | _ => none
noncomputable def evalAppend (P : Program) (floor : Nat) (t u : TypeId) (x y : AV) (s : AS) : Option (AV × AS) :=
  match P.underlying t, P.underlying u with
  | some (.slice e), some (.slice _) | some (.slice e), some .string => match P.info? e with
    | some i => match i.zero, firstA s i.size ((lenOfSlice y).getD 0) y, lenOfSlice y with
      | some z, some new, some n => match Nat.beq z.cells.size i.size && (Nat.ble i.bytes 10000000 && (Nat.beq (lenL new) (n * i.size) && allL (·.one) new)) with
        | true => appendTo floor i.size x new n s
        | false => none
      | _, _, _ => none
    | none => none
  | _, _ => none
noncomputable def placeF (P : Program) (fs : Array Field) (j : Nat) : Option (Nat × Nat) := match fs[j]? with
  | some fd => (sizeT P fd.type).map (fd.offset, ·)
  | none => none
noncomputable def wlPick (f : Fr) (c a b : Operand) : Option AV := match opnd f c with
    | .lit (.bool true) => some (opnd f a)
    | .lit (.bool false) => some (opnd f b)
    | _ => none
noncomputable def wlExtract (f : Fr) (t : Operand) (i : Nat) : Option AV := match opnd f t with
    | .tup vs => (vs[i]?)
    | .lit (.tuple vs) => (vs[i]?).map .lit
    | _ => none
noncomputable def wlNil (f : Fr) (x : Operand) : Option AV := match opnd f x with
    | .ptr k off => some (.ptr k off)
    | _ => none
noncomputable def wlFieldAddr (P : Program) (f : Fr) (t : TypeId) (x : Operand) (i : Nat) : Option AV := match opnd f x with
    | .ptr k off => match P.underlying t with
      | some (.struct fs) => match fs[i]? with
        | some fd => match sizeT P fd.type with
          | some (_ + 1) => some (.ptr k (off + fd.offset))
          | _ => none
        | none => none
      | _ => none
    | _ => none
noncomputable def wlField (P : Program) (f : Fr) (t : TypeId) (x : Operand) (i : Nat) : Option AV := match opnd f x with
    | .agg vs => match P.underlying t with
      | some (.struct fs) => match fs[i]? with
        | some fd => (partOf P fd.type vs fd.offset)
        | none => none
      | _ => none
    | _ => none
noncomputable def wlIndexAddr (P : Program) (f : Fr) (t : TypeId) (x ix : Operand) : Option AV := match opnd f ix, opnd f x with
    | .lit (.int _ (.ofNat i)), .sl k off len _ _ => match P.underlying t with
      | some (.slice e) => match Nat.blt i len, sizeT P e with
        | true, some n => some (.ptr k (off + i * n))
        | _, _ => none
      | _ => none
    | .lit (.int _ (.ofNat i)), .ptr k off => match P.underlying t with
      | some (.array len e) => match Nat.blt i len, sizeT P e with
        | true, some n => some (.ptr k (off + i * n))
        | _, _ => none
      | _ => none
    | _, _ => none
noncomputable def wlSlice (P : Program) (f : Fr) (t : TypeId) (x : Operand) (lo hi mx : Option Operand) : Option AV := match opnd f x with
    | .sl k off len cap sz => match P.underlying t with
      | some (.slice e) => match sizeT P e, cap with
        | some n, some c => match bounds3 len c (lo.map (opnd f)) (hi.map (opnd f)) (mx.map (opnd f)) with
          | some (l, h, m) => some (cutSl k off n l h m)
          | none => none
        | some n, none => match mx with
          | some _ => none
          | none => match bounds3 len len (lo.map (opnd f)) (hi.map (opnd f)) none with
            | some (l, h, _) => match Nat.beq l 0 with
              | true => some (.sl k off h none sz)
              | false => match Nat.blt l len && Nat.beq sz n with
                | true => some (.sl k (off + l * n) (h - l) none sz)
                | false => none
            | none => none
        | _, _ => none
      | _ => none
    | .ptr k off => match P.underlying t with
      | some (.array c e) => match sizeT P e, bounds3 c c (lo.map (opnd f)) (hi.map (opnd f)) (mx.map (opnd f)) with
        | some n, some (l, h, m) => some (cutSl k off n l h m)
        | _, _ => none
      | _ => none
    | _ => none
noncomputable def wlMakeFunc (f : Fr) (fn : Fn) (a b : Array Operand) : Option AV := match allL (fun x => isLit (opnd f x)) a.toList && allL (fun x => isLit (opnd f x)) b.toList with
    | true => none
    | false => some (.fn fn (mapL (opnd f) a.toList) (mapL (opnd f) b.toList))
noncomputable def wlIface (P : Program) (f : Fr) (t : TypeId) (x : Operand) : Option AV := match opnd f x with
    | .lit _ => none
    | v => match P.underlying t with
      | some (.interface _) => none
      | some _ => some (.ifc t v)
      | none => none
noncomputable def wlBin (P : Program) (f : Fr) (op : BinOp) (t : TypeId) (x y : Operand) : Option AV := match opnd f x, opnd f y with
    | .ptr _ _, .lit (.pointer none) | .lit (.pointer none), .ptr _ _ => match P.underlying t, op with
      | some (.pointer _), .eql => some (.lit (.bool false))
      | some (.pointer _), .neq => some (.lit (.bool true))
      | _, _ => none
    | .sl _ _ _ _ _, .lit (.slice none _ _) | .lit (.slice none _ _), .sl _ _ _ _ _ => match P.underlying t, op with
      | some (.slice _), .eql => some (.lit (.bool false))
      | some (.slice _), .neq => some (.lit (.bool true))
      | _, _ => none
    | .fn _ _ _, .lit .nilFunc | .lit .nilFunc, .fn _ _ _ => match P.underlying t, op with
      | some (.func _ _ _), .eql => some (.lit (.bool false))
      | some (.func _ _ _), .neq => some (.lit (.bool true))
      | _, _ => none
    | _, _ => none
noncomputable def wlBuild (P : Program) (f : Fr) (t : TypeId) (ps : Array (Nat × Operand)) : Option AV := match allL (fun p => isLit (opnd f p.2)) ps.toList with
    | true => none
    | false => match P.info? t with
      | some i => match i.zero, P.underlying t with
        | some z, some (.struct fs) => match allL (fun fd => (sizeT P fd.type).isSome) fs.toList with
          | true => (fillA (placeF P fs) (mapL .lit z.cells.toList) (mapL (fun p => (p.1, opnd f p.2)) ps.toList)).map mkAgg
          | false => none
        | some z, some (.array _ e) => match sizeT P e with
          | some n => (fillA (fun j => some (j * n, n)) (mapL .lit z.cells.toList) (mapL (fun p => (p.1, opnd f p.2)) ps.toList)).map (mkAgg ·)
          | none => none
        | _, _ => none
      | none => none
noncomputable def wlLen (P : Program) (f : Fr) (args : Array Operand) (argTypes : Array TypeId) : Option AV := match args.toList, argTypes.toList with
    | [x], [t] => match opnd f x, P.underlying t with
      | .sl _ _ len _ _, some (.slice _) => some (.lit (goInt len))
      | .emp, some (.slice _) => some (.lit (goInt 0))
      | _, _ => none
    | _, _ => none
/-- What asks nothing of the world. -/
noncomputable def evalWl0 (P : Program) (f : Fr) (o : Oper) : Option AV :=
  match o.op with
  | .move x | .assign x => some (opnd f x)
  | .pick c a b => wlPick f c a b
  | .extract t i => wlExtract f t i
  | .nilCheck x => wlNil f x
  | .fieldAddr t x i => wlFieldAddr P f t x i
  | .field t x i => wlField P f t x i
  | .indexAddr t x ix => wlIndexAddr P f t x ix
  | .slice t x lo hi mx => wlSlice P f t x lo hi mx
  | .makeFunc fn a b => wlMakeFunc f fn a b
  | .makeInterface t x => wlIface P f t x
  | .binOp op t x y _ => wlBin P f op t x y
  | .build t ps => wlBuild P f t ps
  | .call { callee := .builtin .len, args, argTypes } => wlLen P f args argTypes
  | _ => none
/-- Whole numbers, straight. -/
noncomputable def fastInt (op : BinOp) (k k' : IntKind) (a b : Int) : Option Value :=
  match op with
  | .shl => match Int.decLt b 0 with
    | .isTrue _ => none
    | .isFalse _ => forceI (k.wrap (a * 2 ^ (min b.toNat k.bits))) fun z => some (.int k z)
  | .shr => match Int.decLt b 0 with
    | .isTrue _ => none
    | .isFalse _ => forceI (a.fdiv (2 ^ (min b.toNat k.bits))) fun z => some (.int k z)
  | _ => match decEq k k' with
    | .isFalse _ => none
    | .isTrue _ => match op with
      | .add => forceI (k.wrap (a + b)) fun z => some (.int k z)
      | .sub => forceI (k.wrap (a - b)) fun z => some (.int k z)
      | .mul => forceI (k.wrap (a * b)) fun z => some (.int k z)
      | .quo => match b with
        | .ofNat 0 => none
        | _ => forceI (k.wrap (a.tdiv b)) fun z => some (.int k z)
      | .rem => match b with
        | .ofNat 0 => none
        | _ => forceI (a.tmod b) fun z => some (.int k z)
      | .and => forceN ((BitVec.ofInt k.bits a).toNat &&& (BitVec.ofInt k.bits b).toNat) fun n => forceI (k.wrap n) fun z => some (.int k z)
      | .or => forceN ((BitVec.ofInt k.bits a).toNat ||| (BitVec.ofInt k.bits b).toNat) fun n => forceI (k.wrap n) fun z => some (.int k z)
      | .eql => some (.bool (a == b))
      | .neq => some (.bool (a != b))
      | .lss => some (.bool (a < b))
      | .leq => some (.bool (a ≤ b))
      | .gtr => some (.bool (a > b))
      | .geq => some (.bool (a ≥ b))
      | _ => none
noncomputable def fwBin (f : Fr) (op : BinOp) (x y : Operand) : Option AV := match opnd f x, opnd f y with
    | .lit (.int k a), .lit (.int k' b) => match fastInt op k k' a b with
      | some v => some (.lit v)
      | none => none
    | _, _ => none
noncomputable def fwConv (P : Program) (f : Fr) (src dst : TypeId) (x : Operand) : Option AV := match opnd f x with
    | .lit (.int _ n) => match P.underlying src, P.underlying dst with
      | some _, some (.int k) => forceI (k.wrap n) fun z => some (.lit (.int k z))
      | _, _ => none
    | _ => none
noncomputable def fwIndex (P : Program) (f : Fr) (t : TypeId) (x ix : Operand) : Option AV := match opnd f x, opnd f ix with
    | .lit (.string s), .lit (.int _ (.ofNat i)) => match P.underlying t with
      | some .string => match getO s.data.toList i with
        | some b => forceN b.toNat fun n => some (.lit (.int .u8 (.ofNat n)))
        | none => none
      | _ => none
    | _, _ => none
noncomputable def fwLen (P : Program) (f : Fr) (args : Array Operand) (argTypes : Array TypeId) : Option AV := match args.toList, argTypes.toList with
    | [x], [t] => match opnd f x, P.underlying t with
      | .lit (.string s), some .string => forceN s.size fun n => some (.lit (.int .i64 (.ofNat n)))
      | _, _ => none
    | _, _ => none
noncomputable def fastWl (P : Program) (f : Fr) (o : Oper) : Option AV :=
  match o.op with
  | .binOp op _ x y _ => fwBin f op x y
  | .convert src dst x => fwConv P f src dst x
  | .index t x ix => fwIndex P f t x ix
  | .call { callee := .builtin .len, args, argTypes } => fwLen P f args argTypes
  | _ => none
noncomputable def evalWl (P : Program) (f : Fr) (o : Oper) : Option AV :=
  match fastWl P f o with
  | some v => some v
  | none => match evalWl0 P f o with
    | some v => some v
    | none => match evalPure P f o with
      | some (.value v) => some (.lit v)
      | _ => none
noncomputable def memLoad (P : Program) (f : Fr) (t : TypeId) (a : Operand) (s : AS) : Option (AV × AS) := match opnd f a with
    | .ptr k off => match look k s.h with
      | some b => (partOf P t b off).map (·, s)
      | none => none
    | .lit (.pointer (some ⟨g, off, none⟩)) => match look g s.gl, isRowT P t with
      | some b, some false => match getO b off with
        | some v => some (v, s)
        | none => none
      | _, _ => none
    | _ => none
noncomputable def memStore (P : Program) (floor : Nat) (f : Fr) (t : TypeId) (a x : Operand) (s : AS) : Option (AV × AS) := match opnd f a with
    | .ptr k off => match look k s.h, Nat.ble floor k, sizeT P t with
      | some b, true, some n =>
        let cs := (opnd f x).cells
        match Nat.beq (lenL cs) n && (Nat.ble (off + n) (lenL b) && allL (·.one) cs) with
        | true => some (.lit undef, ⟨s.n, upd k (appL (takeL b off) (appL cs (dropL b (off + n)))) s.h, addW k s.wr, s.gl⟩)
        | false => none
      | _, _, _ => none
    | _ => none
noncomputable def memAlloc (P : Program) (t : TypeId) (s : AS) : Option (AV × AS) := match P.info? t with
    | some i => match i.zero with
      | some z => some (.ptr s.n 0, newB s (mapL .lit z.cells.toList))
      | none => none
    | none => none
noncomputable def memMake (P : Program) (f : Fr) (t : TypeId) (l c : Operand) (s : AS) : Option (AV × AS) := match opnd f l, opnd f c with
    | .lit (.int _ (.ofNat l)), .lit (.int _ (.ofNat c)) => match P.underlying t with
      | some (.slice e) => match P.info? e with
        | some i => match i.zero with
          | some z => match Nat.ble l c && (Nat.ble c 1000000 && Nat.ble i.bytes 100000000) with
            | true => some (.sl s.n 0 l (some c) 0, newB s (zeros z.cells (c * i.size)))
            | false => none
          | none => none
        | none => none
      | _ => none
    | _, _ => none
noncomputable def memBuild (P : Program) (f : Fr) (t : TypeId) (len : Nat) (ps : Array (Nat × Operand)) (s : AS) : Option (AV × AS) := match P.underlying t with
    | some (.slice e) => match P.info? e with
      | some i => match i.zero with
        | some z => match Nat.ble (len * i.size) 16777216 with
          | true => match fillA (fun j => some (j * i.size, i.size)) (zeros z.cells (len * i.size)) (mapL (fun p => (p.1, opnd f p.2)) ps.toList) with
            | some cs => some (.sl s.n 0 len (some len) 0, newB s cs)
            | none => none
          | false => none
        | none => none
      | none => none
    | _ => none
noncomputable def memConv (P : Program) (f : Fr) (src dst : TypeId) (x : Operand) (s : AS) : Option (AV × AS) := match opnd f x with
    | .sl k off len cap sz => match P.underlying src, P.underlying dst with
      | some (.slice e), some .string => match P.underlying e with
        | some (.int .u8) => match (firstA s 1 len (.sl k off len cap sz)).bind bytesOf with
          | some l => some (.lit (.string ⟨l.toArray⟩), s)
          | none => none
        | _ => none
      | _, _ => none
    | .lit (.string b) => match P.underlying src, P.underlying dst with
      | some .string, some (.slice e) => match P.underlying e with
        | some (.int .u8) => some (.sl s.n 0 b.size none 1, newB s (mapL (fun x => .lit (.int .u8 x.toNat)) b.data.toList))
        | _ => none
      | _, _ => none
    | _ => none
noncomputable def memApp (P : Program) (floor : Nat) (f : Fr) (args : Array Operand) (argTypes : Array TypeId) (s : AS) : Option (AV × AS) := match args.toList, argTypes.toList with
    | [x, y], [t, u] => evalAppend P floor t u (opnd f x) (opnd f y) s
    | _, _ => none
noncomputable def memCopy (P : Program) (floor : Nat) (f : Fr) (args : Array Operand) (argTypes : Array TypeId) (s : AS) : Option (AV × AS) := match args.toList, argTypes.toList with
    | [x, y], [t, _] => match P.underlying t with
      | some (.slice e) => match sizeT P e, opnd f x, lenOfSlice (opnd f y) with
        | some size, .sl k off len _ _, some m => match look k s.h, Nat.ble floor k, firstA s size (Nat.min m len) (opnd f y) with
          | some b, true, some src => match Nat.ble (off + lenL src) (lenL b) && allL (·.one) src with
            | true => some (.lit (goInt (Nat.min m len)), ⟨s.n, upd k (appL (takeL b off) (appL src (dropL b (off + lenL src)))) s.h, addW k s.wr, s.gl⟩)
            | false => none
          | _, _, _ => none
        | _, _, _ => none
      | _ => none
    | _, _ => none
/-- What reads or makes memory. -/
noncomputable def evalMem (P : Program) (floor : Nat) (f : Fr) (o : Oper) (s : AS) : Option (AV × AS) :=
  match o.op with
  | .load t a => memLoad P f t a s
  | .store t a x => memStore P floor f t a x s
  | .alloc t => memAlloc P t s
  | .box t x => some (.ptr s.n 0, newB s ((opnd f x).cells))
  | .makeSlice t l c => memMake P f t l c s
  | .buildSlice t len ps => memBuild P f t len ps s
  | .convert src dst x => memConv P f src dst x s
  | .call { callee := .builtin .append, args, argTypes } => memApp P floor f args argTypes s
  | .call { callee := .builtin .copy, args, argTypes } => memCopy P floor f args argTypes s
  | _ => none
/-- A function that is entered as it is. -/
noncomputable def entered (P : Program) (g : FuncId) : Bool := match P.funcs[g]? with
  | some fn => fn.body.isSome && !(fn.name == "runtime.NumGoroutine")
  | none => false
noncomputable def calleeOf : AV → Option (FuncId × List AV × List AV)
  | .lit (.func (.func g) a b) => some (g, mapL .lit a.toList, mapL .lit b.toList)
  | .fn (.func g) a b => some (g, a, b)
  | _ => none
/-- A method of a value behind an interface. -/
noncomputable def methodOf (P : Program) (x : AV) (name : String) (args : List AV) : Option (FuncId × List AV) := match x with
  | .lit (.iface t v) => match runPure P (method (P.types.size + Made.depth) t v name) with
    | some (g, r) => match entered P g with
      | true => some (g, .lit r :: args)
      | false => none
    | none => none
  | _ => none
/-- A call of a function that is entered: by name, or by a value that is known. -/
noncomputable def callOf (P : Program) (f : Fr) (o : Oper) : Option (FuncId × List AV) :=
  match o.op with
  | .call { callee := .value x, args, .. } => match calleeOf (opnd f x) with
    | some (g, a, b) => match entered P g with
      | true => some (g, appL a (appL (mapL (opnd f) args.toList) b))
      | false => none
    | none => none
  | .call { callee := .invoke x name, args, .. } => methodOf P (opnd f x) name (mapL (opnd f) args.toList)
  | _ => none
noncomputable def evalOp0 (P : Program) (call : CallE) (floor : Nat) (f : Fr) (o : Oper) (s : AS) : Option (AV × AS) :=
  match callOf P f o with
  | some (g, l) => call floor g l s
  | none => match evalMem P floor f o s with
    | some r => some r
    | none => match evalWl P f o with
      | some v => some (v, s)
      | none => none
/-- What is left when neither calls nor memory have it. -/
noncomputable def wlOp (P : Program) (f : Fr) (o : Oper) (s : AS) : Option (AV × AS) := match evalWl P f o with
  | some v => some (v, s)
  | none => none
noncomputable def pureOp (P : Program) (f : Fr) (o : Oper) (s : AS) : Option (AV × AS) := match evalPure P f o with
  | some (.value v) => some (.lit v, s)
  | _ => none
noncomputable def orMem (r d : Option (AV × AS)) : Option (AV × AS) := Option.rec (motive := fun _ => Option (AV × AS)) d (fun x => some x) r
noncomputable def orWl (r : Option AV) (s : AS) (d : Option (AV × AS)) : Option (AV × AS) := Option.rec (motive := fun _ => Option (AV × AS)) d (fun v => some (v, s)) r
/-- An operation, made ready once. -/
structure OpF where
  fn : CallE → Nat → Fr → AS → Option (AV × AS)
noncomputable def callOp (P : Program) (x : Operand) (args : List Operand) (call : CallE) (floor : Nat) (f : Fr) (o : Oper) (s : AS) : Option (AV × AS) := match calleeOf (opnd f x) with
  | some (g, a, b) => match entered P g with
    | true => call floor g (appL a (appL (mapL (opnd f) args) b)) s
    | false => pureOp P f o s
  | none => pureOp P f o s
noncomputable def compOp (P : Program) (o : Oper) : OpF := match o.op with
  | .move x | .assign x => ⟨fun _ _ f s => some (opnd f x, s)⟩
  | .load t a => ⟨fun _ _ f s => orMem (memLoad P f t a s) (pureOp P f o s)⟩
  | .store t a x => ⟨fun _ floor f s => orMem (memStore P floor f t a x s) (pureOp P f o s)⟩
  | .extract t i => ⟨fun _ _ f s => orWl (wlExtract f t i) s (pureOp P f o s)⟩
  | .fieldAddr t x i => ⟨fun _ _ f s => orWl (wlFieldAddr P f t x i) s (pureOp P f o s)⟩
  | .field t x i => ⟨fun _ _ f s => orWl (wlField P f t x i) s (pureOp P f o s)⟩
  | .indexAddr t x ix => ⟨fun _ _ f s => orWl (wlIndexAddr P f t x ix) s (pureOp P f o s)⟩
  | .nilCheck x => ⟨fun _ _ f s => orWl (wlNil f x) s (pureOp P f o s)⟩
  | .pick c x y => ⟨fun _ _ f s => orWl (wlPick f c x y) s (pureOp P f o s)⟩
  | .binOp op t x y _ => ⟨fun _ _ f s => orWl (fwBin f op x y) s (orWl (wlBin P f op t x y) s (pureOp P f o s))⟩
  | .index t x ix => ⟨fun _ _ f s => orWl (fwIndex P f t x ix) s (pureOp P f o s)⟩
  | .convert src dst x => ⟨fun _ _ f s => orMem (memConv P f src dst x s) (orWl (fwConv P f src dst x) s (pureOp P f o s))⟩
  | .call { callee := .value x, args, .. } => ⟨fun call floor f s => callOp P x args.toList call floor f o s⟩
  | .call { callee := .builtin .len, args, argTypes } => ⟨fun _ _ f s => orWl (fwLen P f args argTypes) s (orWl (wlLen P f args argTypes) s (pureOp P f o s))⟩
  | .call { callee := .builtin .append, args, argTypes } => ⟨fun _ floor f s => orMem (memApp P floor f args argTypes s) (pureOp P f o s)⟩
  | _ => ⟨fun call floor f s => evalOp0 P call floor f o s⟩
noncomputable def evalOp (P : Program) (call : CallE) (floor : Nat) (f : Fr) (o : Oper) (s : AS) : Option (AV × AS) := OpF.rec (motive := fun _ => Option (AV × AS)) (fun fn => fn call floor f s) (compOp P o)
theorem orMem_eq (r d : Option (AV × AS)) : orMem r d = match r with
    | some x => some x
    | none => d := by cases r <;> rfl
theorem orWl_eq (r : Option AV) (s : AS) (d : Option (AV × AS)) : orWl r s d = match r with
    | some v => some (v, s)
    | none => d := by cases r <;> rfl
theorem evalOp_eq (P : Program) (call : CallE) (floor : Nat) (f : Fr) (o : Oper) (s : AS) : evalOp P call floor f o s = evalOp0 P call floor f o s := by
  obtain ⟨dst, op, type, pos, after, guard⟩ := o
  unfold evalOp compOp
  simp only
  split
  case h_17 => rfl
  all_goals
    simp only [orMem_eq, orWl_eq, pureOp, callOp, evalOp0, callOf, evalMem, evalWl, fastWl, evalWl0]
    try (repeat' split)
    all_goals first
      | rfl
      | simp_all
noncomputable def putA (f : Fr) : Option Tmp → AV → Fr
  | none, _ => f
  | some d, v => setF v f d
noncomputable def yieldedA (ops : Array Oper) (f : Fr) (j : Nat) : Option Bool :=
  match (ops[j]?).bind (·.dst) with
  | some d => match getF f d with
    | .lit (.bool b) => some b
    | _ => none
  | none => none
/-- One operation behind the other, in the order of the text. -/
noncomputable def evalSeq (P : Program) (call : CallE) (floor : Nat) (ops : Array Oper) (l : List Oper) : Fr → AS → Option (Fr × AS) :=
  List.rec (motive := fun _ => Fr → AS → Option (Fr × AS)) (fun f s => some (f, s)) (fun o _ ih f s => match Region.wanted o (yieldedA ops f) with
    | true => match evalOp P call floor f o s with
      | some (v, s') => ih (putA f o.dst v) s'
      | none => none
    | false => ih (putA f o.dst (.lit undef)) s) l
/-- May this operation be taken first? -/
noncomputable def early (o : Oper) : Bool := match o.op with
  | .move _ | .assign _ | .pick .. | .extract .. | .fieldAddr .. | .field .. | .indexAddr .. | .slice .. | .binOp .. | .unOp .. | .nilCheck _ | .build .. | .index .. | .makeInterface .. | .convert .. => true
  | .call { callee := .builtin b, .. } => match b with
    | .len | .cap | .complex | .real | .imag | .min | .max => true
    | _ => false
  | _ => false
inductive Stp where
  | early (i : Nat)
  | held (i : Nat)
  | solo (i : Nat)
  | flo (i : Nat)
  | pair (i j : Nat)
noncomputable def isLoad (o : Oper) : Bool := match o.op with
  | .load .. => true
  | _ => false
/-- The operations that this one waits for, as the bits of a number. -/
noncomputable def depM (o : Oper) : Nat := o.after.toList.foldr (fun e m => if Region.binds .any e then m ||| (2 ^ e.on) else m) 0
/-- The temporaries at which it looks. -/
noncomputable def lookM (ops : Array Oper) (o : Oper) : Nat := (o.looksAt ops).foldr (fun t m => m ||| (2 ^ t)) 0
structure Rec where
  i : Nat
  o : Oper
  deps : Nat
  looks : Nat
noncomputable def recs (ops : Array Oper) : List Oper → Nat → List Rec
  | [], _ => []
  | o :: r, i => ⟨i, o, depM o, lookM ops o⟩ :: recs ops r (i + 1)
noncomputable def hitM (d : Option Tmp) (m : Nat) : Bool := match d with
  | some d => m.testBit d
  | none => false
noncomputable def sameD (a b : Option Tmp) : Bool := match a, b with
  | some x, some y => Nat.beq x y
  | _, _ => false
noncomputable def apartR (x y : Rec) : Bool := !hitM x.o.dst y.looks && (!sameD x.o.dst y.o.dst && !hitM y.o.dst x.looks)
noncomputable def readyR (m : Nat) (r : Rec) : Bool := Nat.beq (r.deps &&& m) r.deps
noncomputable def freeR (l : List Rec) (r : Rec) : Bool := allL (fun q => Nat.beq q.i r.i || (q.deps.testBit r.i || apartR r q)) l
noncomputable def without (i : Nat) (l : List Rec) : List Rec := List.rec (motive := fun _ => List Rec) [] (fun r _ ih => Bool.rec (r :: ih) ih (Nat.beq r.i i)) l
noncomputable def firstR (t : Oper → Bool) (m : Nat) (all : List Rec) (l : List Rec) : Option Rec :=
  List.rec (motive := fun _ => Option Rec) none (fun r _ ih => Bool.rec ih (some r) (t r.o && (readyR m r && freeR all r))) l
noncomputable def readyL (m : Nat) (l : List Rec) : List Rec := List.rec (motive := fun _ => List Rec) [] (fun r _ ih => Bool.rec ih (r :: ih) (readyR m r)) l
noncomputable def pairR (m : Nat) (l : List Rec) (a b : Rec) : Bool :=
  isLoad a.o && isLoad b.o && a.o.guard.isNone && b.o.guard.isNone && apartR a b &&
    allL (fun q => Nat.beq q.i a.i || (Nat.beq q.i b.i || (!readyR (m ||| 2 ^ a.i) q && !readyR (m ||| 2 ^ b.i) q))) l
/-- A new cell that may be made at any time. -/
noncomputable def isAlloc (o : Oper) : Bool := match o.op, o.guard, o.dst with
  | .alloc _, none, some _ => true
  | _, _, _ => false
noncomputable def floR (all : List Rec) (r : Rec) : Bool := isAlloc r.o && (Nat.beq r.deps 0 && freeR all r)
/-- The floating ones, as bits. -/
noncomputable def floM (all l : List Rec) : Nat := List.rec (motive := fun _ => Nat) 0 (fun r _ ih => Bool.rec ih (ih ||| 2 ^ r.i) (floR all r)) l
/-- One round of: what these wait for. -/
noncomputable def stepM (c : Nat) (l : List Rec) : Nat := List.rec (motive := fun _ => Nat) c (fun r _ ih => Bool.rec ih (ih ||| r.deps) (c.testBit r.i)) l
noncomputable def closM (all : List Rec) (n m : Nat) : Nat := Nat.rec (motive := fun _ => Nat) m (fun _ c => stepM c all) n
/-- Does one wait for the other, through whatever others? -/
noncomputable def waitsR (all : List Rec) (q : Rec) (i : Nat) : Bool := q.deps.testBit i || (closM all 8 q.deps).testBit i
/-- The floating ones that have not come up, but for one. -/
noncomputable def pendM (fs i : Nat) (l : List Rec) : Nat := List.rec (motive := fun _ => Nat) 0 (fun q _ ih => Bool.rec ih (ih ||| 2 ^ q.i) (fs.testBit q.i && !Nat.beq q.i i)) l
/-- What waits for a floating one waits for this one, too. -/
noncomputable def wtB (fs : Nat) (all l : List Rec) (i : Nat) : Bool := Nat.beq fs 0 || allL (fun q => Nat.beq (q.deps &&& pendM fs i l) 0 || waitsR all q i) l
noncomputable def plain (fs : Nat) (l : List Rec) : List Rec := List.rec (motive := fun _ => List Rec) [] (fun r _ ih => Bool.rec (r :: ih) ih (fs.testBit r.i)) l
/-- fs: the floating ones, as bits; m: what has come up; l: what has not. -/
noncomputable def planGo (fs : Nat) (all : List Rec) : Nat → Nat → List Rec → Option (List Stp)
  | 0, m, l => match readyL m l with
    | [] => some []
    | _ => none
  | n + 1, m, l => match firstR early m l l with
    | some r => match wtB fs all l r.i, fs.testBit r.i, planGo fs all n (m ||| 2 ^ r.i) (without r.i l) with
      | true, false, some p => some (.early r.i :: p)
      | _, _, _ => none
    | none => match plain fs (readyL m l) with
      | [] => match readyL m l with
        | [] => some []
        | r :: _ => match wtB fs all l r.i, planGo fs all n (m ||| 2 ^ r.i) (without r.i l) with
          | true, some p => some (.flo r.i :: p)
          | _, _ => none
      | [r] => match wtB fs all l r.i, planGo fs all n (m ||| 2 ^ r.i) (without r.i l) with
          | true, some p => some (.solo r.i :: p)
          | _, _ => none
      | a :: b :: more => match firstR isLoad m l l with
        | none => none
        | some r => match more, n, Nat.beq fs 0 && pairR m l a b with
          | [], n + 1, true => match planGo fs all n ((m ||| 2 ^ a.i) ||| 2 ^ b.i) (without b.i (without a.i l)) with
            | some p => some (.pair a.i b.i :: p)
            | none => none
          | _, n, _ => match wtB fs all l r.i, fs.testBit r.i, planGo fs all n (m ||| 2 ^ r.i) (without r.i l) with
            | true, false, some p => some (.held r.i :: p)
            | _, _, _ => none
/-- An order that stands for every order. -/
noncomputable def planW (ops : Array Oper) (all : List Rec) : Option (Nat × List Stp) := match planGo 0 all ops.size 0 all with
  | some p => some (0, p)
  | none => match planGo (floM all all) all ops.size 0 all with
    | some p => some (floM all all, p)
    | none => none
noncomputable def plan (ops : Array Oper) : Option (Nat × List Stp) := match Region.noSelect ops with
  | true => planW ops (recs ops ops.toList 0)
  | false => none
noncomputable def isHeld : Stp → Bool
  | .held _ => true
  | _ => false
noncomputable def hasK (l : List (Nat × Nat)) (k : Nat) : Bool := List.rec (motive := fun _ => Bool) false (fun a _ ih => Bool.rec ih true (Nat.beq a.2 k)) l
/-- Each read, taken ahead, of a block that is written here is waited for. -/
noncomputable def waitsAll (ops : Array Oper) (i : Nat) (ws : List Nat) (kl : List (Nat × Nat)) : Bool :=
  allL (fun p => !hasN ws p.2 || match ops[i]? with
    | some o => waitsR (recs ops ops.toList 0) ⟨i, o, depM o, 0⟩ p.1
    | none => false) kl
noncomputable def evalHeld (P : Program) (f : Fr) (o : Oper) (s : AS) : Option (AV × Nat) := match o.op with
  | .load t a => match opnd f a with
    | .ptr k off => match look k s.h with
      | some b => match partOf P t b off with
        | some v => some (v, k)
        | none => none
      | none => none
    | _ => none
  | _ => none
/-- kl: what is read ahead of its turn, with its block; tl: what was written. -/
noncomputable def planOne (P : Program) (call : CallE) (s0 : AS) (floor : Nat) (ops : Array Oper) (t : Stp) (f : Fr) (s : AS) (kl tl : List (Nat × Nat)) : Option (Fr × AS × List (Nat × Nat) × List (Nat × Nat)) :=
  match t with
  | .early i => match ops[i]? with
    | some o => match Region.wanted o (yieldedA ops f) with
      | true => match evalWl P f o with
        | some v => some (putA f o.dst v, s, kl, tl)
        | none => none
      | false => some (putA f o.dst (.lit undef), s, kl, tl)
    | none => none
  | .held i => match ops[i]? with
    | some o => match Region.wanted o (yieldedA ops f) with
      | true => match evalHeld P f o s with
        | some (v, k) => match look k s0.h, hasK tl k with
          | some _, false => some (putA f o.dst v, s, (i, k) :: kl, tl)
          | _, _ => none
        | none => none
      | false => some (putA f o.dst (.lit undef), s, kl, tl)
    | none => none
  | .solo i => match ops[i]? with
    | some o => match Region.wanted o (yieldedA ops f) with
      | true => match evalOp P call floor f o ⟨s.n, s.h, [], s.gl⟩ with
        | some (v, s') => match waitsAll ops i s'.wr kl with
          | true => some (putA f o.dst v, ⟨s'.n, s'.h, unionW s'.wr s.wr, s'.gl⟩, kl, appL (mapL (fun k => (i, k)) s'.wr) tl)
          | false => none
        | none => none
      | false => some (putA f o.dst (.lit undef), s, kl, tl)
    | none => none
  | .flo i => match ops[i]? with
    | some o => match o.op with
      | .alloc t => match P.info? t with
        | some inf => match inf.zero with
          | some z => some (putA f o.dst (.ptr s.n 0), newB s (mapL .lit z.cells.toList), kl, tl)
          | none => none
        | none => none
      | _ => none
    | none => none
  | .pair i j => match ops[i]?, ops[j]? with
    | some a, some b => match evalHeld P f a s, evalHeld P f b s with
      | some (u, _), some (v, _) => some (putA (putA f a.dst u) b.dst v, s, kl, tl)
      | _, _ => none
    | _, _ => none
noncomputable def evalPlan (P : Program) (call : CallE) (s0 : AS) (floor : Nat) (ops : Array Oper) (l : List Stp) : Fr → AS → List (Nat × Nat) → List (Nat × Nat) → Option (Fr × AS × List (Nat × Nat)) :=
  List.rec (motive := fun _ => Fr → AS → List (Nat × Nat) → List (Nat × Nat) → Option (Fr × AS × List (Nat × Nat))) (fun f s _ tl => some (f, s, tl)) (fun t _ ih f s kl tl =>
    match planOne P call s0 floor ops t f s kl tl with
    | some (f', s', kl', tl') => ih f' s' kl' tl'
    | none => none) l
/-- The floating ones have a nought. -/
noncomputable def zeroB (P : Program) (o : Oper) : Bool := match o.op with
  | .alloc t => match P.info? t with
    | some inf => inf.zero.isSome
    | none => false
  | _ => true
noncomputable def evalRegion (P : Program) (call : CallE) (floor : Nat) (ops : Array Oper) (draw : Bool) (f : Fr) (s : AS) : Option (Fr × AS) :=
  match draw with
  | false => evalSeq P call floor ops ops.toList f s
  | true => match plan ops with
    | some (fs, pl) => match Nat.beq fs 0 || allL (zeroB P) ops.toList with
      | true => match evalPlan P call s floor ops pl f s [] [] with
        | some (f', s', _) => some (f', s')
        | none => none
      | false => none
    | none => none
inductive AX where
  | normal
  | exit (id : Nat)
  | goto (l : Nat)
  | ret
abbrev CodeE := Nat → Code → Fr → AS → Option (AX × Fr × AS)
structure Ev where
  code : CodeE
  loop : CodeE
  scope : Nat → Code → Code → Fr → AS → Option (AX × Fr × AS)
  call : CallE
noncomputable def codeRegion (P : Program) (E : Ev) (floor : Nat) (ops : Array Oper) (draw : Bool) (f : Fr) (s : AS) : Option (AX × Fr × AS) := match evalRegion P E.call floor ops draw f s with
  | some (f', s') => forceF f' fun f'' => some (.normal, f'', s')
  | none => none
noncomputable def codeSeq (E : Ev) (floor : Nat) (a b : Code) (f : Fr) (s : AS) : Option (AX × Fr × AS) := match E.code floor a f s with
  | some (.normal, f', s') => E.code floor b f' s'
  | r => r
noncomputable def codeCond (E : Ev) (floor : Nat) (o : Operand) (a b : Code) (f : Fr) (s : AS) : Option (AX × Fr × AS) := match opnd f o with
  | .lit (.bool true) => E.code floor a f s
  | .lit (.bool false) => E.code floor b f s
  | _ => none
noncomputable def codeBlock (E : Ev) (floor id : Nat) (c : Code) (f : Fr) (s : AS) : Option (AX × Fr × AS) := match E.code floor c f s with
  | some (.exit j, f', s') => match Nat.beq j id with
    | true => some (.normal, f', s')
    | false => some (.exit j, f', s')
  | r => r
noncomputable def codeStep (P : Program) (E : Ev) (floor : Nat) (c : Code) (f : Fr) (s : AS) : Option (AX × Fr × AS) :=
  match c with
  | .skip => some (.normal, f, s)
  | .label _ => some (.normal, f, s)
  | .region _ ops draw => codeRegion P E floor ops draw f s
  | .seq a b => codeSeq E floor a b f s
  | .cond o a b => codeCond E floor o a b f s
  | .block id c => codeBlock E floor id c f s
  | .loop c => E.loop floor c f s
  | .scope c => E.scope floor c c f s
  | .exit id => some (.exit id, f, s)
  | .goto l => some (.goto l, f, s)
  | .ret => some (.ret, f, s)
  | _ => none
noncomputable def loopStep (E : Ev) (floor : Nat) (c : Code) (f : Fr) (s : AS) : Option (AX × Fr × AS) :=
  match E.code floor c f s with
  | some (.normal, f', s') => E.loop floor c f' s'
  | r => r
noncomputable def scopeStep (E : Ev) (floor : Nat) (c cur : Code) (f : Fr) (s : AS) : Option (AX × Fr × AS) :=
  match E.code floor cur f s with
  | some (.goto l, f', s') => match findLabel c l with
    | some rest => E.scope floor c rest f' s'
    | none => some (.goto l, f', s')
  | r => r
noncomputable def resA (P : Program) (f : Fr) (s : AS) : List ResultVar → Option (List AV)
  | [] => some []
  | .tmp t :: r => match resA P f s r with
    | some l => some (getF f t :: l)
    | none => none
  | .cell a t :: r => match getF f a with
    | .ptr k off => match look k s.h with
      | some b => match partOf P t b off, resA P f s r with
        | some v, some l => some (v :: l)
        | _, _ => none
      | none => none
    | _ => none
noncomputable def frame (m : Nat) (args : List AV) : Fr := forceN (lenL args + (m - lenL args)) fun n => ⟨n, trInit args 0 (trFull (Nat.log2 n + 1))⟩
noncomputable def callStep (P : Program) (E : Ev) (floor : Nat) (g : FuncId) (args : List AV) (s : AS) : Option (AV × AS) :=
  match P.funcs[g]? with
  | some fn => match fn.body with
    | some c => match E.code floor c (frame fn.ntmps args) ⟨s.n, s.h, [], s.gl⟩ with
      | some (.normal, f', s') | some (.ret, f', s') => match resA P f' s' fn.results.toList with
        | some [v] => match isLit v && allL isLit args with
          | true => some (v, ⟨s'.n, dropNew s.n s'.h, unionW (oldW s.n s'.wr) s.wr, s'.gl⟩)
          | false => some (v, ⟨s'.n, s'.h, unionW (oldW s.n s'.wr) s.wr, s'.gl⟩)
        | some vs => match isLit (mkTup vs) && allL isLit args with
          | true => some (mkTup vs, ⟨s'.n, dropNew s.n s'.h, unionW (oldW s.n s'.wr) s.wr, s'.gl⟩)
          | false => some (mkTup vs, ⟨s'.n, s'.h, unionW (oldW s.n s'.wr) s.wr, s'.gl⟩)
        | none => none
      | _ => none
    | none => none
  | none => none
noncomputable def evStep (P : Program) (E : Ev) : Ev := ⟨codeStep P E, loopStep E, scopeStep E, callStep P E⟩
noncomputable def ev (P : Program) (n : Nat) : Ev := Nat.rec ⟨fun _ _ _ _ => none, fun _ _ _ _ => none, fun _ _ _ _ _ => none, fun _ _ _ _ => none⟩ (fun _ E => evStep P E) n
/-- What the call comes to is just this bool. -/
noncomputable def saysG (P : Program) (gl : List (Nat × List AV)) (n : Nat) (g : FuncId) (l : List Value) (b : Bool) : Bool := match (ev P n).call 0 g (mapL .lit l) ⟨0, [], [], gl⟩ with
  | some (.lit (.bool c), _) => c == b
  | _ => false
noncomputable def saysB (P : Program) (n : Nat) (g : FuncId) (b : Bool) : Bool := saysG P [] n g [] b
end Go.Proofs.YtjkonfopajihdaaDoor
