/- Texts put together: Ev1 Ev2 Ev3 Ev4 Ev5. -/
import Derived.Deep.Quiet
import Derived.Deep.MidRow
import Derived.Below
import Derived.Scope
import Derived.Laws.NewBlocks
set_option linter.unusedVariables false
namespace Go.Proofs.YtackmbfbilbopaaGreatDoor
open Go Go.RowKit
/-! Plain functions on lists, straight by the recursor: the kernel runs them much faster. -/
section lists
variable {α β : Type}
noncomputable def getO (l : List α) : Nat → Option α := List.rec (motive := fun _ => Nat → Option α) (fun _ => none) (fun a _ ih n => Nat.rec (motive := fun _ => Option α) (some a) (fun m _ => ih m) n) l
theorem getO_eq : ∀ (l : List α) (n : Nat), getO l n = l[n]?
  | [], _ => rfl
  | _ :: _, 0 => rfl
  | _ :: l, n + 1 => (getO_eq l n).trans (by simp)
noncomputable def takeL (l : List α) : Nat → List α := List.rec (motive := fun _ => Nat → List α) (fun _ => []) (fun a _ ih n => Nat.rec (motive := fun _ => List α) [] (fun m _ => a :: ih m) n) l
theorem takeL_eq : ∀ (l : List α) (n : Nat), takeL l n = l.take n
  | [], n => by simp; rfl
  | _ :: _, 0 => rfl
  | a :: l, n + 1 => congrArg (a :: ·) (takeL_eq l n)
noncomputable def dropL (l : List α) : Nat → List α := List.rec (motive := fun _ => Nat → List α) (fun _ => []) (fun a r ih n => Nat.rec (motive := fun _ => List α) (a :: r) (fun m _ => ih m) n) l
theorem dropL_eq : ∀ (l : List α) (n : Nat), dropL l n = l.drop n
  | [], n => by simp; rfl
  | _ :: _, 0 => rfl
  | a :: l, n + 1 => dropL_eq l n
noncomputable def appL (l m : List α) : List α := List.rec (motive := fun _ => List α) m (fun a _ ih => a :: ih) l
theorem appL_eq : ∀ (l m : List α), appL l m = l ++ m
  | [], _ => rfl
  | a :: l, m => congrArg (a :: ·) (appL_eq l m)
noncomputable def lenL (l : List α) : Nat := List.rec (motive := fun _ => Nat) 0 (fun _ _ ih => Nat.succ ih) l
theorem lenL_eq : ∀ (l : List α), lenL l = l.length
  | [] => rfl
  | _ :: l => congrArg Nat.succ (lenL_eq l)
noncomputable def mapL (f : α → β) (l : List α) : List β := List.rec (motive := fun _ => List β) [] (fun a _ ih => f a :: ih) l
theorem mapL_eq (f : α → β) : ∀ (l : List α), mapL f l = l.map f
  | [] => rfl
  | a :: l => congrArg (f a :: ·) (mapL_eq f l)
noncomputable def allL (p : α → Bool) (l : List α) : Bool := List.rec (motive := fun _ => Bool) true (fun a _ ih => Bool.rec false ih (p a)) l
theorem allL_eq (p : α → Bool) : ∀ (l : List α), allL p l = l.all p
  | [] => rfl
  | a :: l => by
    rw [List.all_cons, ← allL_eq p l]
    show (Bool.rec (motive := fun _ => Bool) false (allL p l) (p a) : Bool) = _
    cases p a <;> rfl
noncomputable def forceN (n : Nat) (k : Nat → β) : β := Nat.rec (motive := fun _ => β) (k 0) (fun m _ => k (Nat.succ m)) n
theorem forceN_eq (n : Nat) (k : Nat → β) : forceN n k = k n := by cases n <;> rfl
noncomputable def forceI (n : Int) (k : Int → β) : β := Int.rec (motive := fun _ => β) (fun m => forceN m fun m => k (.ofNat m)) (fun m => forceN m fun m => k (.negSucc m)) n
theorem forceI_eq (n : Int) (k : Int → β) : forceI n k = k n := by
  cases n with
  | ofNat m => exact forceN_eq m fun m => k (.ofNat m)
  | negSucc m => exact forceN_eq m fun m => k (.negSucc m)
end lists
inductive AV where
  | lit (v : Value)
  | ptr (k off : Nat)
  | sl (k off len : Nat) (cap : Option Nat) (sz : Nat)
  | emp
  | agg (vs : List AV)
  | tup (vs : List AV)
  | ifc (t : TypeId) (v : AV)
  | fn (f : Fn) (first captured : List AV)
  | sym (i : Nat)
  | row (n off : Nat) (cells : List AV)
  deriving Inhabited
inductive Tr where
  | lf
  | nd (v : AV) (l r : Tr)
structure Fr where
  n : Nat
  t : Tr
noncomputable def trGet (t : Tr) : Nat → AV := Tr.rec (motive := fun _ => Nat → AV) (fun _ => .lit undef) (fun v _ _ ihl ihr i => Bool.rec (Bool.rec (ihr (i / 2 - 1)) (ihl (i / 2)) (Nat.beq (i % 2) 1)) v (Nat.beq i 0)) t
noncomputable def trSet (v : AV) (t : Tr) : Nat → Tr := Tr.rec (motive := fun _ => Nat → Tr) (fun _ => .lf) (fun u l r ihl ihr i => Bool.rec (Bool.rec (.nd u l (ihr (i / 2 - 1))) (.nd u (ihl (i / 2)) r) (Nat.beq (i % 2) 1)) (.nd v l r) (Nat.beq i 0)) t
noncomputable def trFull (d : Nat) : Tr := Nat.rec (motive := fun _ => Tr) .lf (fun _ t => .nd (.lit undef) t t) d
noncomputable def trInit (l : List AV) : Nat → Tr → Tr := List.rec (motive := fun _ => Nat → Tr → Tr) (fun _ t => t) (fun v _ ih i t => ih (i + 1) (trSet v t i)) l
noncomputable def getF (f : Fr) (i : Nat) : AV := Fr.rec (motive := fun _ => AV) (fun n t => Bool.rec (.lit undef) (trGet t i) (Nat.blt i n)) f
noncomputable def setF (v : AV) (f : Fr) (i : Nat) : Fr := Fr.rec (motive := fun _ => Fr) (fun n t => Bool.rec ⟨n, t⟩ ⟨n, trSet v t i⟩ (Nat.blt i n)) f
noncomputable def forceF {β : Type} (f : Fr) (k : Fr → β) : β := Fr.rec (motive := fun _ => β) (fun n t => Tr.rec (motive := fun _ => β) (k ⟨n, .lf⟩) (fun v l r _ _ => k ⟨n, .nd v l r⟩) t) f
theorem forceF_eq {β : Type} (f : Fr) (k : Fr → β) : forceF f k = k f := by
  cases f with
  | mk n t => cases t <;> rfl
structure AS where
  n : Nat
  h : List (Nat × List AV)
  wr : List Nat
  gl : List (Nat × List AV)
noncomputable def hasN (l : List Nat) (k : Nat) : Bool := List.rec (motive := fun _ => Bool) false (fun a _ ih => Bool.rec ih true (Nat.beq a k)) l
noncomputable def addW (k : Nat) (l : List Nat) : List Nat := match hasN l k with
  | true => l
  | false => k :: l
noncomputable def unionW (l m : List Nat) : List Nat := List.rec (motive := fun _ => List Nat) m (fun a _ ih => addW a ih) l
noncomputable def oldW (n : Nat) (l : List Nat) : List Nat := List.rec (motive := fun _ => List Nat) [] (fun a _ ih => Bool.rec (a :: ih) ih (Nat.ble n a)) l
noncomputable def look (k : Nat) (h : List (Nat × List AV)) : Option (List AV) :=
  List.rec (motive := fun _ => Option (List AV)) none (fun p _ ih => Bool.rec ih (some p.2) (Nat.beq p.1 k)) h
theorem look_cons (k : Nat) (p : Nat × List AV) (h : List (Nat × List AV)) : look k (p :: h) = if p.1 = k then some p.2 else look k h := by
  show (Bool.rec (look k h) (some p.2) (Nat.beq p.1 k) : Option (List AV)) = _
  cases hb : Nat.beq p.1 k with
  | true => rw [if_pos (Nat.eq_of_beq_eq_true hb)]
  | false => rw [if_neg (Nat.ne_of_beq_eq_false hb)]
noncomputable def upd (k : Nat) (b : List AV) (h : List (Nat × List AV)) : List (Nat × List AV) :=
  List.rec (motive := fun _ => List (Nat × List AV)) [] (fun p r ih => Bool.rec (p :: ih) ((p.1, b) :: r) (Nat.beq p.1 k)) h
noncomputable def kill (k : Nat) (h : List (Nat × List AV)) : List (Nat × List AV) :=
  List.rec (motive := fun _ => List (Nat × List AV)) [] (fun p _ ih => Bool.rec (p :: ih) ih (Nat.beq p.1 k)) h
noncomputable def dropNew (n : Nat) (h : List (Nat × List AV)) : List (Nat × List AV) :=
  List.rec (motive := fun _ => List (Nat × List AV)) [] (fun p _ ih => Bool.rec (p :: ih) ih (Nat.ble n p.1)) h
noncomputable def litOf2 (v : AV) (l : Option (List Value)) : Option (List Value) := match v, l with
  | .lit v, some l => some (v :: l)
  | _, _ => none
noncomputable def lits (l : List AV) : Option (List Value) := List.rec (motive := fun _ => Option (List Value)) (some []) (fun v _ ih => litOf2 v ih) l
noncomputable def mkAgg (vs : List AV) : AV := match lits vs with
  | some l => .lit (.agg l.toArray)
  | none => .agg vs
noncomputable def mkTup (vs : List AV) : AV := match lits vs with
  | some l => .lit (.tuple l.toArray)
  | none => .tup vs
noncomputable def AV.cells : AV → List AV
  | .agg vs => vs
  | .lit (.agg cs) => mapL .lit cs.toList
  | v => [v]
noncomputable def AV.one : AV → Bool
  | .agg _ | .tup _ => false
  | .lit (.agg _) | .lit (.tuple _) => false
  | _ => true
noncomputable def opnd (f : Fr) : Operand → AV
  | .tmp t => getF f t
  | .const v => .lit v
  | .global g => .lit (.pointer (some ⟨g, 0, none⟩))
  | .func k => .lit (.func (.func k) #[] #[])
noncomputable def val : AV → Value
  | .lit v => v
  | _ => undef
noncomputable def isLit : AV → Bool
  | .lit _ => true
  | _ => false
noncomputable def runPure (P : Program) {α : Type} : Sem α → Option α
  | .pure a => some a
  | .program k => runPure P (k P)
  | .mark _ k => runPure P k
  | _ => none
noncomputable def noSel : Op → Bool
  | .select .. => false
  | _ => true
noncomputable def evalPure (P : Program) (f : Fr) (o : Oper) : Option Next :=
  match noSel o.op && allL (fun x => isLit (opnd f x)) o.op.operands.toList with
  | true => runPure P (execOp (fun x => val (opnd f x)) o)
  | false => none
noncomputable def isRowT (P : Program) (t : TypeId) : Option Bool := match P.underlying t with
  | some (.struct _) | some (.array _ _) => some true
  | some _ => some false
  | none => none
noncomputable def sizeT (P : Program) (t : TypeId) : Option Nat := (P.info? t).map (·.size)
noncomputable def partOf (P : Program) (t : TypeId) (cs : List AV) (off : Nat) : Option AV :=
  match isRowT P t, sizeT P t with
  | some true, some n => match Nat.ble (off + n) (lenL cs) with
    | true => some (mkAgg (takeL (dropL cs off) n))
    | false => none
  | some false, some _ => getO cs off
  | _, _ => none
noncomputable def bound (d : Nat) : Option AV → Option Nat
  | none => some d
  | some (.lit (.int _ (.ofNat n))) => some n
  | some _ => none
noncomputable def bounds3 (len cap : Nat) (lo hi mx : Option AV) : Option (Nat × Nat × Nat) :=
  match hi, mx with
  | none, some _ => none
  | _, _ => match bound 0 lo, bound len hi, bound cap mx with
    | some l, some h, some m => match Nat.ble l h && (Nat.ble h m && Nat.ble m cap) with
      | true => some (l, h, m)
      | false => none
    | _, _, _ => none
noncomputable def cutSl (k off n l h m : Nat) : AV := match Nat.beq m l with
  | true => .sl k off (h - l) (some (m - l)) 0
  | false => .sl k (off + l * n) (h - l) (some (m - l)) 0
noncomputable def zeros (z : Array Value) (n : Nat) : List AV := mapL (fun i => .lit (z[i % z.size]!)) (List.range n)
noncomputable def newB (s : AS) (b : List AV) : AS := ⟨s.n + 1, (s.n, b) :: s.h, s.wr, s.gl⟩
noncomputable def fillA (place : Nat → Option (Nat × Nat)) (cells : List AV) : List (Nat × AV) → Option (List AV)
  | [] => some cells
  | (i, v) :: rest =>
    match place i with
    | none => none
    | some (off, size) => match Nat.beq (lenL v.cells) size && Nat.ble (off + lenL v.cells) (lenL cells) with
      | true => fillA place (appL (takeL cells off) (appL v.cells (dropL cells (off + lenL v.cells)))) rest
      | false => none
noncomputable def firstA (s : AS) (size n : Nat) : AV → Option (List AV)
  | .lit (.slice none _ _) => some []
  | .lit (.string b) => match Nat.ble n b.size with
    | true => some (mapL (fun x => .lit (.int .u8 x.toNat)) (takeL b.data.toList n))
    | false => none
  | .sl k off _ _ _ => match look k s.h with
    | some b => match Nat.ble (off + n * size) (lenL b) with
      | true => some (takeL (dropL b off) (n * size))
      | false => none
    | none => none
  | _ => none
noncomputable def lenOfSlice : AV → Option Nat
  | .lit (.slice none n _) => some n
  | .lit (.string b) => some b.size
  | .sl _ _ len _ _ => some len
  | .emp => some 0
  | _ => none
noncomputable def bytesOf : List AV → Option (List UInt8)
  | [] => some []
  | .lit (.int .u8 (.ofNat n)) :: r => match bytesOf r with
    | some l => some (UInt8.ofNat n :: l)
    | none => none
  | _ :: _ => none
abbrev CallE := Nat → FuncId → List AV → AS → Option (AV × AS)
noncomputable def appendTo (floor size : Nat) (x : AV) (new : List AV) (n : Nat) (s : AS) : Option (AV × AS) :=
  match x with
  | .lit (.slice none 0 0) => match Nat.beq n 0, Nat.ble n 1000000 with
    | true, _ => some (x, s)
    | false, true => some (.sl s.n 0 n none size, newB s new)
    | _, _ => none
  | .sl k off len none sz => match look k s.h, Nat.beq off 0 && (Nat.ble floor k && (Nat.beq sz size && Nat.ble (len + n) 1000000)) with
    | some b, true => match Nat.beq n 0, Nat.ble (len * size) (lenL b) with
      | true, _ => some (x, s)
      | false, true => some (.sl s.n 0 (len + n) none size, newB ⟨s.n, kill k s.h, addW k s.wr, s.gl⟩ (appL (takeL b (len * size)) new))
      | _, _ => none
    | _, _ => none
  | .sl k off len (some c) _ => match Nat.ble (len + n) c with
    | true => match look k s.h, Nat.ble floor k with
      | some b, true => match Nat.ble (off + (len + n) * size) (lenL b) with
        | true => some (.sl k off (len + n) (some c) 0, ⟨s.n, upd k (appL (takeL b (off + len * size)) (appL new (dropL b (off + (len + n) * size)))) s.h, addW k s.wr, s.gl⟩)
        | false => none
      | _, _ => none
    | false => match firstA s size len x, Nat.ble (len + n) 1000000 with
      | some old, true => some (.sl s.n 0 (len + n) none size, newB s (appL old new))
      | _, _ => none
  | _ => none
noncomputable def evalAppend (P : Program) (floor : Nat) (t u : TypeId) (x y : AV) (s : AS) : Option (AV × AS) :=
  match P.underlying t, P.underlying u with
  | some (.slice e), some (.slice _) | some (.slice e), some .string => match P.info? e with
    | some i => match i.zero, firstA s i.size ((lenOfSlice y).getD 0) y, lenOfSlice y with
      | some z, some new, some n => match Nat.beq z.cells.size i.size && (Nat.ble i.bytes 10000000 && (Nat.beq (lenL new) (n * i.size) && allL (·.one) new)) with
        | true => appendTo floor i.size x new n s
        | false => none
      | _, _, _ => none
    | none => none
  | _, _ => none
noncomputable def placeF (P : Program) (fs : Array Field) (j : Nat) : Option (Nat × Nat) := match fs[j]? with
  | some fd => (sizeT P fd.type).map (fd.offset, ·)
  | none => none
noncomputable def wlPick (f : Fr) (c a b : Operand) : Option AV := match opnd f c with
    | .lit (.bool true) => some (opnd f a)
    | .lit (.bool false) => some (opnd f b)
    | _ => none
noncomputable def wlExtract (f : Fr) (t : Operand) (i : Nat) : Option AV := match opnd f t with
    | .tup vs => (vs[i]?)
    | .lit (.tuple vs) => (vs[i]?).map .lit
    | _ => none
noncomputable def wlNil (f : Fr) (x : Operand) : Option AV := match opnd f x with
    | .ptr k off => some (.ptr k off)
    | _ => none
noncomputable def wlFieldAddr (P : Program) (f : Fr) (t : TypeId) (x : Operand) (i : Nat) : Option AV := match opnd f x with
    | .ptr k off => match P.underlying t with
      | some (.struct fs) => match fs[i]? with
        | some fd => match sizeT P fd.type with
          | some (_ + 1) => some (.ptr k (off + fd.offset))
          | _ => none
        | none => none
      | _ => none
    | _ => none
noncomputable def wlField (P : Program) (f : Fr) (t : TypeId) (x : Operand) (i : Nat) : Option AV := match opnd f x with
    | .agg vs => match P.underlying t with
      | some (.struct fs) => match fs[i]? with
        | some fd => (partOf P fd.type vs fd.offset)
        | none => none
      | _ => none
    | _ => none
noncomputable def wlIndexAddr (P : Program) (f : Fr) (t : TypeId) (x ix : Operand) : Option AV := match opnd f ix, opnd f x with
    | .lit (.int _ (.ofNat i)), .sl k off len _ _ => match P.underlying t with
      | some (.slice e) => match Nat.blt i len, sizeT P e with
        | true, some n => some (.ptr k (off + i * n))
        | _, _ => none
      | _ => none
    | .lit (.int _ (.ofNat i)), .ptr k off => match P.underlying t with
      | some (.array len e) => match Nat.blt i len, sizeT P e with
        | true, some n => some (.ptr k (off + i * n))
        | _, _ => none
      | _ => none
    | _, _ => none
noncomputable def wlSlice (P : Program) (f : Fr) (t : TypeId) (x : Operand) (lo hi mx : Option Operand) : Option AV := match opnd f x with
    | .sl k off len cap sz => match P.underlying t with
      | some (.slice e) => match sizeT P e, cap with
        | some n, some c => match bounds3 len c (lo.map (opnd f)) (hi.map (opnd f)) (mx.map (opnd f)) with
          | some (l, h, m) => some (cutSl k off n l h m)
          | none => none
        | some n, none => match mx with
          | some _ => none
          | none => match bounds3 len len (lo.map (opnd f)) (hi.map (opnd f)) none with
            | some (l, h, _) => match Nat.beq l 0 with
              | true => some (.sl k off h none sz)
              | false => match Nat.blt l len && Nat.beq sz n with
                | true => some (.sl k (off + l * n) (h - l) none sz)
                | false => none
            | none => none
        | _, _ => none
      | _ => none
    | .ptr k off => match P.underlying t with
      | some (.array c e) => match sizeT P e, bounds3 c c (lo.map (opnd f)) (hi.map (opnd f)) (mx.map (opnd f)) with
        | some n, some (l, h, m) => some (cutSl k off n l h m)
        | _, _ => none
      | _ => none
    | _ => none
noncomputable def wlMakeFunc (f : Fr) (fn : Fn) (a b : Array Operand) : Option AV := match allL (fun x => isLit (opnd f x)) a.toList && allL (fun x => isLit (opnd f x)) b.toList with
    | true => none
    | false => some (.fn fn (mapL (opnd f) a.toList) (mapL (opnd f) b.toList))
noncomputable def wlIface (P : Program) (f : Fr) (t : TypeId) (x : Operand) : Option AV := match opnd f x with
    | .lit _ => none
    | v => match P.underlying t with
      | some (.interface _) => none
      | some _ => some (.ifc t v)
      | none => none
noncomputable def wlBin (P : Program) (f : Fr) (op : BinOp) (t : TypeId) (x y : Operand) : Option AV := match opnd f x, opnd f y with
    | .ptr _ _, .lit (.pointer none) | .lit (.pointer none), .ptr _ _ => match P.underlying t, op with
      | some (.pointer _), .eql => some (.lit (.bool false))
      | some (.pointer _), .neq => some (.lit (.bool true))
      | _, _ => none
    | .sl _ _ _ _ _, .lit (.slice none _ _) | .lit (.slice none _ _), .sl _ _ _ _ _ => match P.underlying t, op with
      | some (.slice _), .eql => some (.lit (.bool false))
      | some (.slice _), .neq => some (.lit (.bool true))
      | _, _ => none
    | .fn _ _ _, .lit .nilFunc | .lit .nilFunc, .fn _ _ _ => match P.underlying t, op with
      | some (.func _ _ _), .eql => some (.lit (.bool false))
      | some (.func _ _ _), .neq => some (.lit (.bool true))
      | _, _ => none
    | _, _ => none
noncomputable def wlBuild (P : Program) (f : Fr) (t : TypeId) (ps : Array (Nat × Operand)) : Option AV := match allL (fun p => isLit (opnd f p.2)) ps.toList with
    | true => none
    | false => match P.info? t with
      | some i => match i.zero, P.underlying t with
        | some z, some (.struct fs) => match allL (fun fd => (sizeT P fd.type).isSome) fs.toList with
          | true => (fillA (placeF P fs) (mapL .lit z.cells.toList) (mapL (fun p => (p.1, opnd f p.2)) ps.toList)).map mkAgg
          | false => none
        | some z, some (.array _ e) => match sizeT P e with
          | some n => (fillA (fun j => some (j * n, n)) (mapL .lit z.cells.toList) (mapL (fun p => (p.1, opnd f p.2)) ps.toList)).map (mkAgg ·)
          | none => none
        | _, _ => none
      | none => none
noncomputable def wlLen (P : Program) (f : Fr) (args : Array Operand) (argTypes : Array TypeId) : Option AV := match args.toList, argTypes.toList with
    | [x], [t] => match opnd f x, P.underlying t with
      | .sl _ _ len _ _, some (.slice _) => some (.lit (goInt len))
      | .emp, some (.slice _) => some (.lit (goInt 0))
      | _, _ => none
    | _, _ => none
noncomputable def evalWl0 (P : Program) (f : Fr) (o : Oper) : Option AV :=
  match o.op with
  | .move x | .assign x => some (opnd f x)
  | .pick c a b => wlPick f c a b
  | .extract t i => wlExtract f t i
  | .nilCheck x => wlNil f x
  | .fieldAddr t x i => wlFieldAddr P f t x i
  | .field t x i => wlField P f t x i
  | .indexAddr t x ix => wlIndexAddr P f t x ix
  | .slice t x lo hi mx => wlSlice P f t x lo hi mx
  | .makeFunc fn a b => wlMakeFunc f fn a b
  | .makeInterface t x => wlIface P f t x
  | .binOp op t x y _ => wlBin P f op t x y
  | .build t ps => wlBuild P f t ps
  | .call { callee := .builtin .len, args, argTypes } => wlLen P f args argTypes
  | _ => none
noncomputable def fastInt (op : BinOp) (k k' : IntKind) (a b : Int) : Option Value :=
  match op with
  | .shl => match Int.decLt b 0 with
    | .isTrue _ => none
    | .isFalse _ => forceI (k.wrap (a * 2 ^ (min b.toNat k.bits))) fun z => some (.int k z)
  | .shr => match Int.decLt b 0 with
    | .isTrue _ => none
    | .isFalse _ => forceI (a.fdiv (2 ^ (min b.toNat k.bits))) fun z => some (.int k z)
  | _ => match decEq k k' with
    | .isFalse _ => none
    | .isTrue _ => match op with
      | .add => forceI (k.wrap (a + b)) fun z => some (.int k z)
      | .sub => forceI (k.wrap (a - b)) fun z => some (.int k z)
      | .mul => forceI (k.wrap (a * b)) fun z => some (.int k z)
      | .quo => match b with
        | .ofNat 0 => none
        | _ => forceI (k.wrap (a.tdiv b)) fun z => some (.int k z)
      | .rem => match b with
        | .ofNat 0 => none
        | _ => forceI (a.tmod b) fun z => some (.int k z)
      | .and => forceN ((BitVec.ofInt k.bits a).toNat &&& (BitVec.ofInt k.bits b).toNat) fun n => forceI (k.wrap n) fun z => some (.int k z)
      | .or => forceN ((BitVec.ofInt k.bits a).toNat ||| (BitVec.ofInt k.bits b).toNat) fun n => forceI (k.wrap n) fun z => some (.int k z)
      | .eql => some (.bool (a == b))
      | .neq => some (.bool (a != b))
      | .lss => some (.bool (a < b))
      | .leq => some (.bool (a ≤ b))
      | .gtr => some (.bool (a > b))
      | .geq => some (.bool (a ≥ b))
      | _ => none
noncomputable def fwBin (f : Fr) (op : BinOp) (x y : Operand) : Option AV := match opnd f x, opnd f y with
    | .lit (.int k a), .lit (.int k' b) => match fastInt op k k' a b with
      | some v => some (.lit v)
      | none => none
    | _, _ => none
noncomputable def fwConv (P : Program) (f : Fr) (src dst : TypeId) (x : Operand) : Option AV := match opnd f x with
    | .lit (.int _ n) => match P.underlying src, P.underlying dst with
      | some _, some (.int k) => forceI (k.wrap n) fun z => some (.lit (.int k z))
      | _, _ => none
    | _ => none
noncomputable def fwIndex (P : Program) (f : Fr) (t : TypeId) (x ix : Operand) : Option AV := match opnd f x, opnd f ix with
    | .lit (.string s), .lit (.int _ (.ofNat i)) => match P.underlying t with
      | some .string => match getO s.data.toList i with
        | some b => forceN b.toNat fun n => some (.lit (.int .u8 (.ofNat n)))
        | none => none
      | _ => none
    | _, _ => none
noncomputable def fwLen (P : Program) (f : Fr) (args : Array Operand) (argTypes : Array TypeId) : Option AV := match args.toList, argTypes.toList with
    | [x], [t] => match opnd f x, P.underlying t with
      | .lit (.string s), some .string => forceN s.size fun n => some (.lit (.int .i64 (.ofNat n)))
      | _, _ => none
    | _, _ => none
noncomputable def fastWl (P : Program) (f : Fr) (o : Oper) : Option AV :=
  match o.op with
  | .binOp op _ x y _ => fwBin f op x y
  | .convert src dst x => fwConv P f src dst x
  | .index t x ix => fwIndex P f t x ix
  | .call { callee := .builtin .len, args, argTypes } => fwLen P f args argTypes
  | _ => none
/-! What is known ahead, of operations and of calls, at values that are letters (sym): a table, looked up. -/
noncomputable def eqL {α : Type} (eq : α → α → Bool) (l : List α) : List α → Bool := List.rec (motive := fun _ => List α → Bool) (fun m => List.rec (motive := fun _ => Bool) true (fun _ _ _ => false) m) (fun a _ ih m => List.rec (motive := fun _ => Bool) false (fun b r _ => Bool.rec false (ih r) (eq a b)) m) l
noncomputable def bytesL (b : ByteArray) : List Nat := mapL (fun x => x.toNat) b.data.toList
noncomputable def eqV1 : Value → Value → Bool
  | .bool a, .bool b => a == b
  | .int k a, .int k' b => decide (k = k') && decide (a = b)
  | .float k a, .float k' b => decide (k = k') && Nat.beq a b
  | .complex k a c, .complex k' b d => decide (k = k') && (Nat.beq a b && Nat.beq c d)
  | .string a, .string b => eqL Nat.beq (bytesL a) (bytesL b)
  | _, _ => false
noncomputable def eqV : Value → Value → Bool
  | .agg a, .agg b => eqL eqV1 a.toList b.toList
  | a, b => eqV1 a b
noncomputable def eqA1 : AV → AV → Bool
  | .lit a, .lit b => eqV a b
  | .sym i, .sym j => Nat.beq i j
  | _, _ => false
noncomputable def eqA : AV → AV → Bool
  | .agg a, .agg b => eqL eqA1 a b
  | .row n o a, .row m p b => Nat.beq n m && (Nat.beq o p && eqL eqA1 a b)
  | a, b => eqA1 a b
noncomputable def ground1 : AV → Bool
  | .lit _ | .sym _ => true
  | _ => false
noncomputable def ground2 : AV → Bool
  | .agg a => allL ground1 a
  | a => ground1 a
noncomputable def ground : AV → Bool
  | .tup a => allL ground2 a
  | a => ground2 a
noncomputable def groundA : AV → Bool
  | .row _ _ a => allL ground1 a
  | a => ground a
noncomputable def flat1 (s : AS) : AV → AV
  | .sl k off len c sz => match look k s.h with
    | some b => .row len off (dropL b off)
    | none => .sl k off len c sz
  | v => v
noncomputable def binKey : BinOp → Nat
  | .add => 0 | .sub => 1 | .mul => 2 | .quo => 3 | .rem => 4 | .and => 5 | .or => 6 | .xor => 7 | .shl => 8 | .shr => 9 | .andNot => 10
  | .eql => 11 | .neq => 12 | .lss => 13 | .leq => 14 | .gtr => 15 | .geq => 16
noncomputable def unKey : UnOp → Nat
  | .neg => 0 | .xor => 1 | .not => 2 | .plus => 3
noncomputable def biKey : Builtin → Option Nat
  | .len => some 0 | .real => some 1 | .imag => some 2 | .complex => some 3
  | _ => none
noncomputable def keyOf (o : Oper) : Option (List Nat × List Operand) := match o.op with
  | .binOp op t x y _ => some ([0, binKey op, t], [x, y])
  | .unOp op t x => some ([1, unKey op, t], [x])
  | .convert src dst x => some ([2, src, dst], [x])
  | .index t x ix => some ([3, t], [x, ix])
  | .slice t x (some lo) none none => some ([4, t], [x, lo])
  | .slice t x none (some hi) none => some ([5, t], [x, hi])
  | .call { callee := .builtin b, args, argTypes } => match biKey b with
    | some k => some (6 :: k :: o.type :: argTypes.toList, args.toList)
    | none => none
  | .call { callee := .value (.func g), args, .. } => some ([7, g], args.toList)
  | _ => none
class Know where
  ops : List (List Nat × List AV × AV)
  calls : List (FuncId × List AV × AV)
noncomputable def findK (k : List Nat) (l : List AV) (t : List (List Nat × List AV × AV)) : Option AV := List.rec (motive := fun _ => Option AV) none (fun p _ ih => match eqL Nat.beq k p.1 with
  | true => match eqL eqA l p.2.1 with
    | true => some p.2.2
    | false => ih
  | false => ih) t
noncomputable def findC (g : FuncId) (l : List AV) (t : List (FuncId × List AV × AV)) : Option AV := List.rec (motive := fun _ => Option AV) none (fun p _ ih => match Nat.beq g p.1 with
  | true => match eqL eqA l p.2.1 with
    | true => some p.2.2
    | false => ih
  | false => ih) t
noncomputable def knowOp [Know] (f : Fr) (o : Oper) : Option AV := match keyOf o with
  | some (k, xs) => findK k (mapL (opnd f) xs) Know.ops
  | none => none
noncomputable def knowCall [Know] (call : CallE) : CallE := fun floor g l s => match findC g (mapL (flat1 s) l) Know.calls with
  | some r => some (r, s)
  | none => call floor g l s
noncomputable def evalWl [Know] (P : Program) (f : Fr) (o : Oper) : Option AV :=
  match fastWl P f o with
  | some v => some v
  | none => match evalWl0 P f o with
    | some v => some v
    | none => match evalPure P f o with
      | some (.value v) => some (.lit v)
      | _ => knowOp f o
noncomputable def memLoad (P : Program) (f : Fr) (t : TypeId) (a : Operand) (s : AS) : Option (AV × AS) := match opnd f a with
    | .ptr k off => match look k s.h with
      | some b => (partOf P t b off).map (·, s)
      | none => none
    | .lit (.pointer (some ⟨g, off, none⟩)) => match look g s.gl, isRowT P t with
      | some b, some false => match getO b off with
        | some v => some (v, s)
        | none => none
      | _, _ => none
    | _ => none
noncomputable def memStore (P : Program) (floor : Nat) (f : Fr) (t : TypeId) (a x : Operand) (s : AS) : Option (AV × AS) := match opnd f a with
    | .ptr k off => match look k s.h, Nat.ble floor k, sizeT P t with
      | some b, true, some n =>
        let cs := (opnd f x).cells
        match Nat.beq (lenL cs) n && (Nat.ble (off + n) (lenL b) && allL (·.one) cs) with
        | true => some (.lit undef, ⟨s.n, upd k (appL (takeL b off) (appL cs (dropL b (off + n)))) s.h, addW k s.wr, s.gl⟩)
        | false => none
      | _, _, _ => none
    | _ => none
noncomputable def memAlloc (P : Program) (t : TypeId) (s : AS) : Option (AV × AS) := match P.info? t with
    | some i => match i.zero with
      | some z => some (.ptr s.n 0, newB s (mapL .lit z.cells.toList))
      | none => none
    | none => none
noncomputable def memMake (P : Program) (f : Fr) (t : TypeId) (l c : Operand) (s : AS) : Option (AV × AS) := match opnd f l, opnd f c with
    | .lit (.int _ (.ofNat l)), .lit (.int _ (.ofNat c)) => match P.underlying t with
      | some (.slice e) => match P.info? e with
        | some i => match i.zero with
          | some z => match Nat.ble l c && (Nat.ble c 1000000 && Nat.ble i.bytes 100000000) with
            | true => some (.sl s.n 0 l (some c) 0, newB s (zeros z.cells (c * i.size)))
            | false => none
          | none => none
        | none => none
      | _ => none
    | _, _ => none
noncomputable def memBuild (P : Program) (f : Fr) (t : TypeId) (len : Nat) (ps : Array (Nat × Operand)) (s : AS) : Option (AV × AS) := match P.underlying t with
    | some (.slice e) => match P.info? e with
      | some i => match i.zero with
        | some z => match Nat.ble (len * i.size) 16777216 with
          | true => match fillA (fun j => some (j * i.size, i.size)) (zeros z.cells (len * i.size)) (mapL (fun p => (p.1, opnd f p.2)) ps.toList) with
            | some cs => some (.sl s.n 0 len (some len) 0, newB s cs)
            | none => none
          | false => none
        | none => none
      | none => none
    | _ => none
noncomputable def memConv (P : Program) (f : Fr) (src dst : TypeId) (x : Operand) (s : AS) : Option (AV × AS) := match opnd f x with
    | .sl k off len cap sz => match P.underlying src, P.underlying dst with
      | some (.slice e), some .string => match P.underlying e with
        | some (.int .u8) => match (firstA s 1 len (.sl k off len cap sz)).bind bytesOf with
          | some l => some (.lit (.string ⟨l.toArray⟩), s)
          | none => none
        | _ => none
      | _, _ => none
    | .lit (.string b) => match P.underlying src, P.underlying dst with
      | some .string, some (.slice e) => match P.underlying e with
        | some (.int .u8) => some (.sl s.n 0 b.size none 1, newB s (mapL (fun x => .lit (.int .u8 x.toNat)) b.data.toList))
        | _ => none
      | _, _ => none
    | _ => none
noncomputable def memApp (P : Program) (floor : Nat) (f : Fr) (args : Array Operand) (argTypes : Array TypeId) (s : AS) : Option (AV × AS) := match args.toList, argTypes.toList with
    | [x, y], [t, u] => evalAppend P floor t u (opnd f x) (opnd f y) s
    | _, _ => none
noncomputable def memCopy (P : Program) (floor : Nat) (f : Fr) (args : Array Operand) (argTypes : Array TypeId) (s : AS) : Option (AV × AS) := match args.toList, argTypes.toList with
    | [x, y], [t, _] => match P.underlying t with
      | some (.slice e) => match sizeT P e, opnd f x, lenOfSlice (opnd f y) with
        | some size, .sl k off len _ _, some m => match look k s.h, Nat.ble floor k, firstA s size (Nat.min m len) (opnd f y) with
          | some b, true, some src => match Nat.ble (off + lenL src) (lenL b) && allL (·.one) src with
            | true => some (.lit (goInt (Nat.min m len)), ⟨s.n, upd k (appL (takeL b off) (appL src (dropL b (off + lenL src)))) s.h, addW k s.wr, s.gl⟩)
            | false => none
          | _, _, _ => none
        | _, _, _ => none
      | _ => none
    | _, _ => none
noncomputable def evalMem (P : Program) (floor : Nat) (f : Fr) (o : Oper) (s : AS) : Option (AV × AS) :=
  match o.op with
  | .load t a => memLoad P f t a s
  | .store t a x => memStore P floor f t a x s
  | .alloc t => memAlloc P t s
  | .box t x => some (.ptr s.n 0, newB s ((opnd f x).cells))
  | .makeSlice t l c => memMake P f t l c s
  | .buildSlice t len ps => memBuild P f t len ps s
  | .convert src dst x => memConv P f src dst x s
  | .call { callee := .builtin .append, args, argTypes } => memApp P floor f args argTypes s
  | .call { callee := .builtin .copy, args, argTypes } => memCopy P floor f args argTypes s
  | _ => none
noncomputable def entered (P : Program) (g : FuncId) : Bool := match P.funcs[g]? with
  | some fn => fn.body.isSome && !(fn.name == "runtime.NumGoroutine")
  | none => false
noncomputable def calleeOf : AV → Option (FuncId × List AV × List AV)
  | .lit (.func (.func g) a b) => some (g, mapL .lit a.toList, mapL .lit b.toList)
  | .fn (.func g) a b => some (g, a, b)
  | _ => none
noncomputable def methodOf (P : Program) (x : AV) (name : String) (args : List AV) : Option (FuncId × List AV) := match x with
  | .lit (.iface t v) => match runPure P (method (P.types.size + Made.depth) t v name) with
    | some (g, r) => match entered P g with
      | true => some (g, .lit r :: args)
      | false => none
    | none => none
  | _ => none
noncomputable def callOf (P : Program) (f : Fr) (o : Oper) : Option (FuncId × List AV) :=
  match o.op with
  | .call { callee := .value x, args, .. } => match calleeOf (opnd f x) with
    | some (g, a, b) => match entered P g with
      | true => some (g, appL a (appL (mapL (opnd f) args.toList) b))
      | false => none
    | none => none
  | .call { callee := .invoke x name, args, .. } => methodOf P (opnd f x) name (mapL (opnd f) args.toList)
  | _ => none
noncomputable def evalOp0 [Know] (P : Program) (call : CallE) (floor : Nat) (f : Fr) (o : Oper) (s : AS) : Option (AV × AS) :=
  match callOf P f o with
  | some (g, l) => call floor g l s
  | none => match evalMem P floor f o s with
    | some r => some r
    | none => match evalWl P f o with
      | some v => some (v, s)
      | none => none
noncomputable def pureOp [Know] (P : Program) (f : Fr) (o : Oper) (s : AS) : Option (AV × AS) := match evalPure P f o with
  | some (.value v) => some (.lit v, s)
  | _ => match knowOp f o with
    | some v => some (v, s)
    | none => none
noncomputable def orMem (r d : Option (AV × AS)) : Option (AV × AS) := Option.rec (motive := fun _ => Option (AV × AS)) d (fun x => some x) r
noncomputable def orWl (r : Option AV) (s : AS) (d : Option (AV × AS)) : Option (AV × AS) := Option.rec (motive := fun _ => Option (AV × AS)) d (fun v => some (v, s)) r
structure OpF where
  fn : CallE → Nat → Fr → AS → Option (AV × AS)
noncomputable def callOp [Know] (P : Program) (x : Operand) (args : List Operand) (call : CallE) (floor : Nat) (f : Fr) (o : Oper) (s : AS) : Option (AV × AS) := match calleeOf (opnd f x) with
  | some (g, a, b) => match entered P g with
    | true => call floor g (appL a (appL (mapL (opnd f) args) b)) s
    | false => pureOp P f o s
  | none => pureOp P f o s
noncomputable def compOp [Know] (P : Program) (o : Oper) : OpF := match o.op with
  | .move x | .assign x => ⟨fun _ _ f s => some (opnd f x, s)⟩
  | .load t a => ⟨fun _ _ f s => orMem (memLoad P f t a s) (pureOp P f o s)⟩
  | .store t a x => ⟨fun _ floor f s => orMem (memStore P floor f t a x s) (pureOp P f o s)⟩
  | .extract t i => ⟨fun _ _ f s => orWl (wlExtract f t i) s (pureOp P f o s)⟩
  | .fieldAddr t x i => ⟨fun _ _ f s => orWl (wlFieldAddr P f t x i) s (pureOp P f o s)⟩
  | .field t x i => ⟨fun _ _ f s => orWl (wlField P f t x i) s (pureOp P f o s)⟩
  | .indexAddr t x ix => ⟨fun _ _ f s => orWl (wlIndexAddr P f t x ix) s (pureOp P f o s)⟩
  | .nilCheck x => ⟨fun _ _ f s => orWl (wlNil f x) s (pureOp P f o s)⟩
  | .pick c x y => ⟨fun _ _ f s => orWl (wlPick f c x y) s (pureOp P f o s)⟩
  | .binOp op t x y _ => ⟨fun _ _ f s => orWl (fwBin f op x y) s (orWl (wlBin P f op t x y) s (pureOp P f o s))⟩
  | .index t x ix => ⟨fun _ _ f s => orWl (fwIndex P f t x ix) s (pureOp P f o s)⟩
  | .convert src dst x => ⟨fun _ _ f s => orMem (memConv P f src dst x s) (orWl (fwConv P f src dst x) s (pureOp P f o s))⟩
  | .call { callee := .value x, args, .. } => ⟨fun call floor f s => callOp P x args.toList call floor f o s⟩
  | .call { callee := .builtin .len, args, argTypes } => ⟨fun _ _ f s => orWl (fwLen P f args argTypes) s (orWl (wlLen P f args argTypes) s (pureOp P f o s))⟩
  | .call { callee := .builtin .append, args, argTypes } => ⟨fun _ floor f s => orMem (memApp P floor f args argTypes s) (pureOp P f o s)⟩
  | _ => ⟨fun call floor f s => evalOp0 P call floor f o s⟩
noncomputable def evalOp [Know] (P : Program) (call : CallE) (floor : Nat) (f : Fr) (o : Oper) (s : AS) : Option (AV × AS) := OpF.rec (motive := fun _ => Option (AV × AS)) (fun fn => fn call floor f s) (compOp P o)
theorem orMem_eq (r d : Option (AV × AS)) : orMem r d = match r with
    | some x => some x
    | none => d := by cases r <;> rfl
theorem orWl_eq (r : Option AV) (s : AS) (d : Option (AV × AS)) : orWl r s d = match r with
    | some v => some (v, s)
    | none => d := by cases r <;> rfl
theorem evalOp_eq [Know] (P : Program) (call : CallE) (floor : Nat) (f : Fr) (o : Oper) (s : AS) : evalOp P call floor f o s = evalOp0 P call floor f o s := by
  obtain ⟨dst, op, type, pos, after, guard⟩ := o
  unfold evalOp compOp
  simp only
  split
  case h_17 => rfl
  all_goals
    simp only [orMem_eq, orWl_eq, pureOp, callOp, evalOp0, callOf, evalMem, evalWl, fastWl, evalWl0]
    try (repeat' split)
    all_goals first
      | rfl
      | simp_all
noncomputable def putA (f : Fr) : Option Tmp → AV → Fr
  | none, _ => f
  | some d, v => setF v f d
noncomputable def yieldedA (ops : Array Oper) (f : Fr) (j : Nat) : Option Bool :=
  match (ops[j]?).bind (·.dst) with
  | some d => match getF f d with
    | .lit (.bool b) => some b
    | _ => none
  | none => none
noncomputable def symAt (ops : Array Oper) (f : Fr) (j : Nat) : Bool := match (ops[j]?).bind (·.dst) with
  | some d => match getF f d with
    | .sym _ => true
    | _ => false
  | none => false
noncomputable def wantA (ops : Array Oper) (f : Fr) (o : Oper) : Option Bool := match o.guard with
  | none => some true
  | some (j, b) => match symAt ops f j with
    | true => none
    | false => some (yieldedA ops f j == some b)
noncomputable def evalSeq [Know] (P : Program) (call : CallE) (floor : Nat) (ops : Array Oper) (l : List Oper) : Fr → AS → Option (Fr × AS) :=
  List.rec (motive := fun _ => Fr → AS → Option (Fr × AS)) (fun f s => some (f, s)) (fun o _ ih f s => match wantA ops f o with
    | some true => match evalOp P call floor f o s with
      | some (v, s') => ih (putA f o.dst v) s'
      | none => none
    | some false => ih (putA f o.dst (.lit undef)) s
    | none => none) l
noncomputable def early (o : Oper) : Bool := match o.op with
  | .move _ | .assign _ | .pick .. | .extract .. | .fieldAddr .. | .field .. | .indexAddr .. | .slice .. | .binOp .. | .unOp .. | .nilCheck _ | .build .. | .index .. | .makeInterface .. | .convert .. => true
  | .call { callee := .builtin b, .. } => match b with
    | .len | .cap | .complex | .real | .imag | .min | .max => true
    | _ => false
  | _ => false
inductive Stp where
  | early (i : Nat)
  | held (i : Nat)
  | solo (i : Nat)
  | flo (i : Nat)
  | pair (i j : Nat)
noncomputable def isLoad (o : Oper) : Bool := match o.op with
  | .load .. => true
  | _ => false
noncomputable def depM (o : Oper) : Nat := o.after.toList.foldr (fun e m => if Region.binds .any e then m ||| (2 ^ e.on) else m) 0
noncomputable def lookM (ops : Array Oper) (o : Oper) : Nat := (o.looksAt ops).foldr (fun t m => m ||| (2 ^ t)) 0
structure Rec where
  i : Nat
  o : Oper
  deps : Nat
  looks : Nat
noncomputable def recs (ops : Array Oper) : List Oper → Nat → List Rec
  | [], _ => []
  | o :: r, i => ⟨i, o, depM o, lookM ops o⟩ :: recs ops r (i + 1)
noncomputable def hitM (d : Option Tmp) (m : Nat) : Bool := match d with
  | some d => m.testBit d
  | none => false
noncomputable def sameD (a b : Option Tmp) : Bool := match a, b with
  | some x, some y => Nat.beq x y
  | _, _ => false
noncomputable def apartR (x y : Rec) : Bool := !hitM x.o.dst y.looks && (!sameD x.o.dst y.o.dst && !hitM y.o.dst x.looks)
noncomputable def readyR (m : Nat) (r : Rec) : Bool := Nat.beq (r.deps &&& m) r.deps
noncomputable def freeR (l : List Rec) (r : Rec) : Bool := allL (fun q => Nat.beq q.i r.i || (q.deps.testBit r.i || apartR r q)) l
noncomputable def without (i : Nat) (l : List Rec) : List Rec := List.rec (motive := fun _ => List Rec) [] (fun r _ ih => Bool.rec (r :: ih) ih (Nat.beq r.i i)) l
noncomputable def firstR (t : Oper → Bool) (m : Nat) (all : List Rec) (l : List Rec) : Option Rec :=
  List.rec (motive := fun _ => Option Rec) none (fun r _ ih => Bool.rec ih (some r) (t r.o && (readyR m r && freeR all r))) l
noncomputable def readyL (m : Nat) (l : List Rec) : List Rec := List.rec (motive := fun _ => List Rec) [] (fun r _ ih => Bool.rec ih (r :: ih) (readyR m r)) l
noncomputable def pairR (m : Nat) (l : List Rec) (a b : Rec) : Bool :=
  isLoad a.o && isLoad b.o && a.o.guard.isNone && b.o.guard.isNone && apartR a b &&
    allL (fun q => Nat.beq q.i a.i || (Nat.beq q.i b.i || (!readyR (m ||| 2 ^ a.i) q && !readyR (m ||| 2 ^ b.i) q))) l
noncomputable def isAlloc (o : Oper) : Bool := match o.op, o.guard, o.dst with
  | .alloc _, none, some _ => true
  | _, _, _ => false
noncomputable def floR (all : List Rec) (r : Rec) : Bool := isAlloc r.o && (Nat.beq r.deps 0 && freeR all r)
noncomputable def floM (all l : List Rec) : Nat := List.rec (motive := fun _ => Nat) 0 (fun r _ ih => Bool.rec ih (ih ||| 2 ^ r.i) (floR all r)) l
noncomputable def stepM (c : Nat) (l : List Rec) : Nat := List.rec (motive := fun _ => Nat) c (fun r _ ih => Bool.rec ih (ih ||| r.deps) (c.testBit r.i)) l
noncomputable def closM (all : List Rec) (n m : Nat) : Nat := Nat.rec (motive := fun _ => Nat) m (fun _ c => stepM c all) n
noncomputable def waitsR (all : List Rec) (q : Rec) (i : Nat) : Bool := q.deps.testBit i || (closM all 8 q.deps).testBit i
noncomputable def pendM (fs i : Nat) (l : List Rec) : Nat := List.rec (motive := fun _ => Nat) 0 (fun q _ ih => Bool.rec ih (ih ||| 2 ^ q.i) (fs.testBit q.i && !Nat.beq q.i i)) l
noncomputable def wtB (fs : Nat) (all l : List Rec) (i : Nat) : Bool := Nat.beq fs 0 || allL (fun q => Nat.beq (q.deps &&& pendM fs i l) 0 || waitsR all q i) l
noncomputable def plain (fs : Nat) (l : List Rec) : List Rec := List.rec (motive := fun _ => List Rec) [] (fun r _ ih => Bool.rec (r :: ih) ih (fs.testBit r.i)) l
noncomputable def planGo (fs : Nat) (all : List Rec) : Nat → Nat → List Rec → Option (List Stp)
  | 0, m, l => match readyL m l with
    | [] => some []
    | _ => none
  | n + 1, m, l => match firstR early m l l with
    | some r => match fs.testBit r.i, planGo fs all n (m ||| 2 ^ r.i) (without r.i l) with
      | false, some p => some (.early r.i :: p)
      | _, _ => none
    | none => match plain fs (readyL m l) with
      | [] => match readyL m l with
        | [] => some []
        | r :: _ => match wtB fs all l r.i, planGo fs all n (m ||| 2 ^ r.i) (without r.i l) with
          | true, some p => some (.flo r.i :: p)
          | _, _ => none
      | [r] => match wtB fs all l r.i with
        | true => match planGo fs all n (m ||| 2 ^ r.i) (without r.i l) with
          | some p => some (.solo r.i :: p)
          | none => none
        | false => match firstR isLoad m l l with
          | none => none
          | some r => match fs.testBit r.i, planGo fs all n (m ||| 2 ^ r.i) (without r.i l) with
            | false, some p => some (.held r.i :: p)
            | _, _ => none
      | a :: b :: more => match firstR isLoad m l l with
        | none => none
        | some r => match more, n, Nat.beq fs 0 && pairR m l a b with
          | [], n + 1, true => match planGo fs all n ((m ||| 2 ^ a.i) ||| 2 ^ b.i) (without b.i (without a.i l)) with
            | some p => some (.pair a.i b.i :: p)
            | none => none
          | _, n, _ => match fs.testBit r.i, planGo fs all n (m ||| 2 ^ r.i) (without r.i l) with
            | false, some p => some (.held r.i :: p)
            | _, _ => none
noncomputable def planW (ops : Array Oper) (all : List Rec) : Option (Nat × List Stp) := match planGo 0 all ops.size 0 all with
  | some p => some (0, p)
  | none => match planGo (floM all all) all ops.size 0 all with
    | some p => some (floM all all, p)
    | none => none
noncomputable def plan (ops : Array Oper) : Option (Nat × List Stp) := match Region.noSelect ops with
  | true => planW ops (recs ops ops.toList 0)
  | false => none
noncomputable def hasK (l : List (Nat × Nat)) (k : Nat) : Bool := List.rec (motive := fun _ => Bool) false (fun a _ ih => Bool.rec ih true (Nat.beq a.2 k)) l
noncomputable def waitsAll (ops : Array Oper) (i : Nat) (ws : List Nat) (kl : List (Nat × Nat)) : Bool :=
  allL (fun p => !hasN ws p.2 || match ops[i]? with
    | some o => waitsR (recs ops ops.toList 0) ⟨i, o, depM o, 0⟩ p.1
    | none => false) kl
noncomputable def evalHeld (P : Program) (f : Fr) (o : Oper) (s : AS) : Option (AV × Nat) := match o.op with
  | .load t a => match opnd f a with
    | .ptr k off => match look k s.h with
      | some b => match partOf P t b off with
        | some v => some (v, k)
        | none => none
      | none => none
    | _ => none
  | _ => none
noncomputable def planOne [Know] (P : Program) (call : CallE) (s0 : AS) (floor : Nat) (ops : Array Oper) (t : Stp) (f : Fr) (s : AS) (kl tl : List (Nat × Nat)) : Option (Fr × AS × List (Nat × Nat) × List (Nat × Nat)) :=
  match t with
  | .early i => match ops[i]? with
    | some o => match wantA ops f o with
      | some true => match evalWl P f o with
        | some v => some (putA f o.dst v, s, kl, tl)
        | none => none
      | some false => some (putA f o.dst (.lit undef), s, kl, tl)
      | none => none
    | none => none
  | .held i => match ops[i]? with
    | some o => match wantA ops f o with
      | some true => match evalHeld P f o s with
        | some (v, k) => match look k s0.h, hasK tl k with
          | some _, false => some (putA f o.dst v, s, (i, k) :: kl, tl)
          | _, _ => none
        | none => none
      | some false => some (putA f o.dst (.lit undef), s, kl, tl)
      | none => none
    | none => none
  | .solo i => match ops[i]? with
    | some o => match wantA ops f o with
      | some true => match evalOp P call floor f o ⟨s.n, s.h, [], s.gl⟩ with
        | some (v, s') => match waitsAll ops i s'.wr kl with
          | true => some (putA f o.dst v, ⟨s'.n, s'.h, unionW s'.wr s.wr, s'.gl⟩, kl, appL (mapL (fun k => (i, k)) s'.wr) tl)
          | false => none
        | none => none
      | some false => some (putA f o.dst (.lit undef), s, kl, tl)
      | none => none
    | none => none
  | .flo i => match ops[i]? with
    | some o => match o.op with
      | .alloc t => match P.info? t with
        | some inf => match inf.zero with
          | some z => some (putA f o.dst (.ptr s.n 0), newB s (mapL .lit z.cells.toList), kl, tl)
          | none => none
        | none => none
      | _ => none
    | none => none
  | .pair i j => match ops[i]?, ops[j]? with
    | some a, some b => match evalHeld P f a s, evalHeld P f b s with
      | some (u, _), some (v, _) => some (putA (putA f a.dst u) b.dst v, s, kl, tl)
      | _, _ => none
    | _, _ => none
noncomputable def evalPlan [Know] (P : Program) (call : CallE) (s0 : AS) (floor : Nat) (ops : Array Oper) (l : List Stp) : Fr → AS → List (Nat × Nat) → List (Nat × Nat) → Option (Fr × AS × List (Nat × Nat)) :=
  List.rec (motive := fun _ => Fr → AS → List (Nat × Nat) → List (Nat × Nat) → Option (Fr × AS × List (Nat × Nat))) (fun f s _ tl => some (f, s, tl)) (fun t _ ih f s kl tl =>
    match planOne P call s0 floor ops t f s kl tl with
    | some (f', s', kl', tl') => ih f' s' kl' tl'
    | none => none) l
noncomputable def zeroB (P : Program) (o : Oper) : Bool := match o.op with
  | .alloc t => match P.info? t with
    | some inf => inf.zero.isSome
    | none => false
  | _ => true
noncomputable def evalRegion [Know] (P : Program) (call : CallE) (floor : Nat) (ops : Array Oper) (draw : Bool) (f : Fr) (s : AS) : Option (Fr × AS) :=
  match draw with
  | false => evalSeq P call floor ops ops.toList f s
  | true => match plan ops with
    | some (fs, pl) => match Nat.beq fs 0 || allL (zeroB P) ops.toList with
      | true => match evalPlan P call s floor ops pl f s [] [] with
        | some (f', s', _) => some (f', s')
        | none => none
      | false => none
    | none => none
inductive AX where
  | normal
  | exit (id : Nat)
  | goto (l : Nat)
  | ret
abbrev CodeE := Nat → Code → Fr → AS → Option (AX × Fr × AS)
structure Ev where
  code : CodeE
  loop : CodeE
  scope : Nat → Code → Code → Fr → AS → Option (AX × Fr × AS)
  call : CallE
noncomputable def codeRegion [Know] (P : Program) (E : Ev) (floor : Nat) (ops : Array Oper) (draw : Bool) (f : Fr) (s : AS) : Option (AX × Fr × AS) := match evalRegion P E.call floor ops draw f s with
  | some (f', s') => forceF f' fun f'' => some (.normal, f'', s')
  | none => none
noncomputable def codeSeq (E : Ev) (floor : Nat) (a b : Code) (f : Fr) (s : AS) : Option (AX × Fr × AS) := match E.code floor a f s with
  | some (.normal, f', s') => E.code floor b f' s'
  | r => r
noncomputable def codeCond (E : Ev) (floor : Nat) (o : Operand) (a b : Code) (f : Fr) (s : AS) : Option (AX × Fr × AS) := match opnd f o with
  | .lit (.bool true) => E.code floor a f s
  | .lit (.bool false) => E.code floor b f s
  | _ => none
noncomputable def codeBlock (E : Ev) (floor id : Nat) (c : Code) (f : Fr) (s : AS) : Option (AX × Fr × AS) := match E.code floor c f s with
  | some (.exit j, f', s') => match Nat.beq j id with
    | true => some (.normal, f', s')
    | false => some (.exit j, f', s')
  | r => r
noncomputable def codeStep [Know] (P : Program) (E : Ev) (floor : Nat) (c : Code) (f : Fr) (s : AS) : Option (AX × Fr × AS) :=
  match c with
  | .skip => some (.normal, f, s)
  | .label _ => some (.normal, f, s)
  | .region _ ops draw => codeRegion P E floor ops draw f s
  | .seq a b => codeSeq E floor a b f s
  | .cond o a b => codeCond E floor o a b f s
  | .block id c => codeBlock E floor id c f s
  | .loop c => E.loop floor c f s
  | .scope c => E.scope floor c c f s
  | .exit id => some (.exit id, f, s)
  | .goto l => some (.goto l, f, s)
  | .ret => some (.ret, f, s)
  | _ => none
noncomputable def loopStep (E : Ev) (floor : Nat) (c : Code) (f : Fr) (s : AS) : Option (AX × Fr × AS) :=
  match E.code floor c f s with
  | some (.normal, f', s') => E.loop floor c f' s'
  | r => r
noncomputable def scopeStep (E : Ev) (floor : Nat) (c cur : Code) (f : Fr) (s : AS) : Option (AX × Fr × AS) :=
  match E.code floor cur f s with
  | some (.goto l, f', s') => match findLabel c l with
    | some rest => E.scope floor c rest f' s'
    | none => some (.goto l, f', s')
  | r => r
noncomputable def resA (P : Program) (f : Fr) (s : AS) : List ResultVar → Option (List AV)
  | [] => some []
  | .tmp t :: r => match resA P f s r with
    | some l => some (getF f t :: l)
    | none => none
  | .cell a t :: r => match getF f a with
    | .ptr k off => match look k s.h with
      | some b => match partOf P t b off, resA P f s r with
        | some v, some l => some (v :: l)
        | _, _ => none
      | none => none
    | _ => none
noncomputable def frame (m : Nat) (args : List AV) : Fr := forceN (lenL args + (m - lenL args)) fun n => ⟨n, trInit args 0 (trFull (Nat.log2 n + 1))⟩
noncomputable def callStep (P : Program) (E : Ev) (floor : Nat) (g : FuncId) (args : List AV) (s : AS) : Option (AV × AS) :=
  match P.funcs[g]? with
  | some fn => match fn.body with
    | some c => match E.code floor c (frame fn.ntmps args) ⟨s.n, s.h, [], s.gl⟩ with
      | some (.normal, f', s') | some (.ret, f', s') => match resA P f' s' fn.results.toList with
        | some [v] => match isLit v && allL isLit args with
          | true => some (v, ⟨s'.n, dropNew s.n s'.h, unionW (oldW s.n s'.wr) s.wr, s'.gl⟩)
          | false => some (v, ⟨s'.n, s'.h, unionW (oldW s.n s'.wr) s.wr, s'.gl⟩)
        | some vs => match isLit (mkTup vs) && allL isLit args with
          | true => some (mkTup vs, ⟨s'.n, dropNew s.n s'.h, unionW (oldW s.n s'.wr) s.wr, s'.gl⟩)
          | false => some (mkTup vs, ⟨s'.n, s'.h, unionW (oldW s.n s'.wr) s.wr, s'.gl⟩)
        | none => none
      | _ => none
    | none => none
  | none => none
noncomputable def evStep [Know] (P : Program) (E : Ev) : Ev := ⟨codeStep P E, loopStep E, scopeStep E, knowCall (callStep P E)⟩
noncomputable def ev [Know] (P : Program) (n : Nat) : Ev := Nat.rec ⟨fun _ _ _ _ => none, fun _ _ _ _ => none, fun _ _ _ _ _ => none, fun _ _ _ _ => none⟩ (fun _ E => evStep P E) n
@[reducible] noncomputable def noKnow : Know := ⟨[], []⟩
def Globs (gl : List (Nat × List AV)) (w : World) : Prop := ∀ g B, look g gl = some B → g < w.heap.size ∧ ∀ i v, B[i]? = some v → ∃ u, v = .lit u ∧ w.cell? ⟨g, i, none⟩ = some u
noncomputable def comes [Know] (P : Program) (gl : List (Nat × List AV)) (n : Nat) (g : FuncId) (l : List AV) : Option AV := match (ev P n).call 0 g l ⟨0, [], [], gl⟩ with
  | some (v, _) => some v
  | none => none
noncomputable def saysG (P : Program) (gl : List (Nat × List AV)) (n : Nat) (g : FuncId) (l : List Value) (b : Bool) : Bool := match (@ev noKnow P n).call 0 g (mapL .lit l) ⟨0, [], [], gl⟩ with
  | some (.lit (.bool c), _) => c == b
  | _ => false
end Go.Proofs.YtackmbfbilbopaaGreatDoor
set_option linter.unusedSectionVars false
namespace Go.Proofs.YtackmbfbilbopaaGreatDoor
open Go Go.RowKit
class Env where
  env : Nat → Value
  flat : ∀ i, (env i).oneCell' = true
  gl : List (Nat × List AV)
variable [Env]
abbrev Rho := Nat → Nat → Nat → Prop
mutual
def VRel (R : Rho) : AV → Value → Prop
  | .lit v, x => x = v
  | .ptr k off, x => ∃ b T, R k b T ∧ x = .pointer (some ⟨b, off, none⟩)
  | .sl k off len (some c) _, x => ∃ b T, R k b T ∧ x = .slice (some ⟨b, off, none⟩) len c
  | .sl k off len none sz, x => ∃ b T c, R k b T ∧ len ≤ c ∧ off + c * sz ≤ T ∧ x = .slice (some ⟨b, off, none⟩) len c
  | .emp, x => ∃ a c, x = .slice (some a) 0 c
  | .agg vs, x => ∃ cs, VRels R vs cs ∧ x = .agg cs.toArray
  | .tup vs, x => ∃ cs, VRels R vs cs ∧ x = .tuple cs.toArray
  | .ifc t v, x => ∃ y, VRel R v y ∧ x = .iface t y
  | .fn f a b, x => ∃ as1 bs, VRels R a as1 ∧ VRels R b bs ∧ x = .func f as1.toArray bs.toArray
  | .sym i, x => x = Env.env i
  | .row _ _ _, _ => False
def VRels (R : Rho) : List AV → List Value → Prop
  | [], xs => xs = []
  | v :: vs, xs => ∃ y ys, xs = y :: ys ∧ VRel R v y ∧ VRels R vs ys
end
def Ext (R R' : Rho) : Prop := ∀ k b T, R k b T → R' k b T
theorem Ext.refl (R : Rho) : Ext R R := fun _ _ _ h => h
theorem Ext.trans {R R' R'' : Rho} (h : Ext R R') (h' : Ext R' R'') : Ext R R'' := fun k b T x => h' k b T (h k b T x)
mutual
theorem VRel.ext {R R' : Rho} (h : Ext R R') : ∀ {v : AV} {x : Value}, VRel R v x → VRel R' v x
  | .lit v, x, e => by simpa only [VRel] using e
  | .ptr k off, x, e => by
    simp only [VRel] at e ⊢
    obtain ⟨b, T, r, e⟩ := e
    exact ⟨b, T, h _ _ _ r, e⟩
  | .sl k off len (some c) _, x, e => by
    simp only [VRel] at e ⊢
    obtain ⟨b, T, r, e⟩ := e
    exact ⟨b, T, h _ _ _ r, e⟩
  | .sl k off len none sz, x, e => by
    simp only [VRel] at e ⊢
    obtain ⟨b, T, c, r, e⟩ := e
    exact ⟨b, T, c, h _ _ _ r, e⟩
  | .emp, x, e => by simpa only [VRel] using e
  | .agg vs, x, e => by
    simp only [VRel] at e ⊢
    obtain ⟨cs, r, e⟩ := e
    exact ⟨cs, VRels.ext h r, e⟩
  | .tup vs, x, e => by
    simp only [VRel] at e ⊢
    obtain ⟨cs, r, e⟩ := e
    exact ⟨cs, VRels.ext h r, e⟩
  | .ifc t v, x, e => by
    simp only [VRel] at e ⊢
    obtain ⟨y, r, e⟩ := e
    exact ⟨y, VRel.ext h r, e⟩
  | .fn f a b, x, e => by
    simp only [VRel] at e ⊢
    obtain ⟨as1, bs, r, q, e⟩ := e
    exact ⟨as1, bs, VRels.ext h r, VRels.ext h q, e⟩
  | .sym i, x, e => by simpa only [VRel] using e
  | .row _ _ _, x, e => by simp only [VRel] at e
theorem VRels.ext {R R' : Rho} (h : Ext R R') : ∀ {vs : List AV} {xs : List Value}, VRels R vs xs → VRels R' vs xs
  | [], xs, e => by simpa only [VRels] using e
  | v :: vs, xs, e => by
    simp only [VRels] at e ⊢
    obtain ⟨y, ys, e, r, q⟩ := e
    exact ⟨y, ys, e, VRel.ext h r, VRels.ext h q⟩
end
section
variable {R : Rho}
theorem VRels.nil : VRels R [] [] := by simp only [VRels]
theorem VRels.cons {v : AV} {x : Value} {vs : List AV} {xs : List Value} (h : VRel R v x) (hs : VRels R vs xs) : VRels R (v :: vs) (x :: xs) := by
  simp only [VRels]; exact ⟨x, xs, rfl, h, hs⟩
theorem VRels.length : ∀ {vs : List AV} {xs : List Value}, VRels R vs xs → xs.length = vs.length
  | [], xs, h => by simp only [VRels] at h; subst h; rfl
  | v :: vs, xs, h => by
    simp only [VRels] at h
    obtain ⟨y, ys, rfl, _, q⟩ := h
    simp [VRels.length q]
theorem VRels.get : ∀ {vs : List AV} {xs : List Value}, VRels R vs xs → ∀ {i : Nat} {v : AV}, vs[i]? = some v → ∃ x, xs[i]? = some x ∧ VRel R v x
  | [], xs, h, i, v, e => by simp at e
  | w :: vs, xs, h, i, v, e => by
    simp only [VRels] at h
    obtain ⟨y, ys, rfl, r, q⟩ := h
    cases i with
    | zero => simp at e; subst e; exact ⟨y, rfl, r⟩
    | succ i => simp at e; obtain ⟨x, h1, h2⟩ := VRels.get q e; exact ⟨x, by simpa using h1, h2⟩
theorem VRels.set : ∀ {vs : List AV} {xs : List Value}, VRels R vs xs → ∀ (i : Nat) {v : AV} {x : Value}, VRel R v x → VRels R (vs.set i v) (xs.set i x)
  | [], xs, h, i, v, x, e => by simp only [VRels] at h; subst h; exact VRels.nil
  | w :: vs, xs, h, i, v, x, e => by
    simp only [VRels] at h
    obtain ⟨y, ys, rfl, r, q⟩ := h
    cases i with
    | zero => exact VRels.cons e q
    | succ i => exact VRels.cons r (VRels.set q i e)
theorem VRels.append : ∀ {vs : List AV} {xs : List Value} {us : List AV} {ys : List Value}, VRels R vs xs → VRels R us ys → VRels R (vs ++ us) (xs ++ ys)
  | [], xs, us, ys, h, h' => by simp only [VRels] at h; subst h; simpa using h'
  | w :: vs, xs, us, ys, h, h' => by
    simp only [VRels] at h
    obtain ⟨y, zs, rfl, r, q⟩ := h
    exact VRels.cons r (VRels.append q h')
theorem VRels.take : ∀ {vs : List AV} {xs : List Value}, VRels R vs xs → ∀ (n : Nat), VRels R (vs.take n) (xs.take n)
  | [], xs, h, n => by simp only [VRels] at h; subst h; simpa using VRels.nil
  | w :: vs, xs, h, n => by
    simp only [VRels] at h
    obtain ⟨y, zs, rfl, r, q⟩ := h
    cases n with
    | zero => simpa using VRels.nil
    | succ n => simpa using VRels.cons r (VRels.take q n)
theorem VRels.drop : ∀ {vs : List AV} {xs : List Value}, VRels R vs xs → ∀ (n : Nat), VRels R (vs.drop n) (xs.drop n)
  | [], xs, h, n => by simp only [VRels] at h; subst h; simpa using VRels.nil
  | w :: vs, xs, h, n => by
    simp only [VRels] at h
    obtain ⟨y, zs, rfl, r, q⟩ := h
    cases n with
    | zero => simpa using VRels.cons r q
    | succ n => simpa using VRels.drop q n
theorem VRel.lit_ (v : Value) : VRel R (.lit v) v := by simp only [VRel]
theorem VRel.lit_eq {v x : Value} (h : VRel R (.lit v) x) : x = v := by simpa only [VRel] using h
theorem VRels.lits_ : ∀ (l : List Value), VRels R (l.map .lit) l
  | [] => VRels.nil
  | v :: l => VRels.cons (VRel.lit_ v) (VRels.lits_ l)
theorem VRels.map_ {α : Type} (f : α → AV) (g : α → Value) (h : ∀ a, VRel R (f a) (g a)) : ∀ (l : List α), VRels R (l.map f) (l.map g)
  | [] => VRels.nil
  | a :: l => VRels.cons (h a) (VRels.map_ f g h l)
theorem VRels.replicate (n : Nat) (v : Value) : VRels R (List.replicate n (.lit v)) (List.replicate n v) := by
  induction n with
  | zero => exact VRels.nil
  | succ n ih => exact VRels.cons (VRel.lit_ v) ih
theorem litOf2_some {v : AV} {l : Option (List Value)} {r : List Value} (h : litOf2 v l = some r) : ∃ x t, v = .lit x ∧ l = some t ∧ r = x :: t := by
  unfold litOf2 at h
  split at h
  · injection h with h; exact ⟨_, _, rfl, rfl, h.symm⟩
  · cases h
theorem lits_some : ∀ {vs : List AV} {l : List Value}, lits vs = some l → vs = l.map .lit
  | [], l, h => by
    have : (some [] : Option (List Value)) = some l := h
    injection this with h; subst h; rfl
  | v :: vs, l, h => by
    have h' : litOf2 v (lits vs) = some l := h
    obtain ⟨x, t, rfl, ht, rfl⟩ := litOf2_some h'
    rw [lits_some ht]; rfl
theorem VRels.lits_eq {vs : List AV} {xs l : List Value} (h : VRels R vs xs) (hl : lits vs = some l) : xs = l := by
  rw [lits_some hl] at h
  clear hl
  induction l generalizing xs with
  | nil => simpa only [List.map_nil, VRels] using h
  | cons a l ih =>
    simp only [List.map_cons, VRels] at h
    obtain ⟨y, ys, rfl, r, q⟩ := h
    rw [VRel.lit_eq r, ih q]
theorem VRel.mkAgg {vs : List AV} {cs : List Value} (h : VRels R vs cs) : VRel R (mkAgg vs) (.agg cs.toArray) := by
  unfold Go.Proofs.YtackmbfbilbopaaGreatDoor.mkAgg
  cases hl : lits vs with
  | none => simp only [VRel]; exact ⟨cs, h, rfl⟩
  | some l => rw [h.lits_eq hl]; exact VRel.lit_ _
theorem VRel.mkTup {vs : List AV} {cs : List Value} (h : VRels R vs cs) : VRel R (mkTup vs) (.tuple cs.toArray) := by
  unfold Go.Proofs.YtackmbfbilbopaaGreatDoor.mkTup
  cases hl : lits vs with
  | none => simp only [VRel]; exact ⟨cs, h, rfl⟩
  | some l => rw [h.lits_eq hl]; exact VRel.lit_ _
theorem VRel.cells_ {v : AV} {x : Value} (h : VRel R v x) : VRels R v.cells x.cells.toList := by
  have one : ∀ {v : AV} {x : Value}, VRel R v x → x.cells = #[x] → VRels R [v] x.cells.toList := fun h e => by
    rw [e]; exact VRels.cons h VRels.nil
  cases v with
  | lit v =>
    have e := VRel.lit_eq h
    subst e
    cases x <;> first
      | exact one (VRel.lit_ _) rfl
      | (simp only [AV.cells, mapL_eq, Value.cells]; exact VRels.lits_ _)
  | agg vs =>
    simp only [VRel] at h
    obtain ⟨cs, r, rfl⟩ := h
    simpa [AV.cells, Value.cells] using r
  | ptr k off => have h' := h; simp only [VRel] at h'; obtain ⟨_, _, _, e⟩ := h'; exact one h (by rw [e]; rfl)
  | sl k off len c sz =>
    have h' := h
    cases c with
    | none => simp only [VRel] at h'; obtain ⟨_, _, _, _, _, _, e⟩ := h'; exact one h (by rw [e]; rfl)
    | some c => simp only [VRel] at h'; obtain ⟨_, _, _, e⟩ := h'; exact one h (by rw [e]; rfl)
  | emp => have h' := h; simp only [VRel] at h'; obtain ⟨_, _, e⟩ := h'; exact one h (by rw [e]; rfl)
  | tup vs => have h' := h; simp only [VRel] at h'; obtain ⟨_, _, e⟩ := h'; exact one h (by rw [e]; rfl)
  | ifc t v => have h' := h; simp only [VRel] at h'; obtain ⟨_, _, e⟩ := h'; exact one h (by rw [e]; rfl)
  | fn f a b => have h' := h; simp only [VRel] at h'; obtain ⟨_, _, _, _, e⟩ := h'; exact one h (by rw [e]; rfl)
  | sym i =>
    have h' := h
    simp only [VRel] at h'
    have hf := Env.flat i
    rw [← h'] at hf
    exact one h (by cases x <;> first | rfl | cases hf)
  | row n o a => simp only [VRel] at h
theorem VRel.one_ {v : AV} {x : Value} (h : VRel R v x) (h1 : v.one = true) : x.oneCell' = true := by
  cases v with
  | lit v =>
    have e := VRel.lit_eq h
    subst e
    cases x <;> first | rfl | cases h1
  | agg vs => cases h1
  | tup vs => cases h1
  | ptr k off => simp only [VRel] at h; obtain ⟨_, _, _, e⟩ := h; rw [e]; rfl
  | sl k off len c sz =>
    cases c with
    | none => simp only [VRel] at h; obtain ⟨_, _, _, _, _, _, e⟩ := h; rw [e]; rfl
    | some c => simp only [VRel] at h; obtain ⟨_, _, _, e⟩ := h; rw [e]; rfl
  | emp => simp only [VRel] at h; obtain ⟨_, _, e⟩ := h; rw [e]; rfl
  | ifc t v => simp only [VRel] at h; obtain ⟨_, _, e⟩ := h; rw [e]; rfl
  | fn f a b => simp only [VRel] at h; obtain ⟨_, _, _, _, e⟩ := h; rw [e]; rfl
  | sym i => simp only [VRel] at h; rw [h]; exact Env.flat i
  | row n o a => simp only [VRel] at h
theorem VRels.ones : ∀ {vs : List AV} {xs : List Value}, VRels R vs xs → vs.all (·.one) = true → ∀ x ∈ xs, x.oneCell' = true
  | [], xs, h, _, x, hx => by simp only [VRels] at h; subst h; cases hx
  | v :: vs, xs, h, h1, x, hx => by
    simp only [VRels] at h
    obtain ⟨y, ys, rfl, r, q⟩ := h
    simp only [List.all_cons, Bool.and_eq_true] at h1
    rcases List.mem_cons.1 hx with rfl | hx
    · exact r.one_ h1.1
    · exact VRels.ones q h1.2 x hx
end
/-! ### Memory -/
theorem upd_cons (k : Nat) (b : List AV) (p : Nat × List AV) (h : List (Nat × List AV)) : upd k b (p :: h) = if p.1 = k then (p.1, b) :: h else p :: upd k b h := by
  show (Bool.rec (p :: upd k b h) ((p.1, b) :: h) (Nat.beq p.1 k) : List (Nat × List AV)) = _
  cases hb : Nat.beq p.1 k with
  | true => rw [if_pos (Nat.eq_of_beq_eq_true hb)]
  | false => rw [if_neg (Nat.ne_of_beq_eq_false hb)]
theorem kill_cons (k : Nat) (p : Nat × List AV) (h : List (Nat × List AV)) : kill k (p :: h) = if p.1 = k then kill k h else p :: kill k h := by
  show (Bool.rec (p :: kill k h) (kill k h) (Nat.beq p.1 k) : List (Nat × List AV)) = _
  cases hb : Nat.beq p.1 k with
  | true => rw [if_pos (Nat.eq_of_beq_eq_true hb)]
  | false => rw [if_neg (Nat.ne_of_beq_eq_false hb)]
theorem dropNew_cons (n : Nat) (p : Nat × List AV) (h : List (Nat × List AV)) : dropNew n (p :: h) = if n ≤ p.1 then dropNew n h else p :: dropNew n h := by
  show (Bool.rec (p :: dropNew n h) (dropNew n h) (Nat.ble n p.1) : List (Nat × List AV)) = _
  cases hb : Nat.ble n p.1 with
  | true => rw [if_pos (Nat.le_of_ble_eq_true hb)]
  | false => rw [if_neg (fun h => by rw [Nat.ble_eq_true_of_le h] at hb; cases hb)]
theorem look_upd_same {k : Nat} {b c : List AV} : ∀ {h : List (Nat × List AV)}, look k h = some c → look k (upd k b h) = some b
  | [], e => by cases e
  | p :: h, e => by
    rw [upd_cons]
    rw [look_cons] at e
    split
    · rename_i hp; rw [look_cons, if_pos hp]
    · rename_i hp; rw [if_neg hp] at e; rw [look_cons, if_neg hp]; exact look_upd_same e
theorem look_upd_ne {j k : Nat} (hjk : j ≠ k) {b : List AV} : ∀ {h : List (Nat × List AV)}, look j (upd k b h) = look j h
  | [] => rfl
  | p :: h => by
    rw [upd_cons]
    split
    · rename_i hp
      rw [look_cons, look_cons]
      have : ¬ p.1 = j := fun e => hjk (e.symm.trans hp)
      rw [if_neg this, if_neg this]
    · rw [look_cons, look_cons, look_upd_ne hjk]
theorem look_upd_some {j k : Nat} {b c B : List AV} {h : List (Nat × List AV)} (hk : look k h = some c) (e : look j (upd k b h) = some B) : ∃ B', look j h = some B' := by
  by_cases hjk : j = k
  · subst hjk; exact ⟨c, hk⟩
  · rw [look_upd_ne hjk] at e; exact ⟨B, e⟩
theorem look_kill_ne {j k : Nat} (hjk : j ≠ k) : ∀ {h : List (Nat × List AV)}, look j (kill k h) = look j h
  | [] => rfl
  | p :: h => by
    rw [kill_cons]
    split
    · rename_i hp
      have : ¬ p.1 = j := fun e => hjk (e.symm.trans hp)
      rw [look_cons, if_neg this, look_kill_ne hjk]
    · rw [look_cons, look_cons, look_kill_ne hjk]
theorem look_kill_same {k : Nat} : ∀ {h : List (Nat × List AV)}, look k (kill k h) = none
  | [] => rfl
  | p :: h => by
    rw [kill_cons]
    split
    · exact look_kill_same
    · rename_i hp; rw [look_cons, if_neg hp, look_kill_same]
theorem look_kill_some {j k : Nat} {B : List AV} {h : List (Nat × List AV)} (e : look j (kill k h) = some B) : j ≠ k ∧ look j h = some B := by
  by_cases hjk : j = k
  · subst hjk; rw [look_kill_same] at e; cases e
  · rw [look_kill_ne hjk] at e; exact ⟨hjk, e⟩
theorem look_dropNew_some {j n : Nat} {B : List AV} : ∀ {h : List (Nat × List AV)}, look j (dropNew n h) = some B → look j h = some B
  | [], e => by cases e
  | p :: h, e => by
    rw [dropNew_cons] at e
    split at e
    · rename_i hp
      have e' := look_dropNew_some e
      rw [look_cons]
      split
      · rename_i hpj
        have : look j (dropNew n h) = none := by
          clear e e'
          induction h with
          | nil => rfl
          | cons q h ih =>
            rw [dropNew_cons]
            split
            · exact ih
            · rename_i hq; rw [look_cons, if_neg (by omega), ih]
        rw [this] at e; cases e
      · exact e'
    · rw [look_cons] at e ⊢
      split at e
      · rename_i hp; rw [if_pos hp]; exact e
      · rename_i hp; rw [if_neg hp]; exact look_dropNew_some e
def BRel (R : Rho) (B : List AV) (w : World) (b T : Nat) : Prop :=
  ∃ C e fz, w.heap[b]? = some (.cells C e fz) ∧ C.size = T ∧ B.length ≤ T ∧ VRels R B (C.toList.take B.length) ∧ ∀ i, i < T → (decide (fz.1 ≤ i) && decide (i < fz.2)) = false
structure WRel (R : Rho) (s : AS) (w : World) : Prop where
  fn : ∀ {k b T b' T'}, R k b T → R k b' T' → b = b' ∧ T = T'
  dom : ∀ {k b T}, R k b T → k < s.n ∧ b < w.heap.size
  inj : ∀ {k k' b T T' B B'}, look k s.h = some B → look k' s.h = some B' → R k b T → R k' b T' → k = k'
  blk : ∀ {k B}, look k s.h = some B → ∃ b T, R k b T ∧ BRel R B w b T
structure Inv (R : Rho) (s : AS) (w : World) (floor base : Nat) : Prop where
  rel : WRel R s w
  hb : base ≤ w.heap.size
  hf : floor ≤ s.n
  own : ∀ {k b T}, R k b T → floor ≤ k → base ≤ b
  glo : ∀ {g B}, look g s.gl = some B → g < base ∧ ∀ i v, B[i]? = some v → ∃ u, v = .lit u ∧ w.cell? ⟨g, i, none⟩ = some u
  kgl : s.gl = Env.gl
theorem BRel.ext {R R' : Rho} (h : Ext R R') {B : List AV} {w : World} {b T : Nat} : BRel R B w b T → BRel R' B w b T :=
  fun ⟨C, e, fz, h1, h2, h3, h4, h5⟩ => ⟨C, e, fz, h1, h2, h3, h4.ext h, h5⟩
theorem BRel.of_block {R : Rho} {B : List AV} {w w' : World} {b T : Nat} (h : BRel R B w b T) (he : w'.heap[b]? = w.heap[b]?) : BRel R B w' b T :=
  let ⟨C, e, fz, h1, h2⟩ := h
  ⟨C, e, fz, he.trans h1, h2⟩
theorem BRel.cell {R : Rho} {B : List AV} {w : World} {b T : Nat} (h : BRel R B w b T) {i : Nat} {v : AV} (hv : B[i]? = some v) : ∃ x, w.cell? ⟨b, i, none⟩ = some x ∧ VRel R v x := by
  obtain ⟨C, e, fz, h1, h2, h3, h4, h5⟩ := h
  obtain ⟨x, hx, hr⟩ := h4.get hv
  have hi : i < B.length := (List.getElem?_eq_some_iff.1 hv).1
  refine ⟨x, ?_, hr⟩
  rw [List.getElem?_take_of_lt hi] at hx
  simpa [World.cell?, h1] using hx
theorem BRel.there {R : Rho} {B : List AV} {w : World} {b T : Nat} (h : BRel R B w b T) {o n : Nat} (hn : o + n ≤ T) : w.there b o n := by
  obtain ⟨C, e, fz, h1, h2, h3, h4, h5⟩ := h
  intro j hj
  have := h5 (o + j) (by omega)
  refine ⟨?_, ?_⟩
  · simp [World.cell?, h1]; omega
  · simpa [World.frozen?, h1] using this
theorem Inv.glo_below {R : Rho} {s : AS} {w w' : World} {f b : Nat} (h : Inv R s w f b) {g : Nat} {B : List AV} (hg : look g s.gl = some B) (hb : Below b w w') : g < b ∧ ∀ i v, B[i]? = some v → ∃ u, v = .lit u ∧ w'.cell? ⟨g, i, none⟩ = some u :=
  ⟨(h.glo hg).1, fun i v hv => let ⟨u, e, hc⟩ := (h.glo hg).2 i v hv; ⟨u, e, (hb.cell (p := ⟨g, i, none⟩) (h.glo hg).1).trans hc⟩⟩
theorem Inv.same {R : Rho} {s : AS} {w w' : World} {f b : Nat} (h : Inv R s w f b) (he : w'.heap = w.heap) : Inv R s w' f b :=
  ⟨⟨h.rel.fn, fun r => by rw [he]; exact h.rel.dom r, h.rel.inj, fun hk => let ⟨b, T, r, q⟩ := h.rel.blk hk; ⟨b, T, r, q.of_block (by rw [he])⟩⟩, by rw [he]; exact h.hb, h.hf, h.own, fun {g B} hg => ⟨(h.glo hg).1, fun i v hv => let ⟨u, e, hc⟩ := (h.glo hg).2 i v hv; ⟨u, e, (World.cell?_of_block (a := ⟨g, i, none⟩) (show w'.heap[g]? = w.heap[g]? by rw [he])).trans hc⟩⟩, h.kgl⟩
theorem WRel.below {R : Rho} {s : AS} {w w' : World} (h : WRel R s w) (hb : Below w.heap.size w w') : WRel R s w' :=
  ⟨h.fn, fun r => ⟨(h.dom r).1, Nat.lt_of_lt_of_le (h.dom r).2 hb.size⟩, h.inj, fun hk => let ⟨b, T, r, q⟩ := h.blk hk; ⟨b, T, r, q.of_block (hb.block b (h.dom r).2)⟩⟩
theorem Inv.globs {R : Rho} {s : AS} {w : World} {f b : Nat} (h : Inv R s w f b) : Globs Env.gl w := fun g B hB => by
  rw [← h.kgl] at hB
  obtain ⟨h1, h2⟩ := h.glo hB
  exact ⟨Nat.lt_of_lt_of_le h1 h.hb, h2⟩
structure Went (R R' : Rho) (s s' : AS) (w w' : World) (floor base : Nat) : Prop where
  ext : Ext R R'
  old : ∀ {k b T}, R' k b T → k < s.n → R k b T
  num : s.n ≤ s'.n
  keep : ∀ k, k < floor → look k s'.h = look k s.h
  inv : Inv R' s' w' floor base
  below : Below base w w'
  fresh : ∀ {k b T}, R' k b T → (∃ k0 T0, R k0 b T0) ∨ w.heap.size ≤ b
  more : ∀ k ∈ s.wr, k ∈ s'.wr
  wrote : ∀ {k b T B}, look k s.h = some B → R k b T → k ∉ s'.wr → w'.heap[b]? = w.heap[b]? ∧ look k s'.h = look k s.h
  other : ∀ b, b < w.heap.size → (∀ k T, ¬ R' k b T) → w'.heap[b]? = w.heap[b]?
theorem hasN_iff {l : List Nat} {k : Nat} : hasN l k = true ↔ k ∈ l := by
  induction l with
  | nil => exact ⟨fun h => (by cases h), fun h => (by cases h)⟩
  | cons a l ih =>
    show (Bool.rec (hasN l k) true (Nat.beq a k) : Bool) = true ↔ _
    cases hb : Nat.beq a k with
    | true => have := Nat.eq_of_beq_eq_true hb; subst this; simp
    | false =>
      have := Nat.ne_of_beq_eq_false hb
      rw [List.mem_cons]
      exact ⟨fun h => .inr (ih.1 h), fun h => h.elim (fun e => absurd e.symm this) ih.2⟩
theorem addW_iff {l : List Nat} {k j : Nat} : j ∈ addW k l ↔ j = k ∨ j ∈ l := by
  unfold addW
  split
  · rename_i h
    have := hasN_iff.1 h
    exact ⟨.inr, fun h => h.elim (fun e => e ▸ this) id⟩
  · exact List.mem_cons
theorem unionW_iff {l m : List Nat} {j : Nat} : j ∈ unionW l m ↔ j ∈ l ∨ j ∈ m := by
  induction l with
  | nil => exact ⟨.inr, fun h => h.elim (fun h => by cases h) id⟩
  | cons a l ih =>
    show j ∈ addW a (unionW l m) ↔ _
    rw [addW_iff, ih, List.mem_cons, or_assoc]
theorem oldW_iff {n : Nat} {l : List Nat} {j : Nat} : j ∈ oldW n l ↔ j ∈ l ∧ j < n := by
  induction l with
  | nil => exact ⟨fun h => (by cases h), fun h => (by cases h.1)⟩
  | cons a l ih =>
    show j ∈ (Bool.rec (a :: oldW n l) (oldW n l) (Nat.ble n a) : List Nat) ↔ _
    cases hb : Nat.ble n a with
    | true =>
      have := Nat.le_of_ble_eq_true hb
      rw [List.mem_cons]
      exact ⟨fun h => ⟨.inr (ih.1 h).1, (ih.1 h).2⟩, fun ⟨h, h2⟩ => h.elim (fun e => by omega) (fun h => ih.2 ⟨h, h2⟩)⟩
    | false =>
      have : ¬ n ≤ a := fun h => by rw [Nat.ble_eq_true_of_le h] at hb; cases hb
      show j ∈ a :: oldW n l ↔ _
      rw [List.mem_cons, List.mem_cons, ih]
      exact ⟨fun h => h.elim (fun e => ⟨.inl e, by omega⟩) (fun h => ⟨.inr h.1, h.2⟩), fun ⟨h, h2⟩ => h.elim .inl (fun h => .inr ⟨h, h2⟩)⟩
theorem Went.refl {R : Rho} {s : AS} {w : World} {f b : Nat} (h : Inv R s w f b) : Went R R s s w w f b := ⟨Ext.refl _, fun r _ => r, Nat.le_refl _, fun _ _ => rfl, h, Below.refl _ _, fun r => .inl ⟨_, _, r⟩, fun _ h => h, fun _ _ _ => ⟨rfl, rfl⟩, fun _ _ _ => rfl⟩
theorem Went.trans {R R' R'' : Rho} {s s' s'' : AS} {w w' w'' : World} {f b : Nat} (h : Went R R' s s' w w' f b) (h' : Went R' R'' s' s'' w' w'' f b) : Went R R'' s s'' w w'' f b :=
  ⟨h.ext.trans h'.ext, fun r hk => h.old (h'.old r (Nat.lt_of_lt_of_le hk h.num)) hk, Nat.le_trans h.num h'.num, fun k hk => (h'.keep k hk).trans (h.keep k hk), h'.inv, h.below.trans h'.below, fun r => by
    rcases h'.fresh r with ⟨k0, T0, r0⟩ | hb
    · exact h.fresh r0
    · exact .inr (Nat.le_trans h.below.size hb), fun k hk => h'.more k (h.more k hk), fun hk r hn => by
    obtain ⟨a1, a2⟩ := h.wrote hk r (fun hc => hn (h'.more _ hc))
    obtain ⟨b1, b2⟩ := h'.wrote (a2.trans hk) (h.ext _ _ _ r) hn
    exact ⟨b1.trans a1, b2.trans a2⟩, fun b hb hn => (h'.other b (Nat.lt_of_lt_of_le hb h.below.size) hn).trans (h.other b hb (fun k T r => hn k T (h'.ext _ _ _ r)))⟩
theorem Inv.new {R : Rho} {s : AS} {w w2 : World} {f b : Nat} (h : Inv R s w f b) {B : List AV} {C : Array Value} {e : TypeId} {fz : Nat × Nat} (hw : w2.heap = w.heap.push (.cells C e fz))
    (ho : w2.os = w.os ∧ w2.tape = w.tape ∧ w2.output = w.output) (hB : VRels R B (C.toList.take B.length)) (hl : B.length ≤ C.size) (hfz : ∀ i, i < C.size → (decide (fz.1 ≤ i) && decide (i < fz.2)) = false) :
    ∃ R', R' s.n w.heap.size C.size ∧ Went R R' s (newB s B) w w2 f b ∧ Below w.heap.size w w2 := by
  have hsz : w2.heap.size = w.heap.size + 1 := by rw [hw]; simp
  have hbl : Below w.heap.size w w2 := ⟨ho.1, ho.2.1, ho.2.2, by omega, fun k hk => by rw [hw, Array.getElem?_push, if_neg (by omega)]⟩
  let R' : Rho := fun k b T => R k b T ∨ (k = s.n ∧ b = w.heap.size ∧ T = C.size)
  have hx : Ext R R' := fun _ _ _ r => .inl r
  have hf := h.hf
  have hlook : ∀ {k B1}, look k (newB s B).h = some B1 → (k = s.n ∧ B1 = B) ∨ (k ≠ s.n ∧ look k s.h = some B1) := by
    intro k B1 h1
    change look k ((s.n, B) :: s.h) = _ at h1
    rw [look_cons] at h1
    split at h1
    · rename_i hk
      injection h1 with h1
      exact .inl ⟨hk.symm, h1.symm⟩
    · rename_i hk
      exact .inr ⟨fun e => hk e.symm, h1⟩
  refine ⟨R', .inr ⟨rfl, rfl, rfl⟩, ⟨hx, ?_, by show s.n ≤ s.n + 1; omega, ?_, ⟨⟨?_, ?_, ?_, ?_⟩, ?_, by show f ≤ s.n + 1; omega, ?_, fun hg => h.glo_below hg (hbl.mono h.hb), h.kgl⟩, hbl.mono h.hb, fun r => by
    rcases r with r | ⟨_, rfl, _⟩
    · exact .inl ⟨_, _, r⟩
    · exact .inr (Nat.le_refl _), fun _ h => h, fun {k b T B1} hk r _ => ⟨hbl.block b (h.rel.dom r).2, by
      have := (h.rel.dom r).1
      show look k ((s.n, B) :: s.h) = _
      rw [look_cons, if_neg (by omega)]⟩, fun b hb _ => hbl.block b hb⟩, hbl⟩
  · rintro k b T (r | ⟨rfl, rfl, rfl⟩) hk
    · exact r
    · omega
  · intro k hk
    show look k ((s.n, B) :: s.h) = _
    rw [look_cons, if_neg (by show ¬ s.n = k; omega)]
  · rintro k b T b' T' (r | ⟨rfl, rfl, rfl⟩) (r' | ⟨e1, rfl, rfl⟩)
    · exact h.rel.fn r r'
    · have := (h.rel.dom r).1; omega
    · have := (h.rel.dom r').1; omega
    · exact ⟨rfl, rfl⟩
  · rintro k b T (r | ⟨rfl, rfl, rfl⟩)
    · have := h.rel.dom r
      exact ⟨by show k < s.n + 1; omega, by omega⟩
    · exact ⟨by show s.n < s.n + 1; omega, by omega⟩
  · rintro k k' b T T' B1 B2 h1 h2 (r | ⟨rfl, rfl, rfl⟩) (r' | ⟨e1, e2, e3⟩)
    · have hk := (h.rel.dom r).1
      have hk' := (h.rel.dom r').1
      rcases hlook h1 with ⟨e, _⟩ | ⟨_, h1⟩
      · omega
      rcases hlook h2 with ⟨e, _⟩ | ⟨_, h2⟩
      · omega
      exact h.rel.inj h1 h2 r r'
    · have := (h.rel.dom r).2; omega
    · have := (h.rel.dom r').2; omega
    · exact e1.symm
  · intro k B1 h1
    rcases hlook h1 with ⟨rfl, rfl⟩ | ⟨_, h1⟩
    · exact ⟨w.heap.size, C.size, .inr ⟨rfl, rfl, rfl⟩, C, e, fz, by rw [hw]; simp, rfl, hl, hB.ext hx, hfz⟩
    · obtain ⟨b, T, r, q⟩ := h.rel.blk h1
      exact ⟨b, T, .inl r, (q.ext hx).of_block (hbl.block b (h.rel.dom r).2)⟩
  · have := h.hb
    omega
  · rintro k b T (r | ⟨rfl, rfl, rfl⟩) hf
    · exact h.own r hf
    · exact h.hb
theorem setCells_heap_same (b : Nat) : ∀ (vs : List Value) (o : Nat) (w : World) (C : Array Value) (e : TypeId) (fz : Nat × Nat), w.heap[b]? = some (.cells C e fz) → o + vs.length ≤ C.size →
    ∃ C', (w.setCells b o vs).heap[b]? = some (.cells C' e fz) ∧ C'.size = C.size ∧ C'.toList = C.toList.take o ++ vs ++ C.toList.drop (o + vs.length)
  | [], o, w, C, e, fz, h, hl => ⟨C, h, rfl, by simp⟩
  | v :: vs, o, w, C, e, fz, h, hl => by
    have hl' : o + (vs.length + 1) ≤ C.size := hl
    have h1 : (w.setCell ⟨b, o, none⟩ v).heap[b]? = some (.cells (C.setIfInBounds o v) e fz) := by
      simp [World.setCell, Array.getElem?_modify, h]
    obtain ⟨C', h2, h3, h4⟩ := setCells_heap_same b vs (o + 1) _ (C.setIfInBounds o v) e fz h1 (by simp; omega)
    refine ⟨C', h2, by rw [h3]; simp, ?_⟩
    rw [h4, Array.toList_setIfInBounds, List.length_cons]
    apply List.ext_getElem?
    intro i
    simp only [List.getElem?_append, List.length_append, List.length_take, List.length_set, List.length_cons, List.getElem?_take, List.getElem?_set, List.getElem?_drop, Array.length_toList]
    rcases Nat.lt_trichotomy i o with hi | hi | hi
    · rw [if_pos (by omega), if_pos (by omega), if_pos (by omega), if_neg (by omega), if_pos (by omega), if_pos (by omega), if_pos (by omega)]
    · subst hi
      rw [if_pos (by omega), if_pos (by omega), if_pos (by omega), if_pos rfl, if_pos (by omega), if_pos (by omega), if_neg (by omega)]
      simp [Nat.min_eq_left (show i ≤ C.size by omega)]
    · by_cases hi2 : i < o + 1 + vs.length
      · rw [if_pos (by omega), if_neg (by omega), if_pos (by omega), if_neg (by omega)]
        rw [Nat.min_eq_left (by omega), Nat.min_eq_left (by omega), show i - o = (i - (o + 1)) + 1 by omega, List.getElem?_cons_succ]
      · rw [if_neg (by omega), if_neg (by omega)]
        rw [if_neg (by omega)]
        congr 1
        omega
theorem setCells_size (b : Nat) : ∀ (vs : List Value) (o : Nat) (w : World), (w.setCells b o vs).heap.size = w.heap.size
  | [], o, w => rfl
  | v :: vs, o, w => by rw [World.setCells, setCells_size b vs (o + 1)]; simp [World.setCell]
theorem setCells_rest (b : Nat) : ∀ (vs : List Value) (o : Nat) (w : World), (w.setCells b o vs).os = w.os ∧ (w.setCells b o vs).tape = w.tape ∧ (w.setCells b o vs).output = w.output
  | [], o, w => ⟨rfl, rfl, rfl⟩
  | v :: vs, o, w => by rw [World.setCells]; exact setCells_rest b vs (o + 1) _
theorem setCells_heap_ne (b : Nat) : ∀ (vs : List Value) (o : Nat) (w : World) (k : Nat), k ≠ b → (w.setCells b o vs).heap[k]? = w.heap[k]?
  | [], o, w, k, hk => rfl
  | v :: vs, o, w, k, hk => by
    rw [World.setCells, setCells_heap_ne b vs (o + 1) _ k hk]
    exact Below.heap_setCell _ _ _ _ hk
theorem setCells_below {b base : Nat} (w : World) (o : Nat) (vs : List Value) (hb : base ≤ b) : Below base w (w.setCells b o vs) :=
  ⟨(setCells_rest b vs o w).1, (setCells_rest b vs o w).2.1, (setCells_rest b vs o w).2.2, by rw [setCells_size]; exact Nat.le_refl _, fun k hk => setCells_heap_ne b vs o w k (by omega)⟩
theorem Inv.put {R : Rho} {s : AS} {w : World} {f base : Nat} (h : Inv R s w f base) {k b T o : Nat} {B vs : List AV} {xs : List Value} (hk : look k s.h = some B) (r : R k b T)
    (hv : VRels R vs xs) (hl : o + vs.length ≤ B.length) (hfl : f ≤ k) :
    Inv R ⟨s.n, upd k (B.take o ++ vs ++ B.drop (o + vs.length)) s.h, addW k s.wr, s.gl⟩ (w.setCells b o xs) f base := by
  have hxl := hv.length
  refine ⟨⟨h.rel.fn, fun r => by rw [setCells_size]; exact h.rel.dom r, ?_, ?_⟩, by rw [setCells_size]; exact h.hb, h.hf, h.own, fun hg => h.glo_below hg (setCells_below w o xs (h.own r hfl)), h.kgl⟩
  · intro k1 k2 b1 T1 T2 B1 B2 h1 h2 r1 r2
    obtain ⟨B1', h1'⟩ := look_upd_some hk h1
    obtain ⟨B2', h2'⟩ := look_upd_some hk h2
    exact h.rel.inj h1' h2' r1 r2
  · intro j B1 h1
    by_cases hj : j = k
    · subst hj
      change look j (upd j _ s.h) = _ at h1
      rw [look_upd_same hk] at h1
      injection h1 with h1
      subst h1
      obtain ⟨b', T', r', C, e, fz, hC, hT, hBl, hBr, hfz⟩ := h.rel.blk hk
      obtain ⟨rfl, rfl⟩ := h.rel.fn r r'
      obtain ⟨C', h2, h3, h4⟩ := setCells_heap_same b xs o w C e fz hC (by omega)
      have hlen : (B.take o ++ vs ++ B.drop (o + vs.length)).length = B.length := by
        simp only [List.length_append, List.length_take, List.length_drop]; omega
      refine ⟨b, T, r, C', e, fz, h2, by omega, by omega, ?_, hfz⟩
      rw [hlen, h4]
      have e1 : (C.toList.take o ++ xs ++ C.toList.drop (o + xs.length)).take B.length = (C.toList.take B.length).take o ++ xs ++ (C.toList.take B.length).drop (o + vs.length) := by
        have hcl : B.length ≤ C.toList.length := by simp; omega
        apply List.ext_getElem?
        intro i
        simp only [List.getElem?_take, List.getElem?_append, List.length_append, List.length_take, List.getElem?_drop, hxl]
        by_cases hi : i < B.length
        · rw [if_pos hi, Nat.min_eq_left (show o ≤ C.toList.length by omega), Nat.min_eq_left (show o ≤ min B.length C.toList.length by omega)]
          by_cases hi2 : i < o + vs.length
          · rw [if_pos hi2, if_pos hi2]
            split
            · first | rfl | rw [if_pos (by omega), if_pos (by omega), if_pos (by omega)] | rw [if_pos (by omega), if_pos (by omega)] | rw [if_pos (by omega)]
            · rfl
          · rw [if_neg hi2, if_neg hi2, if_pos (by omega)]
        · rw [if_neg hi, Nat.min_eq_left (show o ≤ min B.length C.toList.length by omega)]
          rw [if_neg (by omega), if_neg (by omega)]
      rw [e1]
      exact ((hBr.take o).append hv).append (hBr.drop _)
    · change look j (upd k _ s.h) = _ at h1
      rw [look_upd_ne hj] at h1
      obtain ⟨b', T', r', q⟩ := h.rel.blk h1
      refine ⟨b', T', r', q.of_block (setCells_heap_ne b xs o w b' ?_)⟩
      rintro rfl
      exact hj (h.rel.inj h1 hk r' r)
theorem Inv.move {R : Rho} {s : AS} {w : World} {f base : Nat} (h : Inv R s w f base) {k b T o : Nat} {B new : List AV} {xs : List Value} (hk : look k s.h = some B) (r : R k b T)
    (hv : VRels R new xs) (ho : o ≤ B.length) (hl : o + new.length ≤ T) (hfl : f ≤ k) :
    ∃ R', R' s.n b T ∧ Went R R' s (newB ⟨s.n, kill k s.h, addW k s.wr, s.gl⟩ (B.take o ++ new)) w (w.setCells b o xs) f base := by
  have hxl := hv.length
  have hks := (h.rel.dom r).1
  let R' : Rho := fun j c U => R j c U ∨ (j = s.n ∧ c = b ∧ U = T)
  have hx : Ext R R' := fun _ _ _ r => .inl r
  have hf := h.hf
  have hlook : ∀ {j B1}, look j (newB ⟨s.n, kill k s.h, addW k s.wr, s.gl⟩ (B.take o ++ new)).h = some B1 → (j = s.n ∧ B1 = B.take o ++ new) ∨ (j ≠ s.n ∧ j ≠ k ∧ look j s.h = some B1) := by
    intro j B1 h1
    change look j ((s.n, B.take o ++ new) :: kill k s.h) = _ at h1
    rw [look_cons] at h1
    split at h1
    · rename_i hj
      injection h1 with h1
      exact .inl ⟨hj.symm, h1.symm⟩
    · rename_i hj
      obtain ⟨h2, h3⟩ := look_kill_some h1
      exact .inr ⟨fun e => hj e.symm, h2, h3⟩
  refine ⟨R', .inr ⟨rfl, rfl, rfl⟩, ⟨hx, ?_, by show s.n ≤ s.n + 1; omega, ?_, ⟨⟨?_, ?_, ?_, ?_⟩, by rw [setCells_size]; exact h.hb, by show f ≤ s.n + 1; omega, ?_, fun hg => h.glo_below hg (setCells_below w o xs (h.own r hfl)), h.kgl⟩, setCells_below w o xs (h.own r hfl), fun r1 => by
    rcases r1 with r1 | ⟨_, rfl, _⟩
    · exact .inl ⟨_, _, r1⟩
    · exact .inl ⟨_, _, r⟩, fun _ h => addW_iff.2 (.inr h), fun {j b1 T1 B1} hj r1 hn => by
      have hjk : j ≠ k := fun e => hn (addW_iff.2 (.inl e))
      have := (h.rel.dom r1).1
      refine ⟨setCells_heap_ne _ _ _ _ _ (fun e => hjk (h.rel.inj hj hk (e ▸ r1) r)), ?_⟩
      show look j ((s.n, _) :: kill k s.h) = _
      rw [look_cons, if_neg (by omega), look_kill_ne hjk], fun b1 _ hn => setCells_heap_ne _ _ _ _ _ (fun e => hn k T (.inl (e ▸ r)))⟩⟩
  · rintro j c U (r1 | ⟨rfl, rfl, rfl⟩) hj
    · exact r1
    · omega
  · intro j hj
    show look j ((s.n, B.take o ++ new) :: kill k s.h) = _
    rw [look_cons, if_neg (by show ¬ s.n = j; omega), look_kill_ne (by omega)]
  · rintro j c U c' U' (r1 | ⟨e1, e2, e3⟩) (r2 | ⟨e4, e5, e6⟩)
    · exact h.rel.fn r1 r2
    · have := (h.rel.dom r1).1; omega
    · have := (h.rel.dom r2).1; omega
    · exact ⟨e2.trans e5.symm, e3.trans e6.symm⟩
  · rintro j c U (r1 | ⟨e1, e2, e3⟩)
    · have := h.rel.dom r1
      rw [setCells_size]
      exact ⟨by show j < s.n + 1; omega, this.2⟩
    · have := h.rel.dom r
      rw [setCells_size]
      exact ⟨by show j < s.n + 1; omega, by omega⟩
  · rintro j j' c U U' B1 B2 h1 h2 (r1 | ⟨e1, e2, e3⟩) (r2 | ⟨e4, e5, e6⟩)
    · have hj := (h.rel.dom r1).1
      have hj' := (h.rel.dom r2).1
      rcases hlook h1 with ⟨e, _⟩ | ⟨_, _, h1⟩
      · omega
      rcases hlook h2 with ⟨e, _⟩ | ⟨_, _, h2⟩
      · omega
      exact h.rel.inj h1 h2 r1 r2
    · have hj := (h.rel.dom r1).1
      rcases hlook h1 with ⟨e, _⟩ | ⟨_, hjk, h1⟩
      · omega
      · subst e5; exact absurd (h.rel.inj h1 hk r1 r) hjk
    · have hj := (h.rel.dom r2).1
      rcases hlook h2 with ⟨e, _⟩ | ⟨_, hjk, h2⟩
      · omega
      · subst e2; exact absurd (h.rel.inj h2 hk r2 r) hjk
    · exact e1.trans e4.symm
  · intro j B1 h1
    rcases hlook h1 with ⟨rfl, rfl⟩ | ⟨_, hjk, h1⟩
    · obtain ⟨b', T', r', C, e, fz, hC, hT, hBl, hBr, hfz⟩ := h.rel.blk hk
      obtain ⟨rfl, rfl⟩ := h.rel.fn r r'
      obtain ⟨C', h2, h3, h4⟩ := setCells_heap_same b xs o w C e fz hC (by omega)
      have hlen : (B.take o ++ new).length = o + new.length := by simp only [List.length_append, List.length_take]; omega
      refine ⟨b, T, .inr ⟨rfl, rfl, rfl⟩, C', e, fz, h2, by omega, by omega, ?_, hfz⟩
      rw [hlen, h4]
      have e1 : (C.toList.take o ++ xs ++ C.toList.drop (o + xs.length)).take (o + new.length) = (C.toList.take B.length).take o ++ xs := by
        have hc : (C.toList.take o).length = o := by simp; omega
        rw [List.take_append_of_le_length (by simp; omega), List.take_of_length_le (by simp; omega), List.take_take, Nat.min_eq_left ho]
      rw [e1]
      exact ((hBr.take o).append hv).ext hx
    · obtain ⟨b', T', r', q⟩ := h.rel.blk h1
      exact ⟨b', T', .inl r', (q.ext hx).of_block (setCells_heap_ne b xs o w b' (fun e => hjk (h.rel.inj h1 hk (e ▸ r') r)))⟩
  · rintro j c U (r1 | ⟨e1, e2, e3⟩) hj
    · exact h.own r1 hj
    · subst e2; exact h.own r hfl
theorem Inv.put_went {R : Rho} {s : AS} {w : World} {f base : Nat} (h : Inv R s w f base) {k b T o : Nat} {B vs : List AV} {xs : List Value} (hk : look k s.h = some B) (r : R k b T)
    (hv : VRels R vs xs) (hl : o + vs.length ≤ B.length) (hfl : f ≤ k) :
    Went R R s ⟨s.n, upd k (B.take o ++ vs ++ B.drop (o + vs.length)) s.h, addW k s.wr, s.gl⟩ w (w.setCells b o xs) f base :=
  ⟨Ext.refl _, fun r _ => r, Nat.le_refl _, fun j hj => look_upd_ne (by omega), h.put hk r hv hl hfl, setCells_below w o xs (h.own r hfl), fun r => .inl ⟨_, _, r⟩, fun _ h => addW_iff.2 (.inr h), fun {j b1 T1 B1} hj r1 hn => by
    have hjk : j ≠ k := fun e => hn (addW_iff.2 (.inl e))
    exact ⟨setCells_heap_ne _ _ _ _ _ (fun e => hjk (h.rel.inj hj hk (e ▸ r1) r)), look_upd_ne hjk⟩, fun b1 _ hn => setCells_heap_ne _ _ _ _ _ (fun e => hn k T (e ▸ r))⟩
theorem Inv.wr_ {R : Rho} {s : AS} {w : World} {f b : Nat} (h : Inv R s w f b) (x : List Nat) : Inv R ⟨s.n, s.h, x, s.gl⟩ w f b := ⟨⟨h.rel.fn, h.rel.dom, h.rel.inj, h.rel.blk⟩, h.hb, h.hf, h.own, h.glo, h.kgl⟩
theorem Went.merge {R R' : Rho} {s s' : AS} {w w' : World} {f b : Nat} (h : Went R R' ⟨s.n, s.h, [], s.gl⟩ s' w w' f b) : Went R R' s ⟨s'.n, s'.h, unionW s'.wr s.wr, s'.gl⟩ w w' f b :=
  ⟨h.ext, h.old, h.num, h.keep, h.inv.wr_ _, h.below, h.fresh, fun _ hk => unionW_iff.2 (.inr hk), fun hk r hn => h.wrote hk r (fun hc => hn (unionW_iff.2 (.inl hc))), h.other⟩
theorem Inv.adopt {R : Rho} {s : AS} {w : World} {f base : Nat} (h : Inv R s w f base) {B : List AV} {C : Array Value} {e : TypeId} {fz : Nat × Nat} {p : Nat} (hp : w.heap[p]? = some (.cells C e fz)) (hpb : base ≤ p) (hno : ∀ k T, ¬ R k p T)
    (hB : VRels R B (C.toList.take B.length)) (hl : B.length ≤ C.size) (hfz : ∀ i, i < C.size → (decide (fz.1 ≤ i) && decide (i < fz.2)) = false) :
    Inv (fun k b T => R k b T ∨ (k = s.n ∧ b = p ∧ T = C.size)) (newB s B) w f base := by
  have hps : p < w.heap.size := by
    rcases Nat.lt_or_ge p w.heap.size with c | c
    · exact c
    · rw [Array.getElem?_eq_none c] at hp; cases hp
  have hx : Ext R (fun k b T => R k b T ∨ (k = s.n ∧ b = p ∧ T = C.size)) := fun _ _ _ r => .inl r
  have hf := h.hf
  have hlook : ∀ {k B1}, look k (newB s B).h = some B1 → (k = s.n ∧ B1 = B) ∨ (k ≠ s.n ∧ look k s.h = some B1) := by
    intro k B1 h1
    change look k ((s.n, B) :: s.h) = _ at h1
    rw [look_cons] at h1
    split at h1
    · rename_i hk
      injection h1 with h1
      exact .inl ⟨hk.symm, h1.symm⟩
    · rename_i hk
      exact .inr ⟨fun e => hk e.symm, h1⟩
  refine ⟨⟨?_, ?_, ?_, ?_⟩, h.hb, by show f ≤ s.n + 1; omega, ?_, h.glo, h.kgl⟩
  · rintro k b T b' T' (r | ⟨rfl, rfl, rfl⟩) (r' | ⟨e1, rfl, rfl⟩)
    · exact h.rel.fn r r'
    · have := (h.rel.dom r).1; omega
    · have := (h.rel.dom r').1; omega
    · exact ⟨rfl, rfl⟩
  · rintro k b T (r | ⟨rfl, rfl, rfl⟩)
    · have := h.rel.dom r
      exact ⟨by show k < s.n + 1; omega, this.2⟩
    · exact ⟨by show s.n < s.n + 1; omega, hps⟩
  · rintro k k' b T T' B1 B2 h1 h2 (r | ⟨rfl, rfl, rfl⟩) (r' | ⟨e1, e2, e3⟩)
    · have hk := (h.rel.dom r).1
      have hk' := (h.rel.dom r').1
      rcases hlook h1 with ⟨e, _⟩ | ⟨_, h1⟩
      · omega
      rcases hlook h2 with ⟨e, _⟩ | ⟨_, h2⟩
      · omega
      exact h.rel.inj h1 h2 r r'
    · subst e2; exact absurd r (hno _ _)
    · exact absurd r' (hno _ _)
    · exact e1.symm
  · intro k B1 h1
    rcases hlook h1 with ⟨rfl, rfl⟩ | ⟨_, h1⟩
    · exact ⟨p, C.size, .inr ⟨rfl, rfl, rfl⟩, C, e, fz, hp, rfl, hl, hB.ext hx, hfz⟩
    · obtain ⟨b, T, r, q⟩ := h.rel.blk h1
      exact ⟨b, T, .inl r, q.ext hx⟩
  · rintro k b T (r | ⟨rfl, rfl, rfl⟩) hk
    · exact h.own r hk
    · exact hpb
end Go.Proofs.YtackmbfbilbopaaGreatDoor
set_option linter.unusedSimpArgs false
namespace Go.Proofs.YtackmbfbilbopaaGreatDoor
open Go Go.RowKit
variable [Env]
section
variable {P : Program} {R : Rho}
def trHas : Tr → Nat → Prop
  | .lf, _ => False
  | .nd _ l r, i => i = 0 ∨ (i ≠ 0 ∧ i % 2 = 1 ∧ trHas l (i / 2)) ∨ (i ≠ 0 ∧ i % 2 ≠ 1 ∧ trHas r (i / 2 - 1))
theorem trGet_nd (v : AV) (l r : Tr) (i : Nat) : trGet (.nd v l r) i = if i = 0 then v else if i % 2 = 1 then trGet l (i / 2) else trGet r (i / 2 - 1) := by
  show (Bool.rec (Bool.rec (trGet r (i / 2 - 1)) (trGet l (i / 2)) (Nat.beq (i % 2) 1)) v (Nat.beq i 0) : AV) = _
  cases h : Nat.beq i 0 with
  | true => rw [if_pos (Nat.eq_of_beq_eq_true h)]
  | false =>
    rw [if_neg (Nat.ne_of_beq_eq_false h)]
    cases h2 : Nat.beq (i % 2) 1 with
    | true => rw [if_pos (Nat.eq_of_beq_eq_true h2)]
    | false => rw [if_neg (Nat.ne_of_beq_eq_false h2)]
theorem trSet_nd (v u : AV) (l r : Tr) (i : Nat) : trSet v (.nd u l r) i = if i = 0 then .nd v l r else if i % 2 = 1 then .nd u (trSet v l (i / 2)) r else .nd u l (trSet v r (i / 2 - 1)) := by
  show (Bool.rec (Bool.rec (.nd u l (trSet v r (i / 2 - 1))) (.nd u (trSet v l (i / 2)) r) (Nat.beq (i % 2) 1)) (.nd v l r) (Nat.beq i 0) : Tr) = _
  cases h : Nat.beq i 0 with
  | true => rw [if_pos (Nat.eq_of_beq_eq_true h)]
  | false =>
    rw [if_neg (Nat.ne_of_beq_eq_false h)]
    cases h2 : Nat.beq (i % 2) 1 with
    | true => rw [if_pos (Nat.eq_of_beq_eq_true h2)]
    | false => rw [if_neg (Nat.ne_of_beq_eq_false h2)]
theorem trGet_set {v : AV} : ∀ {t : Tr} {i j : Nat}, trHas t i → trGet (trSet v t i) j = if j = i then v else trGet t j
  | .lf, _, _, h => h.elim
  | .nd u l r, i, j, h => by
    rw [trSet_nd, trGet_nd u l r j]
    rcases h with rfl | ⟨h0, h1, h2⟩ | ⟨h0, h1, h2⟩
    · rw [if_pos rfl, trGet_nd]
      by_cases hj : j = 0
      · rw [if_pos hj, if_pos hj]
      · rw [if_neg hj, if_neg hj, if_neg hj]
    · rw [if_neg h0, if_pos h1, trGet_nd]
      by_cases hj : j = 0
      · rw [if_pos hj, if_neg (by omega), if_pos hj]
      · rw [if_neg hj, if_neg hj]
        by_cases hj1 : j % 2 = 1
        · rw [if_pos hj1, if_pos hj1, trGet_set h2]
          by_cases e : j = i
          · rw [if_pos (by rw [e]), if_pos e]
          · rw [if_neg (by omega), if_neg e]
        · rw [if_neg hj1, if_neg hj1, if_neg (by omega)]
    · rw [if_neg h0, if_neg h1, trGet_nd]
      by_cases hj : j = 0
      · rw [if_pos hj, if_neg (by omega), if_pos hj]
      · rw [if_neg hj, if_neg hj]
        by_cases hj1 : j % 2 = 1
        · rw [if_pos hj1, if_pos hj1, if_neg (by omega)]
        · rw [if_neg hj1, if_neg hj1, trGet_set h2]
          by_cases e : j = i
          · rw [if_pos (by rw [e]), if_pos e]
          · rw [if_neg (by omega), if_neg e]
theorem trHas_set {v : AV} : ∀ {t : Tr} {i j : Nat}, trHas t j → trHas (trSet v t i) j
  | .lf, _, _, h => h.elim
  | .nd u l r, i, j, h => by
    rw [trSet_nd]
    by_cases h0 : i = 0
    · rw [if_pos h0]; exact h
    · rw [if_neg h0]
      by_cases h1 : i % 2 = 1
      · rw [if_pos h1]
        rcases h with h | ⟨a, b, c⟩ | h
        · exact .inl h
        · exact .inr (.inl ⟨a, b, trHas_set c⟩)
        · exact .inr (.inr h)
      · rw [if_neg h1]
        rcases h with h | h | ⟨a, b, c⟩
        · exact .inl h
        · exact .inr (.inl h)
        · exact .inr (.inr ⟨a, b, trHas_set c⟩)
theorem trHas_full : ∀ (d : Nat) {i : Nat}, i + 1 < 2 ^ d → trHas (trFull d) i
  | 0, i, h => by omega
  | d + 1, i, h => by
    rw [Nat.pow_succ] at h
    show i = 0 ∨ _ ∨ _
    by_cases h0 : i = 0
    · exact .inl h0
    · by_cases h1 : i % 2 = 1
      · exact .inr (.inl ⟨h0, h1, trHas_full d (by omega)⟩)
      · exact .inr (.inr ⟨h0, h1, trHas_full d (by omega)⟩)
theorem trGet_full : ∀ (d : Nat) (i : Nat), trGet (trFull d) i = .lit undef
  | 0, _ => rfl
  | d + 1, i => by
    show trGet (.nd (.lit undef) (trFull d) (trFull d)) i = _
    rw [trGet_nd, trGet_full d, trGet_full d]
    split
    · rfl
    · split <;> rfl
structure FRel (R : Rho) (f : Fr) (tmps : Array Value) : Prop where
  n : f.n = tmps.size
  has : ∀ i, i < tmps.size → trHas f.t i
  val : ∀ i, i < tmps.size → VRel R (trGet f.t i) (tmps.getD i undef)
theorem FRel.ext {R R' : Rho} {f : Fr} {tmps : Array Value} (h : FRel R f tmps) (hx : Ext R R') : FRel R' f tmps := ⟨h.n, h.has, fun i hi => (h.val i hi).ext hx⟩
theorem FRel.get {R : Rho} {f : Fr} {tmps : Array Value} (h : FRel R f tmps) (t : Nat) : VRel R (getF f t) (tmps.getD t undef) := by
  have e0 : getF f t = Bool.rec (.lit undef) (trGet f.t t) (Nat.blt t f.n) := by cases f; rfl
  rw [e0]
  cases hb : Nat.blt t f.n with
  | true =>
    have h1 : t < tmps.size := by rw [← h.n]; simpa [Nat.blt_eq] using hb
    exact h.val t h1
  | false =>
    have h1 : ¬ t < tmps.size := by rw [← h.n]; intro c; rw [show Nat.blt t f.n = true by simpa [Nat.blt_eq] using c] at hb; cases hb
    have h2 : tmps.getD t undef = undef := by simp [Array.getD, h1]
    rw [h2]
    exact VRel.lit_ _
theorem FRel.set {R : Rho} {f : Fr} {tmps : Array Value} (h : FRel R f tmps) (d : Nat) {v : AV} {x : Value} (hv : VRel R v x) : FRel R (setF v f d) (tmps.setIfInBounds d x) := by
  have e0 : setF v f d = Bool.rec f ⟨f.n, trSet v f.t d⟩ (Nat.blt d f.n) := by cases f; rfl
  rw [e0]
  cases hb : Nat.blt d f.n with
  | true =>
    have h1 : d < tmps.size := by rw [← h.n]; simpa [Nat.blt_eq] using hb
    refine ⟨by simp [h.n], fun i hi => trHas_set (h.has i (by simpa using hi)), fun i hi => ?_⟩
    have hi' : i < tmps.size := by simpa using hi
    show VRel R (trGet (trSet v f.t d) i) _
    rw [trGet_set (h.has d h1)]
    by_cases e : i = d
    · subst e
      rw [if_pos rfl]
      have : (tmps.setIfInBounds i x).getD i undef = x := by simp [Array.getD, h1]
      rw [this]; exact hv
    · rw [if_neg e]
      have : (tmps.setIfInBounds d x).getD i undef = tmps.getD i undef := by
        simp [Array.getD_eq_getD_getElem?, Array.getElem?_setIfInBounds_ne (Ne.symm e)]
      rw [this]; exact h.val i hi'
  | false =>
    have h1 : ¬ d < tmps.size := by rw [← h.n]; intro c; rw [show Nat.blt d f.n = true by simpa [Nat.blt_eq] using c] at hb; cases hb
    rw [Array.setIfInBounds_eq_of_size_le (by omega)]
    exact h
theorem trInit_has : ∀ (l : List AV) {i : Nat} {t : Tr} {j : Nat}, trHas t j → trHas (trInit l i t) j
  | [], _, _, _, h => h
  | v :: l, i, t, j, h => trInit_has l (i := i + 1) (t := trSet v t i) (trHas_set h)
theorem trInit_get : ∀ (l : List AV) {i : Nat} {t : Tr} {j : Nat}, (∀ k, k < i + l.length → trHas t k) → trGet (trInit l i t) j = if i ≤ j ∧ j < i + l.length then l.getD (j - i) (.lit undef) else trGet t j
  | [], i, t, j, h => by
    rw [if_neg (by simp)]; rfl
  | v :: l, i, t, j, h => by
    show trGet (trInit l (i + 1) (trSet v t i)) j = _
    rw [trInit_get l (fun k hk => trHas_set (h k (by simp; omega))), trGet_set (h i (by simp))]
    simp only [List.length_cons]
    by_cases h1 : i + 1 ≤ j ∧ j < i + 1 + l.length
    · rw [if_pos h1, if_pos (by omega), show j - i = (j - (i + 1)) + 1 by omega]
      rfl
    · rw [if_neg h1]
      by_cases e : j = i
      · rw [if_pos e, if_pos (by omega), e, Nat.sub_self]; rfl
      · rw [if_neg e, if_neg (by omega)]
theorem frame_ok {R : Rho} {m : Nat} {l : List AV} {xs : List Value} (h : VRels R l xs) : FRel R (frame m l) (xs.toArray ++ Array.replicate (m - xs.toArray.size) undef) := by
  have hl := h.length
  unfold frame
  rw [forceN_eq, lenL_eq]
  have hsz : (xs.toArray ++ Array.replicate (m - xs.toArray.size) undef).size = l.length + (m - l.length) := by simp [hl]
  have hcap : ∀ i, i < l.length + (m - l.length) → trHas (trFull (Nat.log2 (l.length + (m - l.length)) + 1)) i := fun i hi => by
    refine trHas_full _ ?_
    have := Nat.lt_log2_self (n := l.length + (m - l.length))
    omega
  refine ⟨hsz.symm, fun i hi => trInit_has l (hcap i (by omega)), fun i hi => ?_⟩
  show VRel R (trGet (trInit l 0 _) i) _
  rw [trInit_get l (fun k hk => hcap k (by omega)), trGet_full]
  by_cases hlt : i < l.length
  · rw [if_pos (by omega), Nat.sub_zero]
    have hv : l[i]? = some l[i] := List.getElem?_eq_getElem hlt
    obtain ⟨x, hx, hr⟩ := h.get hv
    have e1 : l.getD i (.lit undef) = l[i] := by simp [List.getD, hv]
    have e2 : (xs.toArray ++ Array.replicate (m - xs.toArray.size) undef).getD i undef = x := by
      have hix : i < xs.length := by omega
      rw [Array.getD_eq_getD_getElem?, Array.getElem?_append_left (by simpa using hix)]
      simp [hx]
    rw [e1, e2]; exact hr
  · rw [if_neg (by omega)]
    have e2 : (xs.toArray ++ Array.replicate (m - xs.toArray.size) undef).getD i undef = undef := by
      rw [Array.getD_eq_getD_getElem?, Array.getElem?_append_right (by simp; omega)]
      rw [Array.getElem?_replicate]
      split <;> rfl
    rw [e2]; exact VRel.lit_ _
theorem opnd_ok {f : Fr} {a : Act} (hf : FRel R f a.tmps) (x : Operand) : VRel R (opnd f x) (a.eval x) := by
  cases x with
  | tmp t =>
    simp only [opnd, Act.eval]
    exact hf.get t
  | const v => exact VRel.lit_ _
  | global g => exact VRel.lit_ _
  | func k => exact VRel.lit_ _
theorem isLit_val {v : AV} {x : Value} (h : isLit v = true) (r : VRel R v x) : x = val v := by
  cases v <;> first | exact VRel.lit_eq r | cases h
theorem runPure_ok {α : Type} : ∀ {s : Sem α} {x : α}, runPure P s = some x → ∀ w, s.run P w = .ok x w
  | .pure a, x, h, w => by simp only [runPure] at h; injection h with h; subst h; rfl
  | .program k, x, h, w => by simp only [runPure] at h; exact runPure_ok (s := k P) h w
  | .mark m k, x, h, w => by simp only [runPure] at h; exact runPure_ok (s := k) h w
  | .load .., x, h, w => by simp [runPure] at h
  | .store .., x, h, w => by simp [runPure] at h
  | .new .., x, h, w => by simp [runPure] at h
  | .shape .., x, h, w => by simp [runPure] at h
  | .freeze .., x, h, w => by simp [runPure] at h
  | .frozen .., x, h, w => by simp [runPure] at h
  | .getObj .., x, h, w => by simp [runPure] at h
  | .setObj .., x, h, w => by simp [runPure] at h
  | .choose .., x, h, w => by simp [runPure] at h
  | .sys .., x, h, w => by simp [runPure] at h
  | .halt .., x, h, w => by simp [runPure] at h
theorem noSel_ne {o : Oper} (h : noSel o.op = true) (cs : Array SelectCase) (b : Bool) : o.op ≠ .select cs b := by
  intro e; rw [e] at h; cases h
theorem evalPure_ok {f : Fr} {a : Act} {o : Oper} {n : Next} (h : evalPure P f o = some n) (hf : FRel R f a.tmps) (w : World) : (execOp a.eval o).run P w = .ok n w := by
  unfold evalPure at h
  split at h
  · rename_i hb
    rw [Bool.and_eq_true, allL_eq, List.all_eq_true] at hb
    have e : execOp a.eval o = execOp (fun x => val (opnd f x)) o :=
      execOp_congr o (fun cs b => noSel_ne hb.1 cs b) (fun x hx => isLit_val (hb.2 x (by simpa using hx)) (opnd_ok hf x))
    rw [e]
    exact runPure_ok h w
  · cases h
theorem isRowT_true {t : TypeId} (h : isRowT P t = some true) : ∃ d, P.underlying t = some d ∧ d.isRow = true := by
  unfold isRowT at h
  split at h
  · rename_i fs e; exact ⟨_, e, rfl⟩
  · rename_i n e he; exact ⟨_, he, rfl⟩
  · cases h
  · cases h
theorem isRowT_false {t : TypeId} (h : isRowT P t = some false) (w : World) : (isAgg t).run P w = .ok false w := by
  unfold isRowT at h
  split at h
  · cases h
  · cases h
  · rename_i d h1 h2 e
    unfold isAgg
    rw [Sem.run_bind, run_underlying e w]
    cases d <;> first | rfl | (exfalso; first | exact h1 _ rfl | exact h2 _ _ rfl)
  · cases h
theorem isRowT_agg {t : TypeId} (h : isRowT P t = some true) (w : World) : (isAgg t).run P w = .ok true w := by
  obtain ⟨d, hu, hd⟩ := isRowT_true h
  unfold isAgg
  rw [Sem.run_bind, run_underlying hu w]
  cases d <;> simp_all
theorem sizeT_run {t : TypeId} {n : Nat} (h : sizeT P t = some n) (w : World) : (sizeOf t).run P w = .ok n w := by
  unfold sizeT at h
  cases hq : P.info? t with
  | none => rw [hq] at h; cases h
  | some i => rw [hq] at h; injection h with h; subst h; simp [sizeOf, typeInfo, hq]
theorem part_ok {t : TypeId} {cs : List AV} {C : List Value} {off : Nat} {v : AV} (h : partOf P t cs off = some v) (hr : VRels R cs C) :
    ∃ x, VRel R v x ∧ ∀ w, (part t C.toArray off).run P w = .ok x w := by
  unfold partOf at h
  split at h
  · rename_i n h1 h2
    split at h
    · rename_i hb
      injection h with h
      subst h
      have hb := Nat.le_of_ble_eq_true hb
      rw [lenL_eq] at hb
      rw [takeL_eq, dropL_eq]
      refine ⟨_, VRel.mkAgg ((hr.drop off).take n), fun w => ?_⟩
      simp only [part, Sem.run_bind, isRowT_agg h1 w, Result.andThen_ok, if_true, sizeT_run h2 w, Sem.run_pure]
      congr 2
      apply Array.ext'
      simp [Array.toList_extract, List.extract_eq_take_drop]
    · cases h
  · rename_i n h1 h2
    rw [getO_eq] at h
    obtain ⟨x, hx, r⟩ := hr.get h
    refine ⟨x, r, fun w => ?_⟩
    simp [part, isRowT_false h1 w, hx]
  · cases h
theorem load_ok {t : TypeId} {B : List AV} {w : World} {b T off : Nat} {v : AV} (h : partOf P t B off = some v) (hB : BRel R B w b T) :
    ∃ x, VRel R v x ∧ ∀ w' : World, w'.heap[b]? = w.heap[b]? → (Instr.loadAt t (.pointer (some ⟨b, off, none⟩))).run P w' = .ok x w' := by
  obtain ⟨C, e, fz, hC, hT, hl, hr, hfz⟩ := hB
  have hcell : ∀ (w' : World), w'.heap[b]? = w.heap[b]? → ∀ i, w'.cell? ⟨b, i, none⟩ = C[i]? := fun w' hw i => by simp [World.cell?, hw, hC]
  unfold partOf at h
  split at h
  · rename_i n h1 h2
    split at h
    · rename_i hb
      injection h with h
      subst h
      have hb := Nat.le_of_ble_eq_true hb
      rw [lenL_eq] at hb
      rw [takeL_eq, dropL_eq]
      refine ⟨_, VRel.mkAgg ((hr.drop off).take n), fun w' hw => ?_⟩
      obtain ⟨d, hu, hd⟩ := isRowT_true h1
      have hlen : (((C.toList.take B.length).drop off).take n).length = n := by simp; omega
      refine run_loadAt_mid w' b off t _ d ?_ hu hd (by rw [hlen]; exact h2)
      intro j u hu
      rw [hcell w' hw]
      have hj : j < n := by have := (List.getElem?_eq_some_iff.1 hu).1; omega
      rw [List.getElem?_take_of_lt hj, List.getElem?_drop, List.getElem?_take_of_lt (by omega)] at hu
      simpa using hu
    · cases h
  · rename_i n h1 h2
    rw [getO_eq] at h
    obtain ⟨x, hx, r⟩ := hr.get h
    refine ⟨x, r, fun w' hw => ?_⟩
    have hi : off < B.length := (List.getElem?_eq_some_iff.1 h).1
    rw [List.getElem?_take_of_lt hi] at hx
    have hc : w'.cell? ⟨b, off, none⟩ = some x := by rw [hcell w' hw]; simpa using hx
    simp [Instr.loadAt, Instr.sureAddr, loadVar, isRowT_false h1 w', hc]
  · cases h
theorem fieldPlace_ok {b off n : Nat} {fd : Field} (h : sizeT P fd.type = some (n + 1)) (w : World) : (fieldPlace ⟨b, off, none⟩ fd).run P w = .ok ⟨b, off + fd.offset, none⟩ w := by
  simp [fieldPlace, sizeT_run h w, Addr.add_mid]
def BV (d : Nat) (v : Option Value) (n : Nat) : Prop := (v = none ∧ n = d) ∨ ∃ k, v = some (.int k n)
theorem bound_ok {d n : Nat} {x : Option Operand} {f : Fr} {a : Act} (hf : FRel R f a.tmps) (h : bound d (x.map (opnd f)) = some n) : BV d (x.map a.eval) n := by
  cases x with
  | none => simp only [Option.map_none, bound] at h; injection h with h; exact .inl ⟨rfl, h.symm⟩
  | some x =>
    have r := opnd_ok hf x
    simp only [Option.map_some] at h ⊢
    unfold bound at h
    split at h
    · rename_i e; cases e
    · rename_i k m e
      injection e with e
      rw [e] at r
      injection h with h
      subst h
      exact .inr ⟨k, congrArg some (VRel.lit_eq r)⟩
    · cases h
theorem sliceBound_ok {k : IntKind} {n y : Nat} (h : n ≤ y) (c : BoundsCode) (w : World) : (Instr.sliceBound (.int k n) y c).run P w = .ok n w := by
  simp [Instr.sliceBound, asIntOf, h]
theorem sliceBounds_ok {isSlice : Bool} {len cap l h m : Nat} {lo hi mx : Option Value} (hlo : BV 0 lo l) (hhi : BV len hi h) (hmx : BV cap mx m) (hn : mx.isSome = true → hi.isSome = true)
    (h1 : l ≤ h) (h2 : h ≤ m) (h3 : m ≤ cap) (w : World) : (Instr.sliceBounds isSlice len cap lo hi mx).run P w = .ok (l, h, m) w := by
  rcases hmx with ⟨rfl, rfl⟩ | ⟨k, rfl⟩
  · rcases hhi with ⟨rfl, rfl⟩ | ⟨k2, rfl⟩
    · rcases hlo with ⟨rfl, rfl⟩ | ⟨k3, rfl⟩
      · simp [Instr.sliceBounds]
      · simp [Instr.sliceBounds, sliceBound_ok h1]
    · rcases hlo with ⟨rfl, rfl⟩ | ⟨k3, rfl⟩
      · simp [Instr.sliceBounds, sliceBound_ok h2]
      · simp [Instr.sliceBounds, sliceBound_ok h2, sliceBound_ok h1]
  · rcases hhi with ⟨rfl, rfl⟩ | ⟨k2, rfl⟩
    · exact absurd (hn rfl) (by simp)
    · rcases hlo with ⟨rfl, rfl⟩ | ⟨k3, rfl⟩
      · simp [Instr.sliceBounds, sliceBound_ok h3, sliceBound_ok h2]
      · simp [Instr.sliceBounds, sliceBound_ok h3, sliceBound_ok h2, sliceBound_ok h1]
theorem bounds3_ok {len cap l h m : Nat} {lo hi mx : Option Operand} {f : Fr} {a : Act} (hf : FRel R f a.tmps)
    (e : bounds3 len cap (lo.map (opnd f)) (hi.map (opnd f)) (mx.map (opnd f)) = some (l, h, m)) :
    BV 0 (lo.map a.eval) l ∧ BV len (hi.map a.eval) h ∧ BV cap (mx.map a.eval) m ∧ ((mx.map a.eval).isSome = true → (hi.map a.eval).isSome = true) ∧ l ≤ h ∧ h ≤ m ∧ m ≤ cap := by
  unfold bounds3 at e
  split at e
  · cases e
  · rename_i hne
    split at e
    · rename_i l' h' m' e1 e2 e3
      split at e
      · rename_i hb
        injection e with e
        injection e with e4 e5
        injection e5 with e5 e6
        subst e4 e5 e6
        simp only [Bool.and_eq_true] at hb
        refine ⟨bound_ok hf e1, bound_ok hf e2, bound_ok hf e3, ?_, Nat.le_of_ble_eq_true hb.1, Nat.le_of_ble_eq_true hb.2.1, Nat.le_of_ble_eq_true hb.2.2⟩
        intro hs
        cases hi with
        | some _ => rfl
        | none =>
          cases mx with
          | none => cases hs
          | some y => exact absurd rfl (hne _ rfl)
      · cases e
    · cases e
end
end Go.Proofs.YtackmbfbilbopaaGreatDoor
namespace Go.Proofs.YtackmbfbilbopaaGreatDoor
open Go Go.RowKit
variable [Env]
section
variable {P : Program} {R : Rho}
theorem eqGuard_int (op : BinOp) (t : TypeId) (x y : Operand) (k k' : IntKind) (a b : Int) (w : World) : (eqGuard op t x y (.int k a) (.int k' b)).run P w = .ok () w := by
  unfold eqGuard
  cases op <;> rfl
theorem fastInt_ok {op : BinOp} {k k' : IntKind} {a b : Int} {v : Value} (h : fastInt op k k' a b = some v) (t : TypeId) (w : World) : (binOp op t (.int k a) (.int k' b)).run P w = .ok v w := by
  unfold fastInt at h
  cases op <;> simp only [forceI_eq, forceN_eq] at h
  case shl =>
    split at h
    · cases h
    · rename_i hb _
      injection h with h; subst h
      simp [binOp, Op.shift, hb]
  case shr =>
    split at h
    · cases h
    · rename_i hb _
      injection h with h; subst h
      simp [binOp, Op.shift, hb]
  all_goals
    split at h
    · cases h
    rename_i hk _
    subst hk
  all_goals first
    | (injection h with h; subst h; simp [binOp, Op.intArith, Op.intCmp, Op.intBits, BitVec.toNat_and, BitVec.toNat_or]; done)
    | (cases h; done)
    | (split at h
       · cases h
       · rename_i hb
         injection h with h; subst h
         have : ¬ b = 0 := fun e => hb e
         simp [binOp, Op.intDiv, this])
def WlOk (P : Program) (R : Rho) (v : AV) (a : Act) (o : Oper) : Prop := ∃ x, VRel R v x ∧ ∀ w, (execOp a.eval o).run P w = .ok (.value x) w
theorem fastWl_ok {f : Fr} {a : Act} {o : Oper} {v : AV} (h : fastWl P f o = some v) (hf : FRel R f a.tmps) : WlOk P R v a o := by
  unfold fastWl at h
  obtain ⟨dst, op, type, pos, after, guard⟩ := o
  simp only at h
  split at h
  · rename_i op t x y yt
    unfold fwBin at h
    split at h
    · rename_i k p k' q e1 e2
      have r1 := opnd_ok hf x
      have r2 := opnd_ok hf y
      rw [e1] at r1
      rw [e2] at r2
      have r1 := VRel.lit_eq r1
      have r2 := VRel.lit_eq r2
      split at h
      · rename_i v' hv
        injection h with h; subst h
        refine ⟨v', VRel.lit_ _, fun w => ?_⟩
        simp [execOp, r1, r2, eqGuard_int, fastInt_ok hv]
      · cases h
    · cases h
  · rename_i src dst x
    unfold fwConv at h
    split at h
    · rename_i k n e1
      have r1 := opnd_ok hf x
      rw [e1] at r1
      have r1 := VRel.lit_eq r1
      split at h
      · rename_i d k' e2 e3
        rw [forceI_eq] at h
        injection h with h; subst h
        refine ⟨_, VRel.lit_ _, fun w => ?_⟩
        simp [execOp, r1, convert, run_underlying e2, run_underlying e3, Conv.intToInt]
      · cases h
    · cases h
  · rename_i t x ix
    unfold fwIndex at h
    split at h
    · rename_i s k i e1 e2
      have r1 := opnd_ok hf x
      rw [e1] at r1
      have r1 := VRel.lit_eq r1
      have r2 := opnd_ok hf ix
      rw [e2] at r2
      have r2 := VRel.lit_eq r2
      split at h
      · rename_i hu
        split at h
        · rename_i b hb
          rw [getO_eq] at hb
          rw [forceN_eq] at h
          injection h with h; subst h
          refine ⟨_, VRel.lit_ _, fun w => ?_⟩
          have hb' : s[i]? = some b := by
            have hi : i < s.data.toList.length := (List.getElem?_eq_some_iff.1 hb).1
            have hi' : i < s.size := by simpa using hi
            rw [getElem?_pos s i hi']
            rw [List.getElem?_eq_getElem hi] at hb
            have hb2 : s.data[i] = b := by simpa using hb
            show some (s.data[i]) = some b
            rw [hb2]
          simp [execOp, r1, r2, Instr.index, asIntOf, run_underlying hu, hb']
        · cases h
      · cases h
    · cases h
  · rename_i args argTypes
    unfold fwLen at h
    split at h
    · rename_i x t ea et
      split at h
      · rename_i s e1 hu
        rw [forceN_eq] at h
        injection h with h; subst h
        have r1 := opnd_ok hf x
        rw [e1] at r1
        have r1 := VRel.lit_eq r1
        have ea' : args = #[x] := by apply Array.ext'; simpa using ea
        have et' : argTypes = #[t] := by apply Array.ext'; simpa using et
        subst ea' et'
        refine ⟨_, VRel.lit_ _, fun w => ?_⟩
        simp [execOp, resolve, invoke, builtin, Builtin.len_, r1, run_underlying hu, goInt]
      · cases h
    · cases h
  · cases h
end
end Go.Proofs.YtackmbfbilbopaaGreatDoor
namespace Go.Proofs.YtackmbfbilbopaaGreatDoor
open Go Go.RowKit
variable [Env]
section
variable {P : Program} {R : Rho}
theorem foldl_put (off : Nat) : ∀ (vs : List Value) (k : Nat) (C : Array Value), off + k + vs.length ≤ C.size →
    ((vs.zipIdx k).foldl (fun cs (p : Value × Nat) => cs.setIfInBounds (off + p.2) p.1) C).toList = C.toList.take (off + k) ++ vs ++ C.toList.drop (off + k + vs.length) ∧
    ((vs.zipIdx k).foldl (fun cs (p : Value × Nat) => cs.setIfInBounds (off + p.2) p.1) C).size = C.size
  | [], k, C, h => by simp
  | v :: vs, k, C, h => by
    have h' : off + k + (vs.length + 1) ≤ C.size := h
    obtain ⟨h1, h2⟩ := foldl_put off vs (k + 1) (C.setIfInBounds (off + k) v) (by simp; omega)
    rw [List.zipIdx_cons, List.foldl_cons]
    refine ⟨?_, by rw [h2]; simp⟩
    rw [h1, Array.toList_setIfInBounds, List.length_cons]
    apply List.ext_getElem?
    intro i
    simp only [List.getElem?_append, List.length_append, List.length_take, List.length_set, List.length_cons, List.getElem?_take, List.getElem?_set, List.getElem?_drop, Array.length_toList]
    rcases Nat.lt_trichotomy i (off + k) with hi | hi | hi
    · rw [if_pos (by omega), if_pos (by omega), if_pos (by omega), if_neg (by omega), if_pos (by omega), if_pos (by omega), if_pos (by omega)]
    · subst hi
      rw [if_pos (by omega), if_pos (by omega), if_pos (by omega), if_pos rfl, if_pos (by omega), if_pos (by omega), if_neg (by omega)]
      simp [Nat.min_eq_left (show off + k ≤ C.size by omega)]
    · by_cases hi2 : i < off + k + 1 + vs.length
      · rw [if_pos (by omega), if_neg (by omega), if_pos (by omega), if_neg (by omega)]
        rw [Nat.min_eq_left (by omega), Nat.min_eq_left (by omega), show i - (off + k) = (i - (off + (k + 1))) + 1 by omega, List.getElem?_cons_succ]
      · rw [if_neg (by omega), if_neg (by omega)]
        rw [if_neg (by omega)]
        congr 1
        omega
theorem fill_ok {place : Nat → Option (Nat × Nat)} {f : Fr} {a : Act} (hf : FRel R f a.tmps) : ∀ (ps : List (Nat × Operand)) {cs r : List AV} {C : Array Value},
    fillA place cs (ps.map fun p => (p.1, opnd f p.2)) = some r → VRels R cs C.toList → ∃ C', Instr.fill place C (ps.map fun p => (p.1, a.eval p.2)) = some C' ∧ VRels R r C'.toList ∧ C'.size = C.size
  | [], cs, r, C, h, hr => by
    simp only [List.map_nil, fillA] at h
    injection h with h; subst h
    exact ⟨C, rfl, hr, rfl⟩
  | (i, x) :: ps, cs, r, C, h, hr => by
    simp only [List.map_cons, fillA] at h
    simp only [List.map_cons, Instr.fill]
    split at h
    · cases h
    · rename_i off size hp
      rw [hp]
      split at h
      · rename_i hb
        simp only [Bool.and_eq_true, lenL_eq] at hb
        have hb1 := Nat.eq_of_beq_eq_true hb.1
        have hb2 := Nat.le_of_ble_eq_true hb.2
        have rc := (opnd_ok hf x).cells_
        have hl := rc.length
        have hC := hr.length
        have hsz : (a.eval x).cells.size = size := by rw [← hb1, ← hl]; simp
        have hCs : C.size = cs.length := by rw [← hC]; simp
        rw [appL_eq, appL_eq, takeL_eq, dropL_eq, lenL_eq] at h
        have hz : (a.eval x).cells.zipIdx.foldl (fun cs (p : Value × Nat) => cs.setIfInBounds (off + p.2) p.1) C = ((a.eval x).cells.toList.zipIdx 0).foldl (fun cs (p : Value × Nat) => cs.setIfInBounds (off + p.2) p.1) C := by
          rw [← Array.foldl_toList]
          simp
        have hlen : (a.eval x).cells.toList.length = (opnd f x).cells.length := hl
        obtain ⟨h1, h2⟩ := foldl_put off (a.eval x).cells.toList 0 C (by omega)
        have hn : ¬ ((a.eval x).cells.size ≠ size ∨ off + (a.eval x).cells.size > C.size) := by
          intro hh
          rcases hh with hh | hh
          · exact hh hsz
          · have : (a.eval x).cells.size = (opnd f x).cells.length := by rw [← hl]; simp
            omega
        obtain ⟨C', h3, h4, h5⟩ := fill_ok hf ps (C := ((a.eval x).cells.toList.zipIdx 0).foldl (fun cs (p : Value × Nat) => cs.setIfInBounds (off + p.2) p.1) C) h (by
          rw [h1, Nat.add_zero, hlen, List.append_assoc]
          exact (hr.take off).append (rc.append (hr.drop _)))
        refine ⟨C', ?_, h4, by rw [h5, h2]⟩
        simp only [ne_eq, hsz, not_true_eq_false, false_or]
        rw [if_neg (by
          intro hh
          apply hn
          right
          simpa [hsz] using hh)]
        rw [hz]
        exact h3
      · cases h
theorem zeros_ok (z : Array Value) (n : Nat) : VRels R (zeros z n) ((Array.range n).map (z[· % z.size]!)).toList := by
  unfold zeros
  rw [mapL_eq, Array.toList_map, Array.toList_range]
  exact VRels.map_ _ _ (fun i => VRel.lit_ _) _
theorem zeros_length (z : Array Value) (n : Nat) : (zeros z n).length = n := by
  unfold zeros
  rw [mapL_eq]; simp
theorem lits_cells (z : Array Value) : VRels R (mapL .lit z.toList) z.toList := by
  rw [mapL_eq]; exact VRels.lits_ _
theorem mapEval {f : Fr} {a : Act} (hf : FRel R f a.tmps) : ∀ (l : List Operand), VRels R (mapL (opnd f) l) (l.map a.eval)
  | [] => VRels.nil
  | x :: l => VRels.cons (opnd_ok hf x) (mapEval hf l)
theorem equal_ptr {t e : TypeId} (hu : P.underlying t = some (.pointer e)) (x : Addr) (w : World) :
    (Op.equal t (.pointer (some x)) (.pointer none)).run P w = .ok false w ∧ (Op.equal t (.pointer none) (.pointer (some x))).run P w = .ok false w := by
  have e : ∀ y z, Op.equal t y z = Op.equalIn (9999 + 1) t y z := fun _ _ => rfl
  rw [e, e]
  generalize 9999 = d
  constructor <;> simp [Op.equalIn, run_underlying hu]
theorem equal_sl {t e : TypeId} (hu : P.underlying t = some (.slice e)) (x : Addr) (n c n' c' : Nat) (w : World) :
    (Op.equal t (.slice (some x) n c) (.slice none n' c')).run P w = .ok false w ∧ (Op.equal t (.slice none n' c') (.slice (some x) n c)).run P w = .ok false w := by
  have e : ∀ y z, Op.equal t y z = Op.equalIn (9999 + 1) t y z := fun _ _ => rfl
  rw [e, e]
  generalize 9999 = d
  constructor <;> simp [Op.equalIn, run_underlying hu]
theorem equal_fn {t : TypeId} {ps rs : Array TypeId} {vd : Bool} (hu : P.underlying t = some (.func ps rs vd)) (g : Fn) (p q : Array Value) (w : World) :
    (Op.equal t (.func g p q) .nilFunc).run P w = .ok false w ∧ (Op.equal t .nilFunc (.func g p q)).run P w = .ok false w := by
  have e : ∀ y z, Op.equal t y z = Op.equalIn (9999 + 1) t y z := fun _ _ => rfl
  rw [e, e]
  generalize 9999 = d
  constructor <;> simp [Op.equalIn, run_underlying hu]
theorem eqGuard_none (op : BinOp) (t : TypeId) (x y : Operand) (a b : Value) (h1 : a ≠ .nilIface) (h2 : ∀ l, a ≠ .agg l) (w : World) : (eqGuard op t x y a b).run P w = .ok () w := by
  unfold eqGuard
  cases op <;> first
    | rfl
    | (cases a <;> cases b <;> first | rfl | exact absurd rfl h1 | exact absurd rfl (h2 _))
end
end Go.Proofs.YtackmbfbilbopaaGreatDoor
