import Derived.WalkKit
/-! runs on abstract memory: what a call does in whatever memory, as far as nothing of what came in is looked at. -/
namespace Go.Proofs.Ytandjcalokecjaa.Ev
open Go
noncomputable section

/-- values: b names a block of the abstract memory; an atom is a value of which nothing is known. -/
inductive AV where
  | bool (b : Bool)
  | int (k : IntKind) (n : Int)
  | str (s : List Nat)
  | nilPtr
  | ptr (b off : Nat)
  | nilSlice
  | slice (b off len cap : Nat) (exact : Bool)
  | empty
  | nilMap
  | map (b : Nat)
  | nilFn
  | fn (f : Nat) (first caught : List AV)
  | yield (b : Nat)
  | agg (cs : List AV)
  | tuple (vs : List AV)
  | atom (i : Nat)
  | any
  | anySlice
  | unkI (k : IntKind)
  | unkB
  | half (neg : Bool)
  deriving Inhabited

/-- a map's entry. -/
structure Ent where
  key : AV
  val : AV
  born : Nat

/-- a block: of cells, of which more may stand behind (grow: how many cells an element has); a map; an iterator; one that must not be looked at. -/
inductive Blk where
  | cells (cls : Nat) (grow : Option Nat) (cs : List AV)
  | map (cls : Nat) (es : List Ent) (clock : Nat)
  | iter (cls : Nat) (m : Option Nat) (since : Nat) (seen : List Nat) (stepped : Nat)
  | loop (cls : Nat) (state : Nat) (pending : Option Code) (tmps : List AV) (params : List Nat) (assign body : Code)
  | dead

inductive Tr (α : Type) where
  | nil
  | node (l : Tr α) (v : Option α) (r : Tr α)

namespace Tr
variable {α : Type}
def get (t : Tr α) (k : Nat) : Option α := @Tr.rec α (fun _ => Nat → Option α) (fun _ => none)
  (fun _ v _ gl gr k => @Bool.rec (fun _ => Option α) (@Bool.rec (fun _ => Option α) (gr (Nat.sub (Nat.div k (nat_lit 2)) (nat_lit 1))) (gl (Nat.div k (nat_lit 2))) (Nat.beq (Nat.mod k (nat_lit 2)) (nat_lit 1))) v (Nat.beq k (nat_lit 0))) t k
def set (f : Nat) (t : Tr α) (k : Nat) (v : α) (K : Tr α → Bool) : Bool := @Nat.rec (fun _ => Tr α → Nat → (Tr α → Bool) → Bool) (fun _ _ _ => false)
  (fun _ s t k K => @Tr.rec α (fun _ => Bool)
    (@Bool.rec (fun _ => Bool) (@Bool.rec (fun _ => Bool) (s .nil (Nat.sub (Nat.div k (nat_lit 2)) (nat_lit 1)) fun r => K (.node .nil none r)) (s .nil (Nat.div k (nat_lit 2)) fun l => K (.node l none .nil)) (Nat.beq (Nat.mod k (nat_lit 2)) (nat_lit 1))) (K (.node .nil (some v) .nil)) (Nat.beq k (nat_lit 0)))
    (fun l x r _ _ => @Bool.rec (fun _ => Bool) (@Bool.rec (fun _ => Bool) (s r (Nat.sub (Nat.div k (nat_lit 2)) (nat_lit 1)) fun r => K (.node l x r)) (s l (Nat.div k (nat_lit 2)) fun l => K (.node l x r)) (Nat.beq (Nat.mod k (nat_lit 2)) (nat_lit 1))) (K (.node l (some v) r)) (Nat.beq k (nat_lit 0))) t) f t k K
end Tr

/-- the abstract memory: its blocks; the blocks of each class (those that may share memory); the next name. -/
structure AH where
  tr : Tr Blk
  mem : Tr (List Nat)
  next : Nat

def fNat (n : Nat) (K : Nat → Bool) : Bool := match n with | 0 => K 0 | m + 1 => K (m + 1)
def fInt (n : Int) (K : Int → Bool) : Bool := match n with | .ofNat m => fNat m fun m => K (.ofNat m) | .negSucc m => fNat m fun m => K (.negSucc m)
/-- a value, its numbers worked out. -/
def AV.force (a : AV) (K : AV → Bool) : Bool :=
  match a with
  | .int k n => fInt n fun n => K (.int k n)
  | .bool b => match b with | true => K (.bool true) | false => K (.bool false)
  | .ptr b off => fNat b fun b => fNat off fun off => K (.ptr b off)
  | .slice b off len cap ex => fNat b fun b => fNat off fun off => fNat len fun len => fNat cap fun cap => match ex with | true => K (.slice b off len cap true) | false => K (.slice b off len cap false)
  | a => K a

def Blk.cls : Blk → Option Nat
  | .cells c _ _ => some c
  | .map c _ _ => some c
  | .iter c _ _ _ _ => some c
  | .loop c _ _ _ _ _ _ => some c
  | .dead => none

def AH.put (H : AH) (b : Nat) (k : Blk) (K : AH → Bool) : Bool := @AH.rec (fun _ => Bool) (fun t m n => t.set 60 b k fun t => K ⟨t, m, n⟩) H
/-- all but b of these must not be looked at any more. -/
def AH.kill (b : Nat) : List Nat → AH → (AH → Bool) → Bool
  | [], H, K => K H
  | x :: l, H, K => cond (Nat.beq x b) (kill b l H K) (H.put x .dead fun H => kill b l H K)
/-- b is written: what may share its memory must not be looked at any more. -/
def AH.own (H : AH) (b : Nat) (K : AH → Bool) : Bool :=
  match (H.tr.get b).bind Blk.cls with
  | none => false
  | some c => match H.mem.get c with
    | none => false
    | some l => match l with
      | [_] => K H
      | l => AH.kill b l H fun H => @AH.rec (fun _ => Bool) (fun t m n => m.set 60 c [b] fun m => K ⟨t, m, n⟩) H

/-- new blocks. -/
inductive NewB where
  | cells (grow : Option Nat) (cs : List AV)
  | map
  | iter (m : Option Nat) (since : Nat) (stepped : Nat)
  | loop (tmps : List AV) (params : List Nat) (assign body : Code)
def NewB.blk (c : Nat) : NewB → Blk
  | .cells g cs => .cells c g cs
  | .map => .map c [] 0
  | .iter m s t => .iter c m s [] t
  | .loop t p a b => .loop c 0 none t p a b
inductive Sh where
  | ptr
  | slice (len cap : Nat) (exact : Bool)
  | map
def Sh.av (b : Nat) : Sh → AV
  | .ptr => .ptr b 0
  | .slice l c e => .slice b 0 l c e
  | .map => .map b
def AH.alloc (H : AH) (n : NewB) (K : AH → Bool) : Bool :=
  @AH.rec (fun _ => Bool) (fun t m x => t.set 60 x (n.blk x) fun t => m.set 60 x [x] fun m => fNat (Nat.add x (nat_lit 1)) fun x => K ⟨t, m, x⟩) H

/-- what an operation tells that leaves memory as it is: a value, or a new block. -/
inductive Res where
  | val (a : AV)
  | new (n : NewB) (s : Sh)

def leaf : Value → Option AV
  | .bool b => some (.bool b)
  | .int k n => some (.int k n)
  | .string s => some (.str (s.data.toList.map (·.toNat)))
  | .pointer none => some .nilPtr
  | .slice none 0 0 => some .nilSlice
  | .map none => some .nilMap
  | .nilFunc => some .nilFn
  | .tuple ⟨[]⟩ => some (.tuple [])
  | _ => none
def leaves : List Value → Option (List AV)
  | [] => some []
  | v :: r => match leaf v, leaves r with | some a, some l => some (a :: l) | _, _ => none
def ofV : Value → Option AV
  | .agg ⟨l⟩ => (leaves l).map .agg
  | v => leaf v

mutual
/-- the value itself, where nothing in it names a block. -/
def toV : AV → Option Value
  | .bool b => some (.bool b)
  | .int k n => some (.int k n)
  | .str s => some (.string ⟨⟨s.map UInt8.ofNat⟩⟩)
  | .nilPtr => some (.pointer none)
  | .nilSlice => some (.slice none 0 0)
  | .nilMap => some (.map none)
  | .nilFn => some .nilFunc
  | .agg cs => (toVs cs).map fun l => .agg ⟨l⟩
  | .tuple cs => (toVs cs).map fun l => .tuple ⟨l⟩
  | _ => none
def toVs : List AV → Option (List Value)
  | [] => some []
  | a :: r => match toV a, toVs r with | some v, some l => some (v :: l) | _, _ => none
end

mutual
def AV.beq : AV → AV → Bool
  | .bool a, .bool b => a == b
  | .int j a, .int k b => decide (j = k) && decide (a = b)
  | .str a, .str b => decide (a = b)
  | .nilPtr, .nilPtr => true
  | .ptr a x, .ptr b y => Nat.beq a b && Nat.beq x y
  | .nilSlice, .nilSlice => true
  | .slice a x l c e, .slice b y m d f => Nat.beq a b && Nat.beq x y && Nat.beq l m && Nat.beq c d && (e == f)
  | .empty, .empty => true
  | .nilMap, .nilMap => true
  | .map a, .map b => Nat.beq a b
  | .nilFn, .nilFn => true
  | .fn f a b, .fn g c d => Nat.beq f g && AV.beqs a c && AV.beqs b d
  | .yield a, .yield b => Nat.beq a b
  | .agg a, .agg b => AV.beqs a b
  | .tuple a, .tuple b => AV.beqs a b
  | .atom a, .atom b => Nat.beq a b
  | .any, .any => true
  | .anySlice, .anySlice => true
  | .unkI j, .unkI k => decide (j = k)
  | .unkB, .unkB => true
  | .half a, .half b => a == b
  | _, _ => false
def AV.beqs : List AV → List AV → Bool
  | [], [] => true
  | a :: r, b :: s => AV.beq a b && AV.beqs r s
  | _, _ => false
end

/-- what a program text tells that looks at no memory. -/
def asPure {α : Type} (P : Program) : Sem α → Option α
  | .pure a => some a
  | .program k => asPure P (k P)
  | _ => none

def aget0 (l : List AV) (n : Nat) : AV := @List.rec AV (fun _ => Nat → AV) (fun _ => .tuple []) (fun a _ g n => @Nat.rec (fun _ => AV) a (fun m _ => g m) n) l n
def aset0 (l : List AV) (n : Nat) (v : AV) (K : List AV → Bool) : Bool := @List.rec AV (fun _ => Nat → (List AV → Bool) → Bool) (fun _ K => K [])
  (fun a r s n K => @Nat.rec (fun _ => Bool) (K (v :: r)) (fun m _ => s m fun r => K (a :: r)) n) l n K
def skip8 (l : List AV) : List AV := match l with
  | _ :: _ :: _ :: _ :: _ :: _ :: _ :: _ :: r => r
  | _ => []
def agetC (q : Nat) (l : List AV) (n : Nat) : AV := @Nat.rec (fun _ => List AV → AV) (fun l => aget0 l n) (fun _ g l => g (skip8 l)) q l
def aget (l : List AV) (n : Nat) : AV := agetC (Nat.div n (nat_lit 8)) l (Nat.mod n (nat_lit 8))
def asetC (q : Nat) (l : List AV) (n : Nat) (v : AV) (K : List AV → Bool) : Bool := @Nat.rec (fun _ => List AV → (List AV → Bool) → Bool) (fun l K => aset0 l n v K)
  (fun _ s l K => match l with
    | a :: b :: c :: d :: e :: f :: g :: h :: r => s r fun r => K (a :: b :: c :: d :: e :: f :: g :: h :: r)
    | l => K l) q l K
def aset (l : List AV) (n : Nat) (v : AV) (K : List AV → Bool) : Bool := asetC (Nat.div n (nat_lit 8)) l (Nat.mod n (nat_lit 8)) v K
def aop (tmps : List AV) : Operand → Option AV
  | .tmp t => some (aget tmps t)
  | .const v => ofV v
  | .global _ => none
  | .func f => some (.fn f [] [])
def aops (tmps : List AV) : List Operand → Option (List AV)
  | [] => some []
  | x :: r => match aop tmps x, aops tmps r with | some a, some l => some (a :: l) | _, _ => none

def AV.cells : AV → List AV
  | .agg cs => cs
  | a => [a]


/-- the first n. -/
def firsts : Nat → List AV → Option (List AV)
  | 0, _ => some []
  | _ + 1, [] => none
  | n + 1, a :: r => match firsts n r with | some l => some (a :: l) | none => none
def span (cs : List AV) (off n : Nat) : Option (List AV) := firsts n (cs.drop off)
/-- l with the elements from off on replaced by vs, if so many stand there. -/
def wset : List AV → Nat → List AV → (List AV → Bool) → Bool
  | l, _, [], K => K l
  | [], _, _ :: _, _ => false
  | _ :: r, 0, v :: vs, K => wset r 0 vs fun r => K (v :: r)
  | a :: r, o + 1, v :: vs, K => wset r o (v :: vs) fun r => K (a :: r)

def und (P : Program) (t : TypeId) : Option TypeDesc := P.underlying t
def size (P : Program) (t : TypeId) : Option Nat := (P.info? t).map (·.size)
def isAgg (P : Program) (t : TypeId) : Option Bool := match P.underlying t with | none => none | some (.struct _) => some true | some (.array _ _) => some true | some _ => some false
def zero (P : Program) (t : TypeId) : Option AV := match P.info? t with | none => none | some i => match i.zero with | none => none | some v => ofV v
/-- a part of a struct or an array. -/
def part (P : Program) (t : TypeId) (cs : List AV) (off : Nat) : Option AV :=
  match isAgg P t, size P t with
  | some true, some n => (span cs off n).map .agg
  | some false, some _ => (cs.drop off).head?
  | _, _ => none
def fields (P : Program) (t : TypeId) : Option (List Field) := match P.underlying t with | some (.struct fs) => some fs.toList | _ => none

def repeats (l : List AV) : Nat → List AV
  | 0 => []
  | n + 1 => l ++ repeats l n

/-- where the fields of a struct stand. -/
def places (P : Program) : List Field → Option (List (Nat × Nat))
  | [] => some []
  | f :: r => match size P f.type, places P r with | some n, some l => some ((f.offset, n) :: l) | _, _ => none
def fillG (place : Nat → Option (Nat × Nat)) : List (Nat × AV) → List AV → (List AV → Bool) → Bool
  | [], cs, K => K cs
  | (i, v) :: r, cs, K => match place i with
    | none => false
    | some (off, n) => cond (Nat.beq v.cells.length n && Nat.ble (off + n) cs.length) (wset cs off v.cells fun cs => fillG place r cs K) false

def aparts (tmps : List AV) : List (Nat × Operand) → Option (List (Nat × AV))
  | [] => some []
  | (i, x) :: r => match aop tmps x, aparts tmps r with | some a, some l => some ((i, a) :: l) | _, _ => none

def cellsAt (H : AH) (b : Nat) : Option (Option Nat × List AV) :=
  match H.tr.get b with
  | some (.cells _ g cs) => some (g, cs)
  | _ => none
def loadAt (P : Program) (H : AH) (t : TypeId) (b off : Nat) : Option AV :=
  match cellsAt H b with
  | none => none
  | some (_, cs) => part P t cs off

def nat? : AV → Option Nat
  | .int _ (.ofNat n) => some n
  | _ => none
def nats? (d : Nat) : Option AV → Option Nat
  | none => some d
  | some a => nat? a

def lscal (P : Program) (o : Sem Value) (K : AV → Bool) : Bool :=
  match asPure P o with
  | none => false
  | some v => match ofV v with
    | none => false
    | some a => a.force K

/-- is one of both nil, and the other one not? -/
def oneNil : TypeDesc → AV → AV → Bool
  | .pointer _, .nilPtr, .ptr _ _ => true
  | .pointer _, .ptr _ _, .nilPtr => true
  | .map _ _, .nilMap, .map _ => true
  | .map _ _, .map _, .nilMap => true
  | .func _ _ _, .nilFn, .fn _ _ _ => true
  | .func _ _ _, .fn _ _ _, .nilFn => true
  | .slice _, .nilSlice, .slice _ _ _ _ _ => true
  | .slice _, .slice _ _ _ _ _, .nilSlice => true
  | .slice _, .nilSlice, .empty => true
  | .slice _, .empty, .nilSlice => true
  | _, _, _ => false
/-- a truth, worked out. -/
def two (b : Bool) (K : AV → Bool) : Bool := match b with | true => K (.bool true) | false => K (.bool false)
def isU32 : IntKind → Bool
  | .u32 => true
  | _ => false
def isWide : IntKind → Bool
  | .u32 => true
  | .u64 => true
  | .i64 => true
  | _ => false
/-- numbers that are not below nought: by the kernel's own arithmetic where that is the same. -/
def fastBin (op : BinOp) (k k' : IntKind) (m n : Nat) (slow : Bool) (K : AV → Bool) : Bool :=
  match decide (k = k') with
  | false => slow
  | true => match op with
    | .eql => two (Nat.beq m n) K
    | .neq => two (not (Nat.beq m n)) K
    | .lss => two (Nat.blt m n) K
    | .leq => two (Nat.ble m n) K
    | .gtr => two (Nat.blt n m) K
    | .geq => two (Nat.ble n m) K
    | .add => match isWide k && Nat.blt (Nat.add m n) 2147483648 with
      | true => fNat (Nat.add m n) fun r => K (.int k (.ofNat r))
      | false => slow
    | .and => match isU32 k && (Nat.blt m 4294967296 && Nat.blt n 4294967296) with
      | true => fNat (Nat.land m n) fun r => K (.int k (.ofNat r))
      | false => slow
    | .xor => match isU32 k && (Nat.blt m 4294967296 && Nat.blt n 4294967296) with
      | true => fNat (Nat.xor m n) fun r => K (.int k (.ofNat r))
      | false => slow
    | _ => slow
def aBin (P : Program) (op : BinOp) (t : TypeId) (x y : Operand) (a b : AV) (K : Res → Bool) : Bool :=
  match a, b with
  | .str s, .str u => match op with
    | .eql => match decide (s = u) with | true => K (.val (.bool true)) | false => K (.val (.bool false))
    | .neq => match decide (s = u) with | true => K (.val (.bool false)) | false => K (.val (.bool true))
    | _ => false
  | .unkI j, .int k _ => cond (decide (j = k)) (match op with
    | .eql => K (.val .unkB)
    | .neq => K (.val .unkB)
    | .lss => K (.val .unkB)
    | .leq => K (.val .unkB)
    | .gtr => K (.val .unkB)
    | .geq => K (.val .unkB)
    | _ => false) false
  | .half neg, .int k n => cond (decide (k = .i64)) (match op with
    | .eql => K (.val .unkB)
    | .neq => K (.val .unkB)
    | .lss => match decide (n = 0) with | true => K (.val (.bool neg)) | false => K (.val .unkB)
    | .leq => K (.val .unkB)
    | .gtr => K (.val .unkB)
    | .geq => match decide (n = 0) with | true => K (.val (.bool (!neg))) | false => K (.val .unkB)
    | _ => false) false
  | .int k (.ofNat m), .int k' (.ofNat n) => fastBin op k k' m n (lscal P (do eqGuard op t x y (.int k (.ofNat m)) (.int k' (.ofNat n)); Go.binOp op t (.int k (.ofNat m)) (.int k' (.ofNat n))) fun a => K (.val a)) fun a => K (.val a)
  | a, b => match toV a, toV b with
    | some v, some w => lscal P (do eqGuard op t x y v w; Go.binOp op t v w) fun a => K (.val a)
    | _, _ => match P.underlying t with
      | none => false
      | some d => cond (oneNil d a b) (match op with
        | .eql => K (.val (.bool false))
        | .neq => K (.val (.bool true))
        | _ => false) false

def bytes? : List AV → Option (List Nat)
  | [] => some []
  | .int .u8 (.ofNat n) :: r => match bytes? r with | some l => cond (Nat.blt n 256) (some (n :: l)) none | none => none
  | _ => none

/-- the elements of a slice. -/
def elems (H : AH) (n : Nat) : AV → Nat → Option (List AV)
  | .nilSlice, 0 => some []
  | .empty, 0 => some []
  | .slice b off len _ _, m => cond (Nat.ble m len) (match cellsAt H b with | some (_, cs) => span cs off (m * n) | none => none) none
  | .str s, m => cond (Nat.beq n 1) (firsts m (s.map fun x => .int .u8 (.ofNat x))) none
  | _, _ => none
def lenOf : AV → Option Nat
  | .nilSlice => some 0
  | .empty => some 0
  | .slice _ _ l _ _ => some l
  | .str s => some s.length
  | _ => none

def aConv (P : Program) (H : AH) (src dst : TypeId) (a : AV) (K : Res → Bool) : Bool :=
  match P.underlying src, P.underlying dst with
  | some s, some d => match a with
    | .str l => match d with
      | .string => K (.val (.str l))
      | .slice e => match P.underlying e with
        | some (.int .u8) => K (.new (.cells (some 1) (l.map fun x => .int .u8 (.ofNat x))) (.slice l.length l.length false))
        | _ => false
      | _ => false
    | .int k n => match d with
      | .int _ => lscal P (convert src dst (.int k n)) fun a => K (.val a)
      | _ => false
    | a => match s, d with
      | .slice e, .string => match P.underlying e with
        | some (.int .u8) => match lenOf a with
          | none => false
          | some n => match elems H 1 a n with
            | none => false
            | some l => match bytes? l with
              | none => false
              | some s => K (.val (.str s))
        | _ => false
      | _, _ => false
  | _, _ => false

def aSlice (P : Program) (H : AH) (t : TypeId) (x : AV) (lo hi mx : Option AV) (K : Res → Bool) : Bool :=
  match P.underlying t, x with
  | some (.array n e), .ptr b off => match nats? n mx with
    | none => false
    | some m => match nats? n hi, nats? 0 lo, size P e with
      | some h, some l, some z => cond (Nat.ble m n && Nat.ble h m && Nat.ble l h && (hi.isSome || mx.isNone))
          ((AV.slice b (cond (Nat.beq m l) off (off + l * z)) (h - l) (m - l) true).force fun a => K (.val a)) false
      | _, _, _ => false
  | some (.slice e), .nilSlice => match nats? 0 mx, nats? 0 hi, nats? 0 lo, size P e with
    | some 0, some 0, some 0, some _ => cond (hi.isSome || mx.isNone) (K (.val .nilSlice)) false
    | _, _, _, _ => false
  | some (.slice e), .slice b off len cap ex => match nats? cap mx, nats? len hi, nats? 0 lo, size P e, cellsAt H b with
    | some m, some h, some l, some z, some (g, _) => cond (Nat.ble m cap && Nat.ble h m && Nat.ble l h && (hi.isSome || mx.isNone))
        (match ex || mx.isSome with
          | true => (AV.slice b (cond (Nat.beq m l) off (off + l * z)) (h - l) (m - l) true).force fun a => K (.val a)
          | false => cond (Nat.beq l 0) ((AV.slice b off h cap false).force fun a => K (.val a))
              (cond (Nat.blt l m && (match g with | some w => Nat.beq w z | none => false)) ((AV.slice b (off + l * z) (h - l) (m - l) false).force fun a => K (.val a))
                (cond (Nat.beq h l) (K (.val .empty)) false))) false
    | _, _, _, _, _ => false
  | _, _ => false

/-- the entry of a key: its place, and its value. -/
def ents : List Ent → Option (List MapEntry)
  | [] => some []
  | e :: r => match toV e.key, ents r with | some k, some l => some ({ key := k, val := .nilIface, born := e.born } :: l) | _, _ => none
def findK (P : Program) (kt : TypeId) (k : AV) (es : List Ent) : Option (Option Nat) :=
  match toV k, ents es with
  | some k, some l => match asPure P (Instr.checkKey l.isEmpty 10000 kt k), asPure P (Instr.checkKey false 10000 kt k), asPure P (Instr.findKey kt k l) with
    | some _, some _, some r => some (r.map (·.1))
    | _, _, _ => none
  | _, _ => none

def aLen (P : Program) (H : AH) (t : TypeId) (a : AV) (K : Res → Bool) : Bool :=
  match P.underlying t, a with
  | some .string, .str s => fNat s.length fun n => K (.val (.int .i64 (.ofNat n)))
  | some (.array n _), _ => fNat n fun n => K (.val (.int .i64 (.ofNat n)))
  | some (.slice _), a => match a with
    | .nilSlice => K (.val (.int .i64 (.ofNat 0)))
    | .empty => K (.val (.int .i64 (.ofNat 0)))
    | .slice _ _ n _ _ => K (.val (.int .i64 (.ofNat n)))
    | .anySlice => K (.val (.unkI .i64))
    | _ => false
  | some (.map _ _), .nilMap => K (.val (.int .i64 (.ofNat 0)))
  | some (.map _ _), .map b => match H.tr.get b with
    | some (.map _ es _) => fNat es.length fun n => K (.val (.int .i64 (.ofNat n)))
    | _ => false
  | _, _ => false

/-- an operation that leaves memory as it is. -/
def evR0 (P : Program) (H : AH) (tmps : List AV) (o : Oper) (K : Res → Bool) : Bool :=
  match o.op with
  | .move x => match aop tmps x with | some a => K (.val a) | none => false
  | .assign x => match aop tmps x with | some a => K (.val a) | none => false
  | .pick c a b => match aop tmps c, aop tmps a, aop tmps b with
    | some (.bool true), some a, some _ => K (.val a)
    | some (.bool false), some _, some b => K (.val b)
    | _, _, _ => false
  | .alloc t => match zero P t with | some a => K (.new (.cells none a.cells) .ptr) | none => false
  | .box _ x => match aop tmps x with | some a => K (.new (.cells none a.cells) .ptr) | none => false
  | .build t ps => match zero P t, aparts tmps ps.toList with
    | some z, some l => match P.underlying t with
      | some (.struct fs) => match places P fs.toList with
        | some pl => fillG (fun i => (pl.drop i).head?) l z.cells fun cs => K (.val (.agg cs))
        | none => false
      | some (.array _ e) => match size P e with
        | some n => fillG (fun i => some (i * n, n)) l z.cells fun cs => K (.val (.agg cs))
        | none => false
      | _ => false
    | _, _ => false
  | .buildSlice t len ps => match P.underlying t, aparts tmps ps.toList with
    | some (.slice e), some l => match size P e, zero P e with
      | some n, some z => cond (Nat.blt (len * n) 65536 && Nat.beq z.cells.length n && Nat.blt 0 n) (fillG (fun i => some (i * n, n)) l (repeats z.cells len) fun cs => K (.new (.cells none cs) (.slice len len true))) false
      | _, _ => false
    | _, _ => false
  | .load t x => match aop tmps x with
    | some (.ptr b off) => match loadAt P H t b off with | some a => K (.val a) | none => false
    | _ => false
  | .nilCheck x => match aop tmps x with
    | some (.ptr b off) => K (.val (.ptr b off))
    | some (.fn f a b) => K (.val (.fn f a b))
    | _ => false
  | .binOp op t x y _ => match aop tmps x, aop tmps y with | some a, some b => aBin P op t x y a b K | _, _ => false
  | .unOp op _ x => match aop tmps x with
    | some a => match toV a with | some v => lscal P (Op.unary op v) fun a => K (.val a) | none => false
    | none => false
  | .convert s d x => match aop tmps x with | some a => aConv P H s d a K | none => false
  | .makeFunc (.func f) a b => match aops tmps a.toList, aops tmps b.toList with | some a, some b => K (.val (.fn f a b)) | _, _ => false
  | .makeMap t none => match P.underlying t with | some (.map _ _) => K (.new .map .map) | _ => false
  | .makeSlice t l c => match P.underlying t, aop tmps l, aop tmps c with
    | some (.slice e), some l, some c => match nat? l, nat? c, size P e, zero P e, P.info? e with
      | some l, some c, some n, some z, some i => cond (Nat.ble l c && Nat.blt c 65536 && Nat.blt (c * i.bytes) 1048576 && Nat.beq z.cells.length n && Nat.blt 0 n) (K (.new (.cells none (repeats z.cells c)) (.slice l c true))) false
      | _, _, _, _, _ => false
    | _, _, _ => false
  | .slice t x lo hi mx => match aop tmps x, lo.elim (some none) (fun x => (aop tmps x).map some), hi.elim (some none) (fun x => (aop tmps x).map some), mx.elim (some none) (fun x => (aop tmps x).map some) with
    | some x, some lo, some hi, some mx => aSlice P H t x lo hi mx K
    | _, _, _, _ => false
  | .fieldAddr s x i => match aop tmps x, fields P s with
    | some (.ptr b off), some fs => match (fs.drop i).head? with
      | some f => match size P f.type with
        | some (_ + 1) => (AV.ptr b (off + f.offset)).force fun a => K (.val a)
        | _ => false
      | none => false
    | _, _ => false
  | .field t x i => match aop tmps x, fields P t with
    | some (.agg cs), some fs => match (fs.drop i).head? with
      | some f => match part P f.type cs f.offset with | some a => K (.val a) | none => false
      | none => false
    | _, _ => false
  | .indexAddr t x i => match P.underlying t, aop tmps x, aop tmps i with
    | some (.array n e), some (.ptr b off), some i => match nat? i, size P e with
      | some i, some z => cond (Nat.blt i n) ((AV.ptr b (off + i * z)).force fun a => K (.val a)) false
      | _, _ => false
    | some (.slice e), some (.slice b off n _ _), some i => match nat? i, size P e with
      | some i, some z => cond (Nat.blt i n) ((AV.ptr b (off + i * z)).force fun a => K (.val a)) false
      | _, _ => false
    | _, _, _ => false
  | .index t x i => match P.underlying t, aop tmps x, aop tmps i with
    | some (.array n e), some (.agg cs), some i => match nat? i, size P e with
      | some i, some z => cond (Nat.blt i n) (match part P e cs (i * z) with | some a => K (.val a) | none => false) false
      | _, _ => false
    | some .string, some (.str s), some i => match nat? i with
      | some i => match (s.drop i).head? with | some n => K (.val (.int .u8 (.ofNat n))) | none => false
      | none => false
    | _, _, _ => false
  | .lookup t x k ok => match P.underlying t, aop tmps x, aop tmps k with
    | some (.map kt e), some m, some k => match m with
      | .nilMap => match toV k, zero P e with
        | some kv, some z => match asPure P (Instr.checkKey true 10000 kt kv), asPure P (Instr.findKey kt kv []) with
          | some _, some none => K (.val (match ok with | true => .tuple [z, .bool false] | false => z))
          | _, _ => false
        | _, _ => false
      | .map b => match H.tr.get b with
        | some (.map _ es _) => match findK P kt k es with
          | some (some i) => match (es.drop i).head? with
            | some en => K (.val (match ok with | true => .tuple [en.val, .bool true] | false => en.val))
            | none => false
          | some none => match zero P e with
            | some z => K (.val (match ok with | true => .tuple [z, .bool false] | false => z))
            | none => false
          | none => false
        | _ => false
      | _ => false
    | _, _, _ => false
  | .range t x => match P.underlying t, aop tmps x with
    | some (.map _ _), some .nilMap => K (.new (.iter none 0 0) .ptr)
    | some (.map _ _), some (.map b) => match H.tr.get b with
      | some (.map _ _ c) => K (.new (.iter (some b) c c) .ptr)
      | _ => false
    | _, _ => false
  | .entry x => match aop tmps x with
    | some (.ptr b 0) => match H.tr.get b with
      | some (.iter _ (some m) _ seen st) => match seen.getLast?, H.tr.get m with
        | some s, some (.map _ es c) => cond (Nat.beq c st) (match es.find? fun e => Nat.beq e.born s with
          | some e => K (.val (.tuple [e.key, e.val]))
          | none => false) false
        | _, _ => false
      | _ => false
    | _ => false
  | .extract x i => match aop tmps x with
    | some (.tuple l) => match (l.drop i).head? with | some a => K (.val a) | none => false
    | _ => false
  | .call c => match c.callee with
    | .builtin .len => match c.argTypes.toList, c.args.toList with
      | t :: _, [x] => match aop tmps x with | some a => aLen P H t a K | none => false
      | _, _ => false
    | .builtin .cap => match c.argTypes.toList, c.args.toList with
      | t :: _, [x] => match P.underlying t, aop tmps x with
        | some (.slice _), some .nilSlice => K (.val (.int .i64 (.ofNat 0)))
        | some (.slice _), some (.slice _ _ _ cap true) => K (.val (.int .i64 (.ofNat cap)))
        | _, _ => false
      | _, _ => false
    | .builtin .max => match aops tmps c.args.toList with
      | some l => match toVs l with | some vs => lscal P (Builtin.max_ c.argTypes o.type ⟨vs⟩) fun a => K (.val a) | none => false
      | none => false
    | .builtin .min => match aops tmps c.args.toList with
      | some l => match toVs l with | some vs => lscal P (Builtin.min_ c.argTypes o.type ⟨vs⟩) fun a => K (.val a) | none => false
      | none => false
    | _ => false
  | _ => false

/-- the same, written so that what an operation is not is not gone through. -/
def evR (P : Program) (H : AH) (tmps : List AV) (o : Oper) (K : Res → Bool) : Bool :=
  (match o.op with
  | .move x => fun _ _ tmps _ K => match aop tmps x with | some a => K (.val a) | none => false
  | .assign x => fun _ _ tmps _ K => match aop tmps x with | some a => K (.val a) | none => false
  | .pick c a b => fun _ _ tmps _ K => match aop tmps c, aop tmps a, aop tmps b with
    | some (.bool true), some a, some _ => K (.val a)
    | some (.bool false), some _, some b => K (.val b)
    | _, _, _ => false
  | .alloc t => fun P _ _ _ K => match zero P t with | some a => K (.new (.cells none a.cells) .ptr) | none => false
  | .box _ x => fun _ _ tmps _ K => match aop tmps x with | some a => K (.new (.cells none a.cells) .ptr) | none => false
  | .build t ps => fun P _ tmps _ K => match zero P t, aparts tmps ps.toList with
    | some z, some l => match P.underlying t with
      | some (.struct fs) => match places P fs.toList with
        | some pl => fillG (fun i => (pl.drop i).head?) l z.cells fun cs => K (.val (.agg cs))
        | none => false
      | some (.array _ e) => match size P e with
        | some n => fillG (fun i => some (i * n, n)) l z.cells fun cs => K (.val (.agg cs))
        | none => false
      | _ => false
    | _, _ => false
  | .buildSlice t len ps => fun P _ tmps _ K => match P.underlying t, aparts tmps ps.toList with
    | some (.slice e), some l => match size P e, zero P e with
      | some n, some z => cond (Nat.blt (len * n) 65536 && Nat.beq z.cells.length n && Nat.blt 0 n) (fillG (fun i => some (i * n, n)) l (repeats z.cells len) fun cs => K (.new (.cells none cs) (.slice len len true))) false
      | _, _ => false
    | _, _ => false
  | .load t x => fun P H tmps _ K => match aop tmps x with
    | some (.ptr b off) => match loadAt P H t b off with | some a => K (.val a) | none => false
    | _ => false
  | .nilCheck x => fun _ _ tmps _ K => match aop tmps x with
    | some (.ptr b off) => K (.val (.ptr b off))
    | some (.fn f a b) => K (.val (.fn f a b))
    | _ => false
  | .binOp op t x y _ => fun P _ tmps _ K => match aop tmps x, aop tmps y with | some a, some b => aBin P op t x y a b K | _, _ => false
  | .unOp op _ x => fun P _ tmps _ K => match aop tmps x with
    | some a => match toV a with | some v => lscal P (Op.unary op v) fun a => K (.val a) | none => false
    | none => false
  | .convert s d x => fun P H tmps _ K => match aop tmps x with | some a => aConv P H s d a K | none => false
  | .makeFunc (.func f) a b => fun _ _ tmps _ K => match aops tmps a.toList, aops tmps b.toList with | some a, some b => K (.val (.fn f a b)) | _, _ => false
  | .makeMap t none => fun P _ _ _ K => match P.underlying t with | some (.map _ _) => K (.new .map .map) | _ => false
  | .makeSlice t l c => fun P _ tmps _ K => match P.underlying t, aop tmps l, aop tmps c with
    | some (.slice e), some l, some c => match nat? l, nat? c, size P e, zero P e, P.info? e with
      | some l, some c, some n, some z, some i => cond (Nat.ble l c && Nat.blt c 65536 && Nat.blt (c * i.bytes) 1048576 && Nat.beq z.cells.length n && Nat.blt 0 n) (K (.new (.cells none (repeats z.cells c)) (.slice l c true))) false
      | _, _, _, _, _ => false
    | _, _, _ => false
  | .slice t x lo hi mx => fun P H tmps _ K => match aop tmps x, lo.elim (some none) (fun x => (aop tmps x).map some), hi.elim (some none) (fun x => (aop tmps x).map some), mx.elim (some none) (fun x => (aop tmps x).map some) with
    | some x, some lo, some hi, some mx => aSlice P H t x lo hi mx K
    | _, _, _, _ => false
  | .fieldAddr s x i => fun P _ tmps _ K => match aop tmps x, fields P s with
    | some (.ptr b off), some fs => match (fs.drop i).head? with
      | some f => match size P f.type with
        | some (_ + 1) => (AV.ptr b (off + f.offset)).force fun a => K (.val a)
        | _ => false
      | none => false
    | _, _ => false
  | .field t x i => fun P _ tmps _ K => match aop tmps x, fields P t with
    | some (.agg cs), some fs => match (fs.drop i).head? with
      | some f => match part P f.type cs f.offset with | some a => K (.val a) | none => false
      | none => false
    | _, _ => false
  | .indexAddr t x i => fun P _ tmps _ K => match P.underlying t, aop tmps x, aop tmps i with
    | some (.array n e), some (.ptr b off), some i => match nat? i, size P e with
      | some i, some z => cond (Nat.blt i n) ((AV.ptr b (off + i * z)).force fun a => K (.val a)) false
      | _, _ => false
    | some (.slice e), some (.slice b off n _ _), some i => match nat? i, size P e with
      | some i, some z => cond (Nat.blt i n) ((AV.ptr b (off + i * z)).force fun a => K (.val a)) false
      | _, _ => false
    | _, _, _ => false
  | .index t x i => fun P _ tmps _ K => match P.underlying t, aop tmps x, aop tmps i with
    | some (.array n e), some (.agg cs), some i => match nat? i, size P e with
      | some i, some z => cond (Nat.blt i n) (match part P e cs (i * z) with | some a => K (.val a) | none => false) false
      | _, _ => false
    | some .string, some (.str s), some i => match nat? i with
      | some i => match (s.drop i).head? with | some n => K (.val (.int .u8 (.ofNat n))) | none => false
      | none => false
    | _, _, _ => false
  | .lookup t x k ok => fun P H tmps _ K => match P.underlying t, aop tmps x, aop tmps k with
    | some (.map kt e), some m, some k => match m with
      | .nilMap => match toV k, zero P e with
        | some kv, some z => match asPure P (Instr.checkKey true 10000 kt kv), asPure P (Instr.findKey kt kv []) with
          | some _, some none => K (.val (match ok with | true => .tuple [z, .bool false] | false => z))
          | _, _ => false
        | _, _ => false
      | .map b => match H.tr.get b with
        | some (.map _ es _) => match findK P kt k es with
          | some (some i) => match (es.drop i).head? with
            | some en => K (.val (match ok with | true => .tuple [en.val, .bool true] | false => en.val))
            | none => false
          | some none => match zero P e with
            | some z => K (.val (match ok with | true => .tuple [z, .bool false] | false => z))
            | none => false
          | none => false
        | _ => false
      | _ => false
    | _, _, _ => false
  | .range t x => fun P H tmps _ K => match P.underlying t, aop tmps x with
    | some (.map _ _), some .nilMap => K (.new (.iter none 0 0) .ptr)
    | some (.map _ _), some (.map b) => match H.tr.get b with
      | some (.map _ _ c) => K (.new (.iter (some b) c c) .ptr)
      | _ => false
    | _, _ => false
  | .entry x => fun _ H tmps _ K => match aop tmps x with
    | some (.ptr b 0) => match H.tr.get b with
      | some (.iter _ (some m) _ seen st) => match seen.getLast?, H.tr.get m with
        | some s, some (.map _ es c) => cond (Nat.beq c st) (match es.find? fun e => Nat.beq e.born s with
          | some e => K (.val (.tuple [e.key, e.val]))
          | none => false) false
        | _, _ => false
      | _ => false
    | _ => false
  | .extract x i => fun _ _ tmps _ K => match aop tmps x with
    | some (.tuple l) => match (l.drop i).head? with | some a => K (.val a) | none => false
    | _ => false
  | .call c => fun P H tmps o K => match c.callee with
    | .builtin .len => match c.argTypes.toList, c.args.toList with
      | t :: _, [x] => match aop tmps x with | some a => aLen P H t a K | none => false
      | _, _ => false
    | .builtin .cap => match c.argTypes.toList, c.args.toList with
      | t :: _, [x] => match P.underlying t, aop tmps x with
        | some (.slice _), some .nilSlice => K (.val (.int .i64 (.ofNat 0)))
        | some (.slice _), some (.slice _ _ _ cap true) => K (.val (.int .i64 (.ofNat cap)))
        | _, _ => false
      | _, _ => false
    | .builtin .max => match aops tmps c.args.toList with
      | some l => match toVs l with | some vs => lscal P (Builtin.max_ c.argTypes o.type ⟨vs⟩) fun a => K (.val a) | none => false
      | none => false
    | .builtin .min => match aops tmps c.args.toList with
      | some l => match toVs l with | some vs => lscal P (Builtin.min_ c.argTypes o.type ⟨vs⟩) fun a => K (.val a) | none => false
      | none => false
    | _ => false
  | _ => fun _ _ _ _ _ => false : Program → AH → List AV → Oper → (Res → Bool) → Bool) P H tmps o K
theorem evR_eq (P : Program) (H : AH) (tmps : List AV) (o : Oper) (K : Res → Bool) : evR P H tmps o K = evR0 P H tmps o K := by
  obtain ⟨dst, op, ty, pos, after, guard⟩ := o
  cases op
  case makeFunc f a b => cases f <;> rfl
  case makeMap t r => cases r <;> rfl
  all_goals rfl

def leafy : List AV → Bool
  | [] => true
  | .agg _ :: _ => false
  | .tuple _ :: _ => false
  | _ :: r => leafy r
def AH.write1 (H : AH) (b off : Nat) (vs : List AV) (K : AH → Bool) : Bool :=
  H.own b fun H => match H.tr.get b with
    | some (.cells c g cs) => wset cs off vs fun cs => H.put b (.cells c g cs) K
    | _ => false
/-- the cells of a block, from off on, become vs. -/
def AH.write (H : AH) (b off : Nat) (vs : List AV) (K : AH → Bool) : Bool :=
  match vs with
  | [] => K H
  | v :: r => cond (leafy (v :: r)) (H.write1 b off (v :: r) K) false

/-- of the class's blocks those that have no more than n cells; the others must not be looked at. -/
def AH.cull (n : Nat) : List Nat → AH → (List Nat → AH → Bool) → Bool
  | [], H, K => K [] H
  | x :: l, H, K => match H.tr.get x with
    | some (.cells _ _ cs) => cond (Nat.ble cs.length n) (AH.cull n l H fun l H => K (x :: l) H) (H.put x .dead fun H => AH.cull n l H K)
    | some .dead => AH.cull n l H K
    | _ => false

/-- vs, put behind the first len elements (of n cells each) of a slice that has a room of which nothing is known: in place, or in new memory. -/
def AH.grown (H : AH) (b n len : Nat) (vs : List AV) (need : Nat) (K : AV → AH → Bool) : Bool :=
  match H.tr.get b with
  | some (.cells c (some w) cs) => match H.mem.get c, firsts (len * n) cs with
    | some l, some old => cond (Nat.beq w n && leafy vs) (AH.cull (len * n) l H fun l H =>
        H.tr.set 60 H.next (.cells c (some n) (old ++ vs)) fun tr => H.mem.set 60 c (H.next :: l) fun mem =>
          fNat need fun need => fNat (H.next + 1) fun next => K (.slice H.next 0 need need false) { tr, mem, next }) false
    | _, _ => false
  | _ => false

/-- vs, m elements, put behind a slice. -/
def aAppend (P : Program) (H : AH) (e : TypeId) (n m : Nat) (s : AV) (vs : List AV) (K : AV → AH → Bool) : Bool :=
  match zero P e, P.info? e with
  | some z, some i => cond (Nat.blt 0 n && Nat.beq z.cells.length n && Nat.blt 0 i.bytes && Nat.blt i.bytes 65536 && Nat.blt m 65536) (match s with
      | .nilSlice => cond (Nat.beq m 0) (K .nilSlice H) (H.alloc (.cells (some n) vs) fun H1 => K (.slice H.next 0 m m false) H1)
      | .slice b off len cap ex => cond (Nat.blt len 65536 && Nat.blt cap 65536) (cond (Nat.ble (len + m) cap)
          (H.write b (off + len * n) vs fun H => (AV.slice b off (len + m) cap ex).force fun a => K a H)
          (match ex with
            | true => match elems H n s len with
              | none => false
              | some old => H.alloc (.cells (some n) (old ++ vs)) fun H1 => fNat (len + m) fun k => K (.slice H.next 0 k k false) H1
            | false => cond (Nat.beq off 0) (H.grown b n len vs (len + m) K) false)) false
      | _ => false) false
  | _, _ => false

def aMapSet (P : Program) (H : AH) (t : TypeId) (m k x : AV) (K : AH → Bool) : Bool :=
  match P.underlying t, m with
  | some (.map kt _), .map b => H.own b fun H => match H.tr.get b with
    | some (.map c es ck) => match findK P kt k es with
      | some (some i) => match (es.drop i).head? with
        | some e => match toV e.key, toV k with
          | some u, some v => cond (Instr.sameBits 10000 u v) (H.put b (.map c (es.take i ++ { key := k, val := x, born := e.born } :: es.drop (i + 1)) ck) K) false
          | _, _ => false
        | none => false
      | some none => fNat (ck + 1) fun ck' => H.put b (.map c (es ++ [{ key := k, val := x, born := ck }]) ck') K
      | none => false
    | _ => false
  | _, _ => false

def aDelete (P : Program) (H : AH) (t : TypeId) (m k : AV) (K : AH → Bool) : Bool :=
  match P.underlying t, m with
  | some (.map kt _), .nilMap => match toV k with
    | some v => match asPure P (Instr.checkKey true 10000 kt v) with | some _ => K H | none => false
    | none => false
  | some (.map kt _), .map b => H.own b fun H => match H.tr.get b with
    | some (.map c es ck) => match findK P kt k es with
      | some (some i) => H.put b (.map c (es.take i ++ es.drop (i + 1)) ck) K
      | some none => K H
      | none => false
    | _ => false
  | _, _ => false

def allB {α : Type} (f : α → Bool) : List α → Bool
  | [] => true
  | a :: r => match f a with | true => allB f r | false => false

def has (l : List Nat) (n : Nat) : Bool := match l with | [] => false | a :: r => cond (Nat.beq a n) true (has r n)

def aNext (H : AH) (x : AV) (K : AV → AH → Bool) : Bool :=
  match x with
  | .ptr b 0 => H.own b fun H => match H.tr.get b with
    | some (.iter _ none _ _ _) => K (.tuple [.bool false]) H
    | some (.iter c (some m) since seen last) => match H.tr.get m with
      | some (.map _ es ck) =>
        cond (!seen.isEmpty && !es.isEmpty && es.all fun e => Nat.ble last e.born) false
        (let left := es.filter fun e => !has seen e.born
         let old := left.filter fun e => Nat.blt e.born since
         let new := left.filter fun e => Nat.ble since e.born
         (match old.isEmpty with | true => K (.tuple [.bool false]) H | false => true) &&
         allB (fun e => H.put b (.iter c (some m) since (seen ++ [e.born]) ck) fun H => K (.tuple [.bool true, e.key, e.val]) H) (old ++ new))
      | _ => false
    | _ => false
  | _ => false

/-- an operation that writes. -/
def evE (P : Program) (H : AH) (tmps : List AV) (o : Oper) (K : AV → AH → Bool) : Bool :=
  match o.op with
  | .store t x y => match aop tmps x, aop tmps y, size P t with
    | some (.ptr b off), some a, some n => cond (Nat.beq a.cells.length n && Nat.blt 0 n) (H.write b off a.cells fun H => K (.tuple []) H) false
    | _, _, _ => false
  | .mapUpdate t m k x => match aop tmps m, aop tmps k, aop tmps x with
    | some m, some k, some x => aMapSet P H t m k x fun H => K (.tuple []) H
    | _, _, _ => false
  | .insert t m k x => match aop tmps m, aop tmps k, aop tmps x with
    | some m, some k, some x => aMapSet P H t m k x fun H => K (.tuple []) H
    | _, _, _ => false
  | .next x false => match aop tmps x with
    | some a => aNext H a K
    | none => false
  | .convert s d x => match P.underlying s, P.underlying d, aop tmps x with
    | some (.slice _), some (.slice e), some (.slice b off len cap ex) => match P.underlying e with
      | some (.int .u8) => cond (Nat.beq s d) (match cellsAt H b with | some _ => K (.slice b off len cap ex) H | none => false) false
      | _ => false
    | _, _, _ => false
  | .call c => match c.callee with
    | .builtin .append => match c.argTypes.toList, c.args.toList with
      | t :: t' :: _, [s, x] => match P.underlying t, P.underlying t', aop tmps s, aop tmps x with
        | some (.slice e), some d, some s, some x => match size P e with
          | some n => match d with
            | .int _ => match nat? x, zero P e with
              | some m, some z => cond (Nat.blt m 65536) (aAppend P H e n m s (repeats z.cells m) K) false
              | _, _ => false
            | _ => match lenOf x with
              | some m => match elems H n x m with
                | some vs => aAppend P H e n m s vs K
                | none => false
              | none => false
          | none => false
        | _, _, _, _ => false
      | _, _ => false
    | .builtin .copy => match c.argTypes.toList, c.args.toList with
      | t :: _, [d, s] => match P.underlying t, aop tmps d, aop tmps s with
        | some (.slice e), some d, some s => match size P e, lenOf d, lenOf s with
          | some n, some dl, some sl => match elems H n s (Nat.min sl dl) with
            | some vs => match d with
              | .nilSlice => K (.int .i64 (.ofNat 0)) H
              | .slice b off _ _ _ => H.write b off vs fun H => fNat (Nat.min sl dl) fun k => K (.int .i64 (.ofNat k)) H
              | _ => false
            | none => false
          | _, _, _ => false
        | _, _, _ => false
      | _, _ => false
    | .builtin .delete => match c.argTypes.toList, c.args.toList with
      | t :: _, [m, k] => match aop tmps m, aop tmps k with
        | some m, some k => aDelete P H t m k fun H => K (.tuple []) H
        | _, _ => false
      | _, _ => false
    | .builtin .clear => match c.argTypes.toList, c.args.toList with
      | t :: _, [x] => match P.underlying t, aop tmps x with
        | some (.slice e), some x => match x with
          | .nilSlice => K (.tuple []) H
          | .empty => K (.tuple []) H
          | .slice b off len _ _ => match zero P e, size P e with
            | some z, some n => cond (Nat.beq z.cells.length n) (H.write b off (repeats z.cells len) fun H => K (.tuple []) H) false
            | _, _ => false
          | _ => false
        | some (.map _ _), some .nilMap => K (.tuple []) H
        | some (.map _ _), some (.map b) => H.own b fun H => match H.tr.get b with
          | some (.map c _ ck) => H.put b (.map c [] ck) fun H => K (.tuple []) H
          | _ => false
        | _, _ => false
      | _, _ => false
    | _ => false
  | _ => false

/-- what is called: a function, or a round of a loop over a function. -/
inductive Tgt where
  | fn (f : Nat)
  | yield (b : Nat)
abbrev CallF := Tgt → List AV → AH → (AV → AH → Bool) → Bool

/-- what is called, and all that it is handed. -/
def callee (tmps : List AV) (c : Call) : Option (Tgt × List AV) :=
  match c.callee with
  | .value f => match aop tmps f, aops tmps c.args.toList with
    | some (.fn g first caught), some l => some (.fn g, first ++ l ++ caught)
    | some (.yield b), some l => some (.yield b, l)
    | _, _ => none
  | _ => none

/-- 0: it tells a value; 1: it writes; 2: it calls. -/
def kind (P : Program) (o : Oper) : Nat :=
  match o.op with
  | .store .. | .mapUpdate .. | .insert .. | .next .. => 1
  | .convert s d _ => match P.underlying s, P.underlying d with
    | some (.slice _), some (.slice _) => 1
    | _, _ => 0
  | .call c => match c.callee with
    | .builtin .append | .builtin .copy | .builtin .delete | .builtin .clear => 1
    | .builtin _ => 0
    | _ => 2
  | _ => 0

/-- an operation that writes or calls. -/
def evW (P : Program) (call : CallF) (H : AH) (tmps : List AV) (o : Oper) (K : AV → AH → Bool) : Bool :=
  cond (Nat.beq (kind P o) 1) (evE P H tmps o K) (match o.op with
    | .call c => match callee tmps c with
      | some (f, args) => call f args H K
      | none => false
    | _ => false)

def put (tmps : List AV) (d : Option Nat) (a : AV) (K : List AV → Bool) : Bool :=
  match d with
  | none => K tmps
  | some d => aset tmps d a K

/-- is an operation wanted? -/
def wantedA (ops : Array Oper) (tmps : List AV) (o : Oper) : Option Bool :=
  match o.guard with
  | none => some true
  | some (j, want) => match ops.toList.drop j with
    | q :: _ => match q.dst with
      | some d => match aget tmps d with
        | .bool b => some (b == want)
        | .tuple [] => some false
        | _ => none
      | none => none
    | [] => none

/-- a value's operation, done. -/
def done (H : AH) (r : Res) (K : AV → AH → Bool) : Bool :=
  match r with
  | .val a => K a H
  | .new n s => H.alloc n fun H' => K (s.av H.next) H'

/-- a truth of which nothing is known is looked at both ways. -/
def sides (a : AV) (K : AV → Bool) : Bool := match a with
  | .unkB => match K (.bool true) with | true => K (.bool false) | false => false
  | a => K a
/-- operations in a row. -/
def evOps (P : Program) (call : CallF) (ops : Array Oper) : List Oper → List AV → AH → (List AV → AH → Bool) → Bool
  | [], tmps, H, K => K tmps H
  | o :: r, tmps, H, K => match wantedA ops tmps o with
    | none => false
    | some false => put tmps o.dst (.tuple []) fun tmps => evOps P call ops r tmps H K
    | some true => match kind P o with
      | 0 => evR P H tmps o fun q => done H q fun a H => sides a fun a => put tmps o.dst a fun tmps => evOps P call ops r tmps H K
      | _ => evW P call H tmps o fun a H => put tmps o.dst a fun tmps => evOps P call ops r tmps H K

/-! a region that draws its order. -/
/-- what stands directly ahead of an operation, as bits. -/
def direct (o : Oper) : Nat := o.after.toList.foldl (fun s e => cond (Region.binds .any e) (s ||| 2 ^ e.on) s) 0
def bit (s i : Nat) : Bool := Nat.testBit s i
/-- for each operation all that stands ahead of it. -/
def closeM (acc : List Nat) (o : Oper) : Nat := o.after.toList.foldl (fun s e => cond (Region.binds .any e) (s ||| 2 ^ e.on ||| acc.getD e.on 0) s) 0
def closures : List Oper → List Nat → List Nat
  | [], acc => acc
  | o :: r, acc => closures r (acc ++ [closeM acc o])
def tmpsOf (ops : List Oper) (o : Oper) : List Nat :=
  (o.op.operands.toList.filterMap fun | .tmp t => some t | _ => none) ++ (match o.guard with | none => [] | some (j, _) => match ops.drop j with | q :: _ => q.dst.toList | [] => [])
def idxs {α : Type} (l : List α) : Nat → List (Nat × α) := fun k => match l with | [] => [] | a :: r => (k, a) :: idxs r (k + 1)
/-- the order is one in which all slots are clear. -/
def drawOK (ops : List Oper) : Bool :=
  let cl := closures ops []
  let io := idxs ops 0
  allB (fun (i, o) =>
    (allB (fun e : Edge => !Region.binds .any e || Nat.blt e.on i) o.after.toList) &&
    (match o.guard with | none => true | some (j, _) => bit (cl.getD i 0) j) &&
    allB (fun (k, q) => match q.dst with
      | none => true
      | some d => Nat.beq k i || ((match o.dst with | some e => !Nat.beq d e | none => true) &&
        (!has (tmpsOf ops o) d || bit (cl.getD i 0) k || bit (cl.getD k 0) i))) io &&
    (match o.dst with | some d => !has (tmpsOf ops o) d | none => true)) io

structure Rec where
  i : Nat
  o : Oper
  tmps : List AV
  res : Res
  id : Nat
def NewB.beq : NewB → NewB → Bool
  | .cells none a, .cells none b => AV.beqs a b
  | .cells (some g) a, .cells (some h) b => Nat.beq g h && AV.beqs a b
  | .map, .map => true
  | .iter none a b, .iter none c d => Nat.beq a c && Nat.beq b d
  | .iter (some m) a b, .iter (some n) c d => Nat.beq m n && Nat.beq a c && Nat.beq b d
  | _, _ => false
def Sh.beq : Sh → Sh → Bool
  | .ptr, .ptr => true
  | .slice a b e, .slice c d f => Nat.beq a c && Nat.beq b d && (e == f)
  | .map, .map => true
  | _, _ => false
def Res.beq : Res → Res → Bool
  | .val a, .val b => a.beq b
  | .new n s, .new m t => n.beq m && s.beq t
  | _, _ => false

/-- the first operation that is not done, has all behind it, and tells (or is not wanted); what its test says. -/
def pickV (P : Program) (ops : Array Oper) (dn : Nat) (tmps : List AV) : List (Nat × Oper) → Option (Nat × Oper × Bool)
  | [] => none
  | (i, o) :: r => cond (bit dn i) (pickV P ops dn tmps r) (cond (Nat.beq (direct o &&& dn) (direct o))
      (match wantedA ops tmps o with
        | some false => some (i, o, false)
        | some true => match kind P o with | 0 => some (i, o, true) | _ => pickV P ops dn tmps r
        | none => pickV P ops dn tmps r)
      (pickV P ops dn tmps r))
/-- the first operation that is not done and has all behind it. -/
def pickE (dn : Nat) : List (Nat × Oper) → Option (Nat × Oper)
  | [] => none
  | (i, o) :: r => cond (bit dn i) (pickE dn r) (cond (Nat.beq (direct o &&& dn) (direct o)) (some (i, o)) (pickE dn r))

/-- what was told ahead, told again. -/
def again (P : Program) (H : AH) (anc : Nat) : List Rec → Bool
  | [] => true
  | q :: r => cond (bit anc q.i) (again P H anc r) (match evR P H q.tmps q.o fun x => x.beq q.res with | true => again P H anc r | false => false)

def isVal : Res → Bool
  | .val _ => true
  | .new _ _ => false
def evDraw (P : Program) (call : CallF) (ops : Array Oper) (io : List (Nat × Oper)) (cl : List Nat) : Nat → Nat → List AV → AH → List Rec → (List AV → AH → Bool) → Bool
  | 0, _, _, _, _, _ => false
  | n + 1, dn, tmps, H, rs, K => match pickV P ops dn tmps io with
    | some (i, o, false) => fNat (dn ||| 2 ^ i) fun dn => put tmps o.dst (.tuple []) fun tmps' => evDraw P call ops io cl n dn tmps' H rs K
    | some (i, o, true) => evR P H tmps o fun q => done H q fun a H' => match isVal q || again P H' 0 ({ i, o, tmps, res := q, id := H.next } :: rs) with
        | true => fNat (dn ||| 2 ^ i) fun dn => put tmps o.dst a fun tmps' => evDraw P call ops io cl n dn tmps' H' ({ i, o, tmps, res := q, id := H.next } :: rs) K
        | false => false
    | none => match pickE dn io with
      | none => cond (allB (fun (i, _) => bit dn i) io) (K tmps H) false
      | some (i, o) => match wantedA ops tmps o with
        | some true => cond (allB (fun (k, q) => bit dn k || Nat.beq k i || (Nat.beq (kind P q) 0 && !Nat.beq (direct q &&& dn) (direct q)) || bit (cl.getD k 0) i) io)
            (evW P call H tmps o fun a H => match again P H (cl.getD i 0) rs with
              | true => fNat (dn ||| 2 ^ i) fun dn => put tmps o.dst a fun tmps => evDraw P call ops io cl n dn tmps H rs K
              | false => false) false
        | _ => false

inductive Ex where
  | normal
  | exit (id : Nat)
  | goto (l : Nat)
  | ret

/-- a loop over a function has been left: what jump is pending, if any. -/
def endLoop (H : AH) (b : Nat) (K : Option Code → AH → Bool) : Bool :=
  H.own b fun H => match H.tr.get b with
    | some (.loop c st pend t p a bd) => cond (Nat.beq st 1) false (H.put b (.loop c 3 pend t p a bd) fun H => K pend H)
    | _ => false

def evCode (P : Program) (call : CallF) (rd : Bool) : Nat → Code → List AV → AH → (Ex → List AV → AH → Bool) → Bool
  | 0, _, _, _, _ => false
  | n + 1, c, tmps, H, K => match c with
    | .skip => K .normal tmps H
    | .label _ => K .normal tmps H
    | .region _ ops false => evOps P call ops ops.toList tmps H fun tmps H => K .normal tmps H
    | .region _ ops true => cond (drawOK ops.toList) (evDraw P call ops (idxs ops.toList 0) (closures ops.toList []) (2 * ops.toList.length + 1) 0 tmps H [] fun tmps H => K .normal tmps H) false
    | .seq a b => evCode P call rd n a tmps H fun e tmps H => match e with
      | .normal => evCode P call rd n b tmps H K
      | e => K e tmps H
    | .cond x a b => match aop tmps x with
      | some (.bool true) => evCode P call rd n a tmps H K
      | some (.bool false) => evCode P call rd n b tmps H K
      | some .unkB => match evCode P call rd n a tmps H K with
        | true => evCode P call rd n b tmps H K
        | false => false
      | _ => false
    | .block id b => evCode P call rd n b tmps H fun e tmps H => match e with
      | .exit j => cond (Nat.beq j id) (K .normal tmps H) (K (.exit j) tmps H)
      | e => K e tmps H
    | .loop b => evCode P call rd n b tmps H fun e tmps H => match e with
      | .normal => evCode P call rd n (.loop b) tmps H K
      | e => K e tmps H
    | .exit id => K (.exit id) tmps H
    | .goto l => K (.goto l) tmps H
    | .ret => K .ret tmps H
    | .rangeFunc f ps as bd => match rd, aop tmps f with
      | false, some (.fn g first caught) => H.alloc (.loop tmps ps.toList as bd) fun H1 =>
          call (.fn g) (first ++ [.yield H.next] ++ caught) H1 fun _ H2 => endLoop H2 H.next fun j H3 => match j with
            | none => K .normal tmps H3
            | some c => evCode P call rd n c tmps H3 K
      | _, _ => false
    | _ => false

def setParams : List Nat → List AV → List AV → (List AV → Bool) → Bool
  | [], [], t, K => K t
  | p :: ps, a :: as, t, K => aset t p a fun t => setParams ps as t K
  | _, _, _, _ => false
def jumpOf : Ex → Option Code
  | .normal => none
  | .exit id => some (.exit id)
  | .goto l => some (.goto l)
  | .ret => some .ret

def resOne (P : Program) (H : AH) (tmps : List AV) : ResultVar → Option AV
  | .tmp t => some (aget tmps t)
  | .cell a t => match aget tmps a with
    | .ptr b off => loadAt P H t b off
    | _ => none
def resAll (P : Program) (H : AH) (tmps : List AV) : List ResultVar → Option (List AV)
  | [] => some []
  | r :: l => match resOne P H tmps r, resAll P H tmps l with | some a, some l => some (a :: l) | _, _ => none
def outV : List AV → AV
  | [a] => a
  | l => .tuple l

def undefs : Nat → List AV
  | 0 => []
  | n + 1 => .tuple [] :: undefs n

/-- a call. -/
def evCall (P : Program) (o : Nat → Bool) : Nat → CallF
  | 0 => fun _ _ _ _ => false
  | n + 1 => fun t args H K => match t with
    | .fn f => match o f && args.isEmpty with
     | true => K (.bool true) H
     | false => match P.funcs[f]? with
      | none => false
      | some fn => match fn.body with
        | none => false
        | some c => evCode P (evCall P o n) false n c (args ++ undefs (fn.ntmps - args.length)) H fun e tmps H => match e with
          | .normal => match resAll P H tmps fn.results.toList with | some l => K (outV l) H | none => false
          | .ret => match resAll P H tmps fn.results.toList with | some l => K (outV l) H | none => false
          | _ => false
    | .yield b => match H.tr.get b with
      | some (.loop _ _ _ t ps as bd) => setParams ps args t fun tmps =>
          evCode P (evCall P o n) true n as tmps H fun e tmps H => match e with
            | .normal => H.own b fun H => match H.tr.get b with
              | some (.loop c 0 pend t ps as bd2) => H.put b (.loop c 1 pend t ps as bd2) fun H =>
                  evCode P (evCall P o n) true n bd tmps H fun e _ H => H.own b fun H => match H.tr.get b with
                    | some (.loop c _ _ t ps as bd) => match jumpOf e with
                      | none => H.put b (.loop c 0 none t ps as bd) fun H => K (.bool true) H
                      | some j => H.put b (.loop c 2 (some j) t ps as bd) fun H => K (.bool false) H
                    | _ => false
              | _ => false
            | _ => false
      | _ => false

def isTrue (a : AV) : Bool := match a with | .bool true => true | _ => false
def AH.none : AH := { tr := .nil, mem := .nil, next := 0 }
end
end Go.Proofs.Ytandjcalokecjaa.Ev
