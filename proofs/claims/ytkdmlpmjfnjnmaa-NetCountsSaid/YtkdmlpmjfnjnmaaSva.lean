import Derived.WalkKit
/-! runs on abstract memory: what a call does in whatever memory, as far as nothing of what came in is looked at. -/
namespace Go.Proofs.Ytkdmlpmjfnjnmaa.Sv
open Go
noncomputable section

/-- values: b names a block of the abstract memory; an atom is a value of which nothing is known. -/
inductive AV where
  | bool (b : Bool)
  | int (k : IntKind) (n : Int)
  | str (s : List Nat)
  | nilPtr
  | ptr (b off : Nat)
  | nilSlice
  | slice (b off len cap : Nat) (exact : Bool)
  | empty
  | nilMap
  | map (b : Nat)
  | nilFn
  | fn (f : Nat) (first caught : List AV)
  | yield (b : Nat)
  | agg (cs : List AV)
  | tuple (vs : List AV)
  | atom (i : Nat)
  | any
  | anySlice
  | unkI (k : IntKind)
  | unkB
  | half (neg : Bool)
  | sint (k : IntKind) (n : Int)
  | data (z n : Nat) (f : Nat → List AV)
  | dptr (cs : List AV)
  | top
  | gsl (b n : Nat)
  | gptr (b i o : Nat)
  | part (b lo n : Nat)
  | sbool (b : Bool)
  deriving Inhabited

/-- a fork of the way: both sides are gone. -/
@[irreducible] def fork (c x y : Bool) : Bool := cond c x y
/-- a map's entry. -/
structure Ent where
  key : AV
  val : AV
  born : Nat

/-- a block: of cells, of which more may stand behind (grow: how many cells an element has); a map; an iterator; one that must not be looked at. -/
inductive Blk where
  | cells (cls : Nat) (grow : Option Nat) (cs : List AV)
  | map (cls : Nat) (es : List Ent) (clock : Nat)
  | iter (cls : Nat) (m : Option Nat) (since : Nat) (seen : List Nat) (stepped : Nat)
  | loop (cls : Nat) (state : Nat) (pending : Option Code) (tmps : List AV) (params : List Nat) (assign body : Code)
  | dead
  | seq (cls z n : Nat) (f : Nat → List AV)

inductive Tr (α : Type) where
  | nil
  | node (l : Tr α) (v : Option α) (r : Tr α)

namespace Tr
variable {α : Type}
def get (t : Tr α) (k : Nat) : Option α := @Tr.rec α (fun _ => Nat → Option α) (fun _ => none)
  (fun _ v _ gl gr k => @Bool.rec (fun _ => Option α) (@Bool.rec (fun _ => Option α) (gr (Nat.sub (Nat.div k (nat_lit 2)) (nat_lit 1))) (gl (Nat.div k (nat_lit 2))) (Nat.beq (Nat.mod k (nat_lit 2)) (nat_lit 1))) v (Nat.beq k (nat_lit 0))) t k
def set (f : Nat) (t : Tr α) (k : Nat) (v : α) (K : Tr α → Bool) : Bool := @Nat.rec (fun _ => Tr α → Nat → (Tr α → Bool) → Bool) (fun _ _ _ => false)
  (fun _ s t k K => @Tr.rec α (fun _ => Bool)
    (@Bool.rec (fun _ => Bool) (@Bool.rec (fun _ => Bool) (s .nil (Nat.sub (Nat.div k (nat_lit 2)) (nat_lit 1)) fun r => K (.node .nil none r)) (s .nil (Nat.div k (nat_lit 2)) fun l => K (.node l none .nil)) (Nat.beq (Nat.mod k (nat_lit 2)) (nat_lit 1))) (K (.node .nil (some v) .nil)) (Nat.beq k (nat_lit 0)))
    (fun l x r _ _ => @Bool.rec (fun _ => Bool) (@Bool.rec (fun _ => Bool) (s r (Nat.sub (Nat.div k (nat_lit 2)) (nat_lit 1)) fun r => K (.node l x r)) (s l (Nat.div k (nat_lit 2)) fun l => K (.node l x r)) (Nat.beq (Nat.mod k (nat_lit 2)) (nat_lit 1))) (K (.node l (some v) r)) (Nat.beq k (nat_lit 0))) t) f t k K
end Tr

/-- the abstract memory: its blocks; the blocks of each class (those that may share memory); the next name. -/
structure AH where
  tr : Tr Blk
  mem : Tr (List Nat)
  next : Nat

def fNat (n : Nat) (K : Nat → Bool) : Bool := match n with | 0 => K 0 | m + 1 => K (m + 1)
def fInt (n : Int) (K : Int → Bool) : Bool := match n with | .ofNat m => fNat m fun m => K (.ofNat m) | .negSucc m => fNat m fun m => K (.negSucc m)
/-- a value, its numbers worked out. -/
def AV.force (a : AV) (K : AV → Bool) : Bool :=
  match a with
  | .int k n => fInt n fun n => K (.int k n)
  | .bool b => match b with | true => K (.bool true) | false => K (.bool false)
  | .ptr b off => fNat b fun b => fNat off fun off => K (.ptr b off)
  | .slice b off len cap ex => fNat b fun b => fNat off fun off => fNat len fun len => fNat cap fun cap => match ex with | true => K (.slice b off len cap true) | false => K (.slice b off len cap false)
  | a => K a

/-- a cell, its numbers worked out. -/
def force1 (a : AV) (K : AV → Bool) : Bool :=
  match a with
  | .int k n => fInt n fun n => K (.int k n)
  | .bool b => match b with | true => K (.bool true) | false => K (.bool false)
  | .ptr b off => fNat b fun b => fNat off fun off => K (.ptr b off)
  | .slice b off len cap ex => fNat b fun b => fNat off fun off => fNat len fun len => fNat cap fun cap => match ex with | true => K (.slice b off len cap true) | false => K (.slice b off len cap false)
  | .str s => K (.str s)
  | .nilPtr => K .nilPtr
  | .nilSlice => K .nilSlice
  | .empty => K .empty
  | .nilMap => K .nilMap
  | .map b => fNat b fun b => K (.map b)
  | .nilFn => K .nilFn
  | .fn f a b => K (.fn f a b)
  | .yield b => fNat b fun b => K (.yield b)
  | .agg cs => K (.agg cs)
  | .tuple cs => K (.tuple cs)
  | .atom i => K (.atom i)
  | .any => K .any
  | .anySlice => K .anySlice
  | .unkI k => K (.unkI k)
  | .unkB => K .unkB
  | .half n => K (.half n)
  | .sint k n => K (.sint k n)
  | .data z n f => K (.data z n f)
  | .dptr cs => K (.dptr cs)
  | .top => K .top
  | .gsl b n => fNat b fun b => K (.gsl b n)
  | .gptr b i o => fNat b fun b => K (.gptr b i o)
  | .part b lo n => fNat b fun b => K (.part b lo n)
  | .sbool b => K (.sbool b)
def forceL (l : List AV) : (List AV → Bool) → Bool := @List.rec AV (fun _ => (List AV → Bool) → Bool) (fun K => K []) (fun a _ rec K => force1 a fun a => rec fun r => K (a :: r)) l
def force2 (a : AV) (K : AV → Bool) : Bool :=
  match a with
  | .agg cs => forceL cs fun cs => K (.agg cs)
  | a => force1 a K
def forceL2 (l : List AV) : (List AV → Bool) → Bool := @List.rec AV (fun _ => (List AV → Bool) → Bool) (fun K => K []) (fun a _ rec K => force2 a fun a => rec fun r => K (a :: r)) l
def AV.fd (a : AV) (K : AV → Bool) : Bool :=
  match a with
  | .agg cs => forceL cs fun cs => K (.agg cs)
  | .tuple cs => forceL2 cs fun cs => K (.tuple cs)
  | a => force1 a K
def Blk.cls : Blk → Option Nat
  | .cells c _ _ => some c
  | .map c _ _ => some c
  | .iter c _ _ _ _ => some c
  | .loop c _ _ _ _ _ _ => some c
  | .dead => none
  | .seq c _ _ _ => some c

def AH.put (H : AH) (b : Nat) (k : Blk) (K : AH → Bool) : Bool := @AH.rec (fun _ => Bool) (fun t m n => t.set 60 b k fun t => K ⟨t, m, n⟩) H
/-- all but b of these must not be looked at any more. -/
def AH.kill (b : Nat) : List Nat → AH → (AH → Bool) → Bool
  | [], H, K => K H
  | x :: l, H, K => cond (Nat.beq x b) (kill b l H K) (H.put x .dead fun H => kill b l H K)
/-- b is written: what may share its memory must not be looked at any more. -/
def AH.own (H : AH) (b : Nat) (K : AH → Bool) : Bool :=
  match (H.tr.get b).bind Blk.cls with
  | none => false
  | some c => match H.mem.get c with
    | none => false
    | some l => match l with
      | [_] => K H
      | l => AH.kill b l H fun H => @AH.rec (fun _ => Bool) (fun t m n => m.set 60 c [b] fun m => K ⟨t, m, n⟩) H

/-- new blocks. -/
inductive NewB where
  | cells (grow : Option Nat) (cs : List AV)
  | map
  | iter (m : Option Nat) (since : Nat) (stepped : Nat)
  | loop (tmps : List AV) (params : List Nat) (assign body : Code)
  | seq (z n : Nat) (f : Nat → List AV)
  | ents (es : List Ent) (ck : Nat)
def NewB.blk (c : Nat) : NewB → Blk
  | .cells g cs => .cells c g cs
  | .map => .map c [] 0
  | .iter m s t => .iter c m s [] t
  | .loop t p a b => .loop c 0 none t p a b
  | .seq z n f => .seq c z n f
  | .ents es ck => .map c es ck
inductive Sh where
  | ptr
  | slice (len cap : Nat) (exact : Bool)
  | map
def Sh.av (b : Nat) : Sh → AV
  | .ptr => .ptr b 0
  | .slice l c e => .slice b 0 l c e
  | .map => .map b
def AH.alloc (H : AH) (n : NewB) (K : AH → Bool) : Bool :=
  @AH.rec (fun _ => Bool) (fun t m x => t.set 60 x (n.blk x) fun t => m.set 60 x [x] fun m => fNat (Nat.add x (nat_lit 1)) fun x => K ⟨t, m, x⟩) H

/-- what an operation tells that leaves memory as it is: a value, or a new block. -/
inductive Res where
  | val (a : AV)
  | new (n : NewB) (s : Sh)

def leaf : Value → Option AV
  | .bool b => some (.bool b)
  | .int k n => some (.int k n)
  | .string s => some (.str (s.data.toList.map (·.toNat)))
  | .pointer none => some .nilPtr
  | .slice none 0 0 => some .nilSlice
  | .map none => some .nilMap
  | .nilFunc => some .nilFn
  | .tuple ⟨[]⟩ => some (.tuple [])
  | _ => none
def leaves : List Value → Option (List AV)
  | [] => some []
  | v :: r => match leaf v, leaves r with | some a, some l => some (a :: l) | _, _ => none
def ofV : Value → Option AV
  | .agg ⟨l⟩ => (leaves l).map .agg
  | v => leaf v

mutual
/-- the value itself, where nothing in it names a block. -/
def toV : AV → Option Value
  | .bool b => some (.bool b)
  | .int k n => some (.int k n)
  | .str s => some (.string ⟨⟨s.map UInt8.ofNat⟩⟩)
  | .nilPtr => some (.pointer none)
  | .nilSlice => some (.slice none 0 0)
  | .nilMap => some (.map none)
  | .nilFn => some .nilFunc
  | .agg cs => (toVs cs).map fun l => .agg ⟨l⟩
  | .tuple cs => (toVs cs).map fun l => .tuple ⟨l⟩
  | _ => none
def toVs : List AV → Option (List Value)
  | [] => some []
  | a :: r => match toV a, toVs r with | some v, some l => some (v :: l) | _, _ => none
end

mutual
def AV.beq : AV → AV → Bool
  | .bool a, .bool b => a == b
  | .int j a, .int k b => decide (j = k) && decide (a = b)
  | .str a, .str b => decide (a = b)
  | .nilPtr, .nilPtr => true
  | .ptr a x, .ptr b y => Nat.beq a b && Nat.beq x y
  | .nilSlice, .nilSlice => true
  | .slice a x l c e, .slice b y m d f => Nat.beq a b && Nat.beq x y && Nat.beq l m && Nat.beq c d && (e == f)
  | .empty, .empty => true
  | .nilMap, .nilMap => true
  | .map a, .map b => Nat.beq a b
  | .nilFn, .nilFn => true
  | .fn f a b, .fn g c d => Nat.beq f g && AV.beqs a c && AV.beqs b d
  | .yield a, .yield b => Nat.beq a b
  | .agg a, .agg b => AV.beqs a b
  | .tuple a, .tuple b => AV.beqs a b
  | .atom a, .atom b => Nat.beq a b
  | .any, .any => true
  | .anySlice, .anySlice => true
  | .unkI j, .unkI k => decide (j = k)
  | .unkB, .unkB => true
  | .half a, .half b => a == b
  | .sint j a, .sint k b => decide (j = k) && decide (a = b)
  | .top, .top => true
  | .gsl b n, .gsl c m => Nat.beq b c && decide (n = m)
  | .gptr a x y, .gptr b u v => Nat.beq a b && decide (x = u) && decide (y = v)
  | _, _ => false
def AV.beqs : List AV → List AV → Bool
  | [], [] => true
  | a :: r, b :: s => AV.beq a b && AV.beqs r s
  | _, _ => false
end

/-- what a program text tells that looks at no memory. -/
def asPure {α : Type} (P : Program) : Sem α → Option α
  | .pure a => some a
  | .program k => asPure P (k P)
  | _ => none

def aget0 (l : List AV) (n : Nat) : AV := @List.rec AV (fun _ => Nat → AV) (fun _ => .tuple []) (fun a _ g n => @Nat.rec (fun _ => AV) a (fun m _ => g m) n) l n
def aset0 (l : List AV) (n : Nat) (v : AV) (K : List AV → Bool) : Bool := @List.rec AV (fun _ => Nat → (List AV → Bool) → Bool) (fun _ K => K [])
  (fun a r s n K => @Nat.rec (fun _ => Bool) (K (v :: r)) (fun m _ => s m fun r => K (a :: r)) n) l n K
def skip8 (l : List AV) : List AV := match l with
  | _ :: _ :: _ :: _ :: _ :: _ :: _ :: _ :: r => r
  | _ => []
def agetC (q : Nat) (l : List AV) (n : Nat) : AV := @Nat.rec (fun _ => List AV → AV) (fun l => aget0 l n) (fun _ g l => g (skip8 l)) q l
def aget (l : List AV) (n : Nat) : AV := agetC (Nat.div n (nat_lit 8)) l (Nat.mod n (nat_lit 8))
def asetC (q : Nat) (l : List AV) (n : Nat) (v : AV) (K : List AV → Bool) : Bool := @Nat.rec (fun _ => List AV → (List AV → Bool) → Bool) (fun l K => aset0 l n v K)
  (fun _ s l K => match l with
    | a :: b :: c :: d :: e :: f :: g :: h :: r => s r fun r => K (a :: b :: c :: d :: e :: f :: g :: h :: r)
    | l => K l) q l K
def aset (l : List AV) (n : Nat) (v : AV) (K : List AV → Bool) : Bool := asetC (Nat.div n (nat_lit 8)) l (Nat.mod n (nat_lit 8)) v K
def aop (tmps : List AV) : Operand → Option AV
  | .tmp t => some (aget tmps t)
  | .const v => ofV v
  | .global _ => none
  | .func f => some (.fn f [] [])
def aops (tmps : List AV) : List Operand → Option (List AV)
  | [] => some []
  | x :: r => match aop tmps x, aops tmps r with | some a, some l => some (a :: l) | _, _ => none

def AV.noTop : AV → Bool
  | .top => false
  | _ => true
def AV.cells : AV → List AV
  | .agg cs => cs
  | a => [a]


/-- the first n. -/
def firsts : Nat → List AV → Option (List AV)
  | 0, _ => some []
  | _ + 1, [] => none
  | n + 1, a :: r => match firsts n r with | some l => some (a :: l) | none => none
def span (cs : List AV) (off n : Nat) : Option (List AV) := firsts n (cs.drop off)
/-- l with the elements from off on replaced by vs, if so many stand there. -/
def wset : List AV → Nat → List AV → (List AV → Bool) → Bool
  | l, _, [], K => K l
  | [], _, _ :: _, _ => false
  | _ :: r, 0, v :: vs, K => wset r 0 vs fun r => K (v :: r)
  | a :: r, o + 1, v :: vs, K => wset r o (v :: vs) fun r => K (a :: r)

def und (P : Program) (t : TypeId) : Option TypeDesc := P.underlying t
def size (P : Program) (t : TypeId) : Option Nat := (P.info? t).map (·.size)
def isAgg (P : Program) (t : TypeId) : Option Bool := match P.underlying t with | none => none | some (.struct _) => some true | some (.array _ _) => some true | some _ => some false
def zero (P : Program) (t : TypeId) : Option AV := match P.info? t with | none => none | some i => match i.zero with | none => none | some v => ofV v
/-- a part of a struct or an array. -/
def part (P : Program) (t : TypeId) (cs : List AV) (off : Nat) : Option AV :=
  match isAgg P t, size P t with
  | some true, some n => (span cs off n).map .agg
  | some false, some _ => (cs.drop off).head?
  | _, _ => none
def fields (P : Program) (t : TypeId) : Option (List Field) := match P.underlying t with | some (.struct fs) => some fs.toList | _ => none

def repeats (l : List AV) : Nat → List AV
  | 0 => []
  | n + 1 => l ++ repeats l n

/-- where the fields of a struct stand. -/
def places (P : Program) : List Field → Option (List (Nat × Nat))
  | [] => some []
  | f :: r => match size P f.type, places P r with | some n, some l => some ((f.offset, n) :: l) | _, _ => none
def fillG (place : Nat → Option (Nat × Nat)) : List (Nat × AV) → List AV → (List AV → Bool) → Bool
  | [], cs, K => K cs
  | (i, v) :: r, cs, K => match place i with
    | none => false
    | some (off, n) => cond (v.noTop && Nat.beq v.cells.length n && Nat.ble (off + n) cs.length) (wset cs off v.cells fun cs => fillG place r cs K) false

def aparts (tmps : List AV) : List (Nat × Operand) → Option (List (Nat × AV))
  | [] => some []
  | (i, x) :: r => match aop tmps x, aparts tmps r with | some a, some l => some ((i, a) :: l) | _, _ => none

def cellsAt (H : AH) (b : Nat) : Option (Option Nat × List AV) :=
  match H.tr.get b with
  | some (.cells _ g cs) => some (g, cs)
  | _ => none
def loadAt (P : Program) (H : AH) (t : TypeId) (b off : Nat) : Option AV :=
  match cellsAt H b with
  | none => none
  | some (_, cs) => part P t cs off

/-- a block of rows that shares its memory with no other one. -/
def seqAt (H : AH) (b : Nat) : Option (Nat × Nat × (Nat → List AV)) :=
  match H.tr.get b with
  | some (.seq c z n f) => match H.mem.get b with
    | some [x] => cond (Nat.beq c b && Nat.beq x b) (some (z, n, f)) none
    | _ => none
  | _ => none
def nat? : AV → Option Nat
  | .int _ (.ofNat n) => some n
  | _ => none
def nats? (d : Nat) : Option AV → Option Nat
  | none => some d
  | some a => nat? a

def lscal (P : Program) (o : Sem Value) (K : AV → Bool) : Bool :=
  match asPure P o with
  | none => false
  | some v => match ofV v with
    | none => false
    | some a => a.force K

/-- is one of both nil, and the other one not? -/
def oneNil : TypeDesc → AV → AV → Bool
  | .pointer _, .nilPtr, .ptr _ _ => true
  | .pointer _, .ptr _ _, .nilPtr => true
  | .map _ _, .nilMap, .map _ => true
  | .map _ _, .map _, .nilMap => true
  | .func _ _ _, .nilFn, .fn _ _ _ => true
  | .func _ _ _, .fn _ _ _, .nilFn => true
  | .slice _, .nilSlice, .slice _ _ _ _ _ => true
  | .slice _, .slice _ _ _ _ _, .nilSlice => true
  | .slice _, .nilSlice, .empty => true
  | .slice _, .empty, .nilSlice => true
  | _, _, _ => false
/-- how long a slice is that is compared with nil. -/
def nilLen : TypeDesc → AV → AV → Option Nat
  | .slice _, .nilSlice, .gsl _ n => some n
  | .slice _, .gsl _ n, .nilSlice => some n
  | .slice _, .nilSlice, .data _ n _ => some n
  | .slice _, .data _ n _, .nilSlice => some n
  | .slice _, .nilSlice, .part _ _ n => some n
  | .slice _, .part _ _ n, .nilSlice => some n
  | _, _, _ => none
/-- a truth, worked out. -/
def two (b : Bool) (K : AV → Bool) : Bool := match b with | true => K (.bool true) | false => K (.bool false)
def isU32 : IntKind → Bool
  | .u32 => true
  | _ => false
def isWide : IntKind → Bool
  | .u32 => true
  | .u64 => true
  | .i64 => true
  | _ => false
/-- numbers that are not below nought: by the kernel's own arithmetic where that is the same. -/
def fastBin (op : BinOp) (k k' : IntKind) (m n : Nat) (slow : Bool) (K : AV → Bool) : Bool :=
  match decide (k = k') with
  | false => slow
  | true => match op with
    | .eql => two (Nat.beq m n) K
    | .neq => two (not (Nat.beq m n)) K
    | .lss => two (Nat.blt m n) K
    | .leq => two (Nat.ble m n) K
    | .gtr => two (Nat.blt n m) K
    | .geq => two (Nat.ble n m) K
    | .add => match isWide k && Nat.blt (Nat.add m n) 2147483648 with
      | true => fNat (Nat.add m n) fun r => K (.int k (.ofNat r))
      | false => slow
    | .and => match isU32 k && (Nat.blt m 4294967296 && Nat.blt n 4294967296) with
      | true => fNat (Nat.land m n) fun r => K (.int k (.ofNat r))
      | false => slow
    | .xor => match isU32 k && (Nat.blt m 4294967296 && Nat.blt n 4294967296) with
      | true => fNat (Nat.xor m n) fun r => K (.int k (.ofNat r))
      | false => slow
    | _ => slow
/-- numbers of which nothing more is known. lit: the second one is written out. -/
def fk (lit : Bool) (c x y : Bool) : Bool := match lit with | true => cond c x y | false => fork c x y
/-- may a number be one of the kind? -/
def inR (k : IntKind) (x : Int) : Bool := match k with
  | .i8 => decide (-128 ≤ x ∧ x ≤ 127)
  | .i16 => decide (-32768 ≤ x ∧ x ≤ 32767)
  | .i32 => decide (-2147483648 ≤ x ∧ x ≤ 2147483647)
  | .i64 => decide (-9223372036854775808 ≤ x ∧ x ≤ 9223372036854775807)
  | .u8 => decide (0 ≤ x ∧ x ≤ 255)
  | .u16 => decide (0 ≤ x ∧ x ≤ 65535)
  | .u32 => decide (0 ≤ x ∧ x ≤ 4294967295)
  | .u64 => decide (0 ≤ x ∧ x ≤ 18446744073709551615)
/-- a number of a kind, wrapped where it must be. -/
def wr (k : IntKind) (x : Int) (K : Res → Bool) : Bool := fork (inR k x) (K (.val (.sint k x))) (K (.val (.sint k (k.wrap x))))
def cvt (k : IntKind) (x : Int) (K : Res → Bool) : Bool := match k with
  | .u8 => K (.val (.sint .u8 (x % 256)))
  | k => wr k x K
def orB : IntKind → Option Int
  | .u64 => some 18446744073709551360
  | .i64 => some 9223372036854775552
  | _ => none
def orK (k : IntKind) (a b : Int) (K : Res → Bool) : Bool := match orB k with
  | some m => fork (decide (0 ≤ a ∧ a % 256 = 0 ∧ a ≤ m ∧ 0 ≤ b ∧ b < 256)) (K (.val (.sint k (a + b)))) (K (.val (.sint k (k.wrap (BitVec.ofInt k.bits a ||| BitVec.ofInt k.bits b).toNat))))
  | none => K (.val (.sint k (k.wrap (BitVec.ofInt k.bits a ||| BitVec.ofInt k.bits b).toNat)))
def symArith (op : BinOp) (k k' : IntKind) (a b : Int) (lit : Bool) (K : Res → Bool) : Bool :=
  match decide (k = k') with
  | false => false
  | true => match op with
    | .add => wr k (a + b) K
    | .sub => wr k (a - b) K
    | .mul => wr k (a * b) K
    | .quo => fk lit (decide (b = 0)) false (wr k (a.tdiv b) K)
    | .rem => fk lit (decide (b = 0)) false (K (.val (.sint k (a.tmod b))))
    | .and => K (.val (.sint k (k.wrap (BitVec.ofInt k.bits a &&& BitVec.ofInt k.bits b).toNat)))
    | .or => orK k a b K
    | .xor => K (.val (.sint k (k.wrap (BitVec.ofInt k.bits a ^^^ BitVec.ofInt k.bits b).toNat)))
    | .eql => fork (decide (a = b)) (K (.val (.bool true))) (K (.val (.bool false)))
    | .neq => fork (decide (a = b)) (K (.val (.bool false))) (K (.val (.bool true)))
    | .lss => fork (decide (a < b)) (K (.val (.bool true))) (K (.val (.bool false)))
    | .leq => fork (decide (a ≤ b)) (K (.val (.bool true))) (K (.val (.bool false)))
    | .gtr => fork (decide (b < a)) (K (.val (.bool true))) (K (.val (.bool false)))
    | .geq => fork (decide (b ≤ a)) (K (.val (.bool true))) (K (.val (.bool false)))
    | _ => false
def symBin (op : BinOp) (k k' : IntKind) (a b : Int) (lit : Bool) (K : Res → Bool) : Bool :=
  match op with
  | .shl => fk lit (decide (b < 0)) false (wr k (a * 2 ^ (min b.toNat k.bits)) K)
  | .shr => fk lit (decide (b < 0)) false (K (.val (.sint k (a / (2 ^ (min b.toNat k.bits))))))
  | op => symArith op k k' a b lit K
/-- are the cells of both the same? (plain ones.) -/
def eqCells : List AV → List AV → Option Bool
  | [], [] => some true
  | a :: r, b :: s => match (match a, b with
      | .int j m, .int k n => cond (decide (j = k)) (some (decide (m = n))) none
      | .sint j m, .int k n => cond (decide (j = k)) (some (decide (m = n))) none
      | .int j m, .sint k n => cond (decide (j = k)) (some (decide (m = n))) none
      | .sint j m, .sint k n => cond (decide (j = k)) (some (decide (m = n))) none
      | .bool m, .bool n => some (m == n)
      | _, _ => none), eqCells r s with
    | some x, some y => some (x && y)
    | _, _ => none
  | _, _ => none
def numOf : AV → Option (IntKind × Int)
  | .int k n => some (k, n)
  | .sint k n => some (k, n)
  | _ => none
def conjP (l : List (Int × Int)) : Prop := match l with
  | [] => True
  | x :: r => @List.rec (Int × Int) (fun _ => Int × Int → Prop) (fun x => x.1 = x.2) (fun y _ ih x => x.1 = x.2 ∧ ih y) r x
def eqFlds (g : TypeId → AV → AV → Option (List (Int × Int))) (P : Program) (xs ys : List AV) : List Field → Option (List (Int × Int))
  | [] => some []
  | f :: fs => cond (f.name != "_") (match part P f.type xs f.offset, part P f.type ys f.offset with
    | some a, some b => match g f.type a b, eqFlds g P xs ys fs with
      | some l, some r => some (l ++ r)
      | _, _ => none
    | _, _ => none) none
def eqItms (g : TypeId → AV → AV → Option (List (Int × Int))) (P : Program) (e : TypeId) (z : Nat) (xs ys : List AV) : List Nat → Option (List (Int × Int))
  | [] => some []
  | i :: is => match part P e xs (i * z), part P e ys (i * z) with
    | some a, some b => match g e a b, eqItms g P e z xs ys is with
      | some l, some r => some (l ++ r)
      | _, _ => none
    | _, _ => none
/-- the numbers that are compared where values are. -/
def eqPairs (P : Program) : Nat → TypeId → AV → AV → Option (List (Int × Int))
  | 0, _, _, _ => none
  | m + 1, t, a, b => match P.underlying t with
    | some .bool => match a, b with | .bool x, .bool y => some [(cond x 1 0, cond y 1 0)] | _, _ => none
    | some (.int _) => match numOf a, numOf b with | some (k, x), some (k', y) => cond (decide (k = k')) (some [(x, y)]) none | _, _ => none
    | some (.struct fs) => match a, b with
      | .agg xs, .agg ys => cond (P.stoodInHeld t) none (eqFlds (eqPairs P m) P xs ys fs.toList)
      | _, _ => none
    | some (.array n e) => match a, b, size P e with
      | .agg xs, .agg ys, some z => eqItms (eqPairs P m) P e z xs ys (List.range n)
      | _, _, _ => none
    | _ => none
def eqAgg (P : Program) (op : BinOp) (t : TypeId) (a b : AV) (K : Res → Bool) : Bool :=
  match a, b with
  | .agg xs, .agg ys => match eqPairs P 8 t (.agg xs) (.agg ys) with
    | some l => cond (P.eqGuardType P.depth t) false (match op with
      | .eql => @fork (@decide (conjP l) (Classical.propDecidable _)) (K (.val (.bool true))) (K (.val (.bool false)))
      | .neq => @fork (@decide (conjP l) (Classical.propDecidable _)) (K (.val (.bool false))) (K (.val (.bool true)))
      | _ => false)
    | none => false
  | _, _ => false
def aBin (P : Program) (op : BinOp) (t : TypeId) (x y : Operand) (a b : AV) (K : Res → Bool) : Bool :=
  match a, b with
  | .str s, .str u => match op with
    | .eql => fork (decide (s = u)) (K (.val (.bool true))) (K (.val (.bool false)))
    | .neq => fork (decide (s = u)) (K (.val (.bool false))) (K (.val (.bool true)))
    | _ => false
  | .sint k a, .int k' b => symBin op k k' a b true K
  | .int k a, .sint k' b => symBin op k k' a b false K
  | .sint k a, .sint k' b => symBin op k k' a b false K
  | .unkI j, .int k _ => cond (decide (j = k)) (match op with
    | .eql => K (.val .unkB)
    | .neq => K (.val .unkB)
    | .lss => K (.val .unkB)
    | .leq => K (.val .unkB)
    | .gtr => K (.val .unkB)
    | .geq => K (.val .unkB)
    | .add => K (.val (.unkI j))
    | .sub => K (.val (.unkI j))
    | _ => false) false
  | .half neg, .int k n => cond (decide (k = .i64)) (match op with
    | .eql => K (.val .unkB)
    | .neq => K (.val .unkB)
    | .lss => match decide (n = 0) with | true => K (.val (.bool neg)) | false => K (.val .unkB)
    | .leq => K (.val .unkB)
    | .gtr => K (.val .unkB)
    | .geq => match decide (n = 0) with | true => K (.val (.bool (!neg))) | false => K (.val .unkB)
    | _ => false) false
  | .int k (.ofNat m), .int k' (.ofNat n) => fastBin op k k' m n (lscal P (do eqGuard op t x y (.int k (.ofNat m)) (.int k' (.ofNat n)); Go.binOp op t (.int k (.ofNat m)) (.int k' (.ofNat n))) fun a => K (.val a)) fun a => K (.val a)
  | a, b => match toV a, toV b with
    | some v, some w => lscal P (do eqGuard op t x y v w; Go.binOp op t v w) fun a => K (.val a)
    | _, _ => match P.underlying t with
      | none => false
      | some d => cond (oneNil d a b) (match op with
        | .eql => K (.val (.bool false))
        | .neq => K (.val (.bool true))
        | _ => false) (match nilLen d a b with
          | some n => match op with
            | .eql => fork (decide (0 < n)) (K (.val (.bool false))) (K (.val .unkB))
            | .neq => fork (decide (0 < n)) (K (.val (.bool true))) (K (.val .unkB))
            | _ => false
          | none => eqAgg P op t a b K)

def bytes? : List AV → Option (List Nat)
  | [] => some []
  | .int .u8 (.ofNat n) :: r => match bytes? r with | some l => cond (Nat.blt n 256) (some (n :: l)) none | none => none
  | _ => none

/-- the elements of a slice. -/
def elems (H : AH) (n : Nat) : AV → Nat → Option (List AV)
  | .nilSlice, 0 => some []
  | .empty, 0 => some []
  | .slice b off len _ _, m => cond (Nat.ble m len) (match cellsAt H b with | some (_, cs) => span cs off (m * n) | none => none) none
  | .str s, m => cond (Nat.beq n 1) (firsts m (s.map fun x => .int .u8 (.ofNat x))) none
  | _, _ => none
def lenOf : AV → Option Nat
  | .nilSlice => some 0
  | .empty => some 0
  | .slice _ _ l _ _ => some l
  | .str s => some s.length
  | _ => none

def isByte (l : List AV) : Prop := match l with
  | [.sint .u8 x] => 0 ≤ x ∧ x < 256
  | [.int .u8 x] => 0 ≤ x ∧ x < 256
  | _ => False
def AllBytes (n : Nat) (f : Nat → List AV) : Prop := ∀ i, i < n → isByte (f i)
def natOf (l : List AV) : Nat := match l with
  | [.sint _ x] => x.toNat
  | [.int _ x] => x.toNat
  | _ => 0
def bytesOf (n : Nat) (f : Nat → List AV) : List Nat := (List.range n).map fun i => natOf (f i)
def ByteL (l : List AV) : Prop := ∀ x, x ∈ l → isByte [x]
def aConv (P : Program) (H : AH) (src dst : TypeId) (a : AV) (K : Res → Bool) : Bool :=
  match P.underlying src, P.underlying dst with
  | some s, some d => match a with
    | .str l => match d with
      | .string => K (.val (.str l))
      | .slice e => match P.underlying e with
        | some (.int .u8) => K (.new (.cells (some 1) (l.map fun x => .int .u8 (.ofNat x))) (.slice l.length l.length false))
        | _ => false
      | _ => false
    | .int k n => match d with
      | .int _ => lscal P (convert src dst (.int k n)) fun a => K (.val a)
      | _ => false
    | .sint _ n => match d with
      | .int k => cvt k n K
      | _ => false
    | .unkI _ => match d with
      | .int k => K (.val (.unkI k))
      | _ => false
    | .data _ n f => match s, d with
      | .slice e, .string => match P.underlying e with
        | some (.int .u8) => @fork (@decide (AllBytes n f) (Classical.propDecidable _)) (K (.val (.str (bytesOf n f)))) false
        | _ => false
      | _, _ => false
    | .gsl b n => match s, d with
      | .slice e, .string => match P.underlying e with
        | some (.int .u8) => match seqAt H b with
          | some (_, m, f) => @fork (@decide (n ≤ m ∧ AllBytes n f) (Classical.propDecidable _)) (K (.val (.str (bytesOf n f)))) false
          | none => false
        | _ => false
      | _, _ => false
    | a => match s, d with
      | .slice e, .string => match P.underlying e with
        | some (.int .u8) => match lenOf a with
          | none => false
          | some n => match elems H 1 a n with
            | none => false
            | some l => match bytes? l with
              | none => @fork (@decide (ByteL l) (Classical.propDecidable _)) (K (.val (.str (l.map fun x => natOf [x])))) false
              | some s => K (.val (.str s))
        | _ => false
      | _, _ => false
  | _, _ => false

/-- one of the first n places. -/
def forkIx (i : Int) (K : Nat → Bool) : Nat → Bool
  | 0 => false
  | n + 1 => fork (decide (i = Int.ofNat n)) (K n) (forkIx i K n)
def bndOf (d : Int) : Option AV → Option Int
  | none => some d
  | some (.int _ i) => some i
  | some (.sint _ i) => some i
  | _ => none
def aSlice0 (P : Program) (H : AH) (t : TypeId) (x : AV) (lo hi mx : Option AV) (K : Res → Bool) : Bool :=
  match P.underlying t, x with
  | some (.array n e), .ptr b off => match nats? n mx with
    | none => false
    | some m => match nats? n hi, nats? 0 lo, size P e with
      | some h, some l, some z => cond (Nat.ble m n && Nat.ble h m && Nat.ble l h && (hi.isSome || mx.isNone))
          ((AV.slice b (cond (Nat.beq m l) off (off + l * z)) (h - l) (m - l) true).force fun a => K (.val a)) false
      | _, _, _ => false
  | some (.slice e), .gsl b n => match mx, bndOf (Int.ofNat n) hi, bndOf 0 lo, size P e with
    | none, some h, some l, some z => fork (decide (l = 0 ∧ 0 ≤ h ∧ h ≤ Int.ofNat n)) (cond hi.isSome (fork (decide (0 < n)) (K (.val (.part b 0 h.toNat))) (K (.val (.gsl b h.toNat)))) (K (.val (.gsl b h.toNat)))) (match seqAt H b with
      | some (z', nr, _) => cond (Nat.beq z z') (fork (decide (0 < n ∧ 0 ≤ l ∧ l ≤ h ∧ h ≤ Int.ofNat nr)) (K (.val (.part b l.toNat (h.toNat - l.toNat)))) false) false
      | none => false)
    | some (.sint _ m), some h, some l, some _ => cond hi.isSome (fork (decide (0 ≤ l ∧ l ≤ h ∧ h ≤ m ∧ m ≤ Int.ofNat n)) (K (.val .top)) false) false
    | _, _, _, _ => false
  | some (.slice e), .part b o n => match mx, bndOf (Int.ofNat n) hi, bndOf 0 lo, size P e with
    | none, some h, some l, some z => match seqAt H b with
      | some (z', nr, _) => cond (Nat.beq z z') (fork (decide (0 ≤ l ∧ l ≤ h ∧ Int.ofNat o + h ≤ Int.ofNat nr)) (K (.val (.part b (o + l.toNat) (h.toNat - l.toNat)))) false) false
      | none => false
    | some (.sint _ m), some h, some l, some _ => cond hi.isSome (fork (decide (0 ≤ l ∧ l ≤ h ∧ h ≤ m ∧ m ≤ Int.ofNat n)) (K (.val .top)) false) false
    | _, _, _, _ => false
  | some (.slice e), .data z n f => match mx, bndOf (Int.ofNat n) hi, bndOf 0 lo, size P e with
    | none, some h, some l, some z' => cond (Nat.beq z z') (fork (decide (0 ≤ l ∧ l ≤ h ∧ h ≤ Int.ofNat n)) (K (.val (.data z (h.toNat - l.toNat) (fun i => f (l.toNat + i))))) false) false
    | _, _, _, _ => false
  | some (.slice e), .nilSlice => match nats? 0 mx, nats? 0 hi, nats? 0 lo, size P e with
    | some 0, some 0, some 0, some _ => cond (hi.isSome || mx.isNone) (K (.val .nilSlice)) false
    | _, _, _, _ => false
  | some (.slice e), .slice b off len cap ex => match nats? cap mx, nats? len hi, nats? 0 lo, size P e, cellsAt H b with
    | some m, some h, some l, some z, some (g, _) => cond (Nat.ble m cap && Nat.ble h m && Nat.ble l h && (hi.isSome || mx.isNone))
        (match ex || mx.isSome with
          | true => (AV.slice b (cond (Nat.beq m l) off (off + l * z)) (h - l) (m - l) true).force fun a => K (.val a)
          | false => cond (Nat.beq l 0) ((AV.slice b off h cap false).force fun a => K (.val a))
              (cond (Nat.blt l m && (match g with | some w => Nat.beq w z | none => false)) ((AV.slice b (off + l * z) (h - l) (m - l) false).force fun a => K (.val a))
                (cond (Nat.beq h l) (K (.val .empty)) false))) false
    | _, _, _, _, _ => false
  | _, _ => false

def aSlice (P : Program) (H : AH) (t : TypeId) (x : AV) (lo hi mx : Option AV) (K : Res → Bool) : Bool := match x, hi with
  | .slice b off len cap ex, some (.sint k h) => forkIx h (fun h' => aSlice0 P H t (.slice b off len cap ex) lo (some (.int k (Int.ofNat h'))) mx K) (cap + 1)
  | .nilSlice, some (.sint k h) => forkIx h (fun h' => aSlice0 P H t .nilSlice lo (some (.int k (Int.ofNat h'))) mx K) 1
  | x, hi => aSlice0 P H t x lo hi mx K
/-- the entry of a key: its place, and its value. -/
def ents : List Ent → Option (List MapEntry)
  | [] => some []
  | e :: r => match toV e.key, ents r with | some k, some l => some ({ key := k, val := .nilIface, born := e.born } :: l) | _, _ => none
def findK (P : Program) (kt : TypeId) (k : AV) (es : List Ent) : Option (Option Nat) :=
  match toV k, ents es with
  | some k, some l => match asPure P (Instr.checkKey l.isEmpty 10000 kt k), asPure P (Instr.checkKey false 10000 kt k), asPure P (Instr.findKey kt k l) with
    | some _, some _, some r => some (r.map (·.1))
    | _, _, _ => none
  | _, _ => none

def aLook0 (P : Program) (kt e : TypeId) (es : List Ent) (ok : Bool) (k : AV) (K : Res → Bool) : Bool := match findK P kt k es with
  | some (some i) => match (es.drop i).head? with
    | some en => K (.val (match ok with | true => .tuple [en.val, .bool true] | false => en.val))
    | none => false
  | some none => match zero P e with
    | some z => K (.val (match ok with | true => .tuple [z, .bool false] | false => z))
    | none => false
  | none => false
def pin (j : IntKind) (x : Int) (K : AV → Bool) : List Ent → Bool
  | [] => false
  | e :: r => match e.key with
    | .int _ n => fork (decide (x = n)) (K (.int j n)) (pin j x K r)
    | _ => false
def aLook (P : Program) (kt e : TypeId) (es : List Ent) (ok : Bool) (k : AV) (K : Res → Bool) : Bool := match k with
  | .sint j x => pin j x (fun k => aLook0 P kt e es ok k K) es
  | k => aLook0 P kt e es ok k K
def aLen (P : Program) (H : AH) (t : TypeId) (a : AV) (K : Res → Bool) : Bool :=
  match P.underlying t, a with
  | some .string, .str s => fNat s.length fun n => K (.val (.int .i64 (.ofNat n)))
  | some (.array n _), _ => fNat n fun n => K (.val (.int .i64 (.ofNat n)))
  | some (.slice _), a => match a with
    | .nilSlice => K (.val (.int .i64 (.ofNat 0)))
    | .empty => K (.val (.int .i64 (.ofNat 0)))
    | .slice _ _ n _ _ => K (.val (.int .i64 (.ofNat n)))
    | .anySlice => K (.val (.unkI .i64))
    | .data _ n _ => K (.val (.sint .i64 (Int.ofNat n)))
    | .gsl _ n => K (.val (.sint .i64 (Int.ofNat n)))
    | .part _ _ n => K (.val (.sint .i64 (Int.ofNat n)))
    | _ => false
  | some (.map _ _), .nilMap => K (.val (.int .i64 (.ofNat 0)))
  | some (.map _ _), .map b => match H.tr.get b with
    | some (.map _ es _) => fNat es.length fun n => K (.val (.int .i64 (.ofNat n)))
    | _ => false
  | _, _ => false

def aUn (P : Program) (op : UnOp) (a : AV) (K : Res → Bool) : Bool := match a with
  | .sint k n => match op with
    | .neg => wr k (0 - n) K
    | _ => false
  | a => match toV a with | some v => lscal P (Op.unary op v) fun a => K (.val a) | none => false
/-- the greater one of two numbers of which nothing is known, or the smaller one. -/
def maxK (big : Bool) (l : List AV) (K : Res → Bool) : Bool := match l with
  | [a, b] => match numOf a, numOf b with
    | some (k, x), some (_, y) => match big with
      | true => fork (decide (x < y)) (K (.val (.sint k y))) (K (.val (.sint k x)))
      | false => fork (decide (y < x)) (K (.val (.sint k y))) (K (.val (.sint k x)))
    | _, _ => false
  | _ => false
/-- an operation that leaves memory as it is. -/
def evR0 (P : Program) (H : AH) (tmps : List AV) (o : Oper) (K : Res → Bool) : Bool :=
  match o.op with
  | .move x => match aop tmps x with | some a => K (.val a) | none => false
  | .assign x => match aop tmps x with | some a => K (.val a) | none => false
  | .pick c a b => match aop tmps c, aop tmps a, aop tmps b with
    | some (.bool true), some a, some _ => K (.val a)
    | some (.bool false), some _, some b => K (.val b)
    | _, _, _ => false
  | .alloc t => match zero P t with | some a => K (.new (.cells none a.cells) .ptr) | none => false
  | .box _ x => match aop tmps x with | some a => cond a.noTop (K (.new (.cells none a.cells) .ptr)) false | none => false
  | .build t ps => match zero P t, aparts tmps ps.toList with
    | some z, some l => match P.underlying t with
      | some (.struct fs) => match places P fs.toList with
        | some pl => fillG (fun i => (pl.drop i).head?) l z.cells fun cs => K (.val (.agg cs))
        | none => false
      | some (.array _ e) => match size P e with
        | some n => fillG (fun i => some (i * n, n)) l z.cells fun cs => K (.val (.agg cs))
        | none => false
      | _ => false
    | _, _ => false
  | .buildSlice t len ps => match P.underlying t, aparts tmps ps.toList with
    | some (.slice e), some l => match size P e, zero P e with
      | some n, some z => cond (Nat.blt (len * n) 65536 && Nat.beq z.cells.length n && Nat.blt 0 n) (fillG (fun i => some (i * n, n)) l (repeats z.cells len) fun cs => K (.new (.cells none cs) (.slice len len true))) false
      | _, _ => false
    | _, _ => false
  | .load t x => match aop tmps x with
    | some (.ptr b off) => match loadAt P H t b off with | some a => K (.val a) | none => false
    | some (.dptr cs) => match part P t cs 0 with | some a => K (.val a) | none => false
    | some (.gptr b i o) => match seqAt H b with
      | some (_, n, f) => fork (decide (i < n)) (match part P t (f i) o with | some a => K (.val a) | none => false) false
      | none => false
    | _ => false
  | .nilCheck x => match aop tmps x with
    | some (.ptr b off) => K (.val (.ptr b off))
    | some (.fn f a b) => K (.val (.fn f a b))
    | _ => false
  | .binOp op t x y _ => match aop tmps x, aop tmps y with | some a, some b => aBin P op t x y a b K | _, _ => false
  | .unOp op _ x => match aop tmps x with
    | some a => aUn P op a K
    | none => false
  | .convert s d x => match aop tmps x with | some a => aConv P H s d a K | none => false
  | .makeFunc (.func f) a b => match aops tmps a.toList, aops tmps b.toList with | some a, some b => K (.val (.fn f a b)) | _, _ => false
  | .makeMap t none => match P.underlying t with | some (.map _ _) => K (.new .map .map) | _ => false
  | .makeSlice t l c => match P.underlying t, aop tmps l, aop tmps c with
    | some (.slice e), some l, some c => match nat? l, nat? c, size P e, zero P e, P.info? e with
      | some l, some c, some n, some z, some i => cond (Nat.ble l c && Nat.blt c 65536 && Nat.blt (c * i.bytes) 1048576 && Nat.beq z.cells.length n && Nat.blt 0 n) (K (.new (.cells none (repeats z.cells c)) (.slice l c true))) false
      | _, _, _, _, _ => false
    | _, _, _ => false
  | .slice t x lo hi mx => match aop tmps x, lo.elim (some none) (fun x => (aop tmps x).map some), hi.elim (some none) (fun x => (aop tmps x).map some), mx.elim (some none) (fun x => (aop tmps x).map some) with
    | some x, some lo, some hi, some mx => aSlice P H t x lo hi mx K
    | _, _, _, _ => false
  | .fieldAddr s x i => match aop tmps x, fields P s with
    | some (.ptr b off), some fs => match (fs.drop i).head? with
      | some f => match size P f.type with
        | some (_ + 1) => (AV.ptr b (off + f.offset)).force fun a => K (.val a)
        | _ => false
      | none => false
    | some (.dptr cs), some fs => match (fs.drop i).head? with
      | some f => match size P f.type with
        | some (_ + 1) => cond (Nat.ble f.offset cs.length) (K (.val (.dptr (cs.drop f.offset)))) false
        | _ => false
      | none => false
    | some (.gptr b j o), some fs => match (fs.drop i).head? with
      | some f => match size P f.type with
        | some (_ + 1) => fNat (Nat.add o f.offset) fun o => K (.val (.gptr b j o))
        | _ => false
      | none => false
    | _, _ => false
  | .field t x i => match aop tmps x, fields P t with
    | some (.agg cs), some fs => match (fs.drop i).head? with
      | some f => match part P f.type cs f.offset with | some a => K (.val a) | none => false
      | none => false
    | _, _ => false
  | .indexAddr t x i => match P.underlying t, aop tmps x, aop tmps i with
    | some (.array n e), some (.ptr b off), some (.sint _ i) => match size P e with
      | some z => forkIx i (fun i => (AV.ptr b (off + i * z)).force fun a => K (.val a)) n
      | _ => false
    | some (.slice e), some (.slice b off n _ _), some (.sint _ i) => match size P e with
      | some z => forkIx i (fun i => (AV.ptr b (off + i * z)).force fun a => K (.val a)) n
      | _ => false
    | some (.slice e), some (.data z n f), some (.sint _ i) => match size P e with
      | some z' => cond (Nat.beq z z') (fork (decide (0 ≤ i ∧ i.toNat < n)) (K (.val (.dptr (f i.toNat)))) false) false
      | _ => false
    | some (.slice e), some (.data z n f), some (.int _ i) => match size P e with
      | some z' => cond (Nat.beq z z') (fork (decide (0 ≤ i ∧ i.toNat < n)) (K (.val (.dptr (f i.toNat)))) false) false
      | _ => false
    | some (.slice e), some (.gsl b n), some (.sint _ i) => match size P e, seqAt H b with
      | some z', some (z, _, _) => cond (Nat.beq z z') (fork (decide (0 ≤ i ∧ i.toNat < n)) (K (.val (.gptr b i.toNat 0))) false) false
      | _, _ => false
    | some (.slice e), some (.gsl b n), some (.int _ i) => match size P e, seqAt H b with
      | some z', some (z, _, _) => cond (Nat.beq z z') (fork (decide (0 ≤ i ∧ i.toNat < n)) (K (.val (.gptr b i.toNat 0))) false) false
      | _, _ => false
    | some (.array n e), some (.ptr b off), some i => match nat? i, size P e with
      | some i, some z => cond (Nat.blt i n) ((AV.ptr b (off + i * z)).force fun a => K (.val a)) false
      | _, _ => false
    | some (.slice e), some (.slice b off n _ _), some i => match nat? i, size P e with
      | some i, some z => cond (Nat.blt i n) ((AV.ptr b (off + i * z)).force fun a => K (.val a)) false
      | _, _ => false
    | _, _, _ => false
  | .index t x i => match P.underlying t, aop tmps x, aop tmps i with
    | some (.array n e), some (.agg cs), some (.sint _ i) => match size P e with
      | some z => forkIx i (fun i => match part P e cs (i * z) with | some a => K (.val a) | none => false) n
      | _ => false
    | some (.array n e), some (.agg cs), some i => match nat? i, size P e with
      | some i, some z => cond (Nat.blt i n) (match part P e cs (i * z) with | some a => K (.val a) | none => false) false
      | _, _ => false
    | some .string, some (.str s), some i => match nat? i with
      | some i => match (s.drop i).head? with | some n => K (.val (.int .u8 (.ofNat n))) | none => false
      | none => false
    | _, _, _ => false
  | .lookup t x k ok => match P.underlying t, aop tmps x, aop tmps k with
    | some (.map kt e), some m, some k => match m with
      | .nilMap => match toV k, zero P e with
        | some kv, some z => match asPure P (Instr.checkKey true 10000 kt kv), asPure P (Instr.findKey kt kv []) with
          | some _, some none => K (.val (match ok with | true => .tuple [z, .bool false] | false => z))
          | _, _ => false
        | _, _ => false
      | .map b => match H.tr.get b with
        | some (.map _ es _) => aLook P kt e es ok k K
        | _ => false
      | _ => false
    | _, _, _ => false
  | .range t x => match P.underlying t, aop tmps x with
    | some (.map _ _), some .nilMap => K (.new (.iter none 0 0) .ptr)
    | some (.map _ _), some (.map b) => match H.tr.get b with
      | some (.map _ _ c) => K (.new (.iter (some b) c c) .ptr)
      | _ => false
    | _, _ => false
  | .entry x => match aop tmps x with
    | some (.ptr b 0) => match H.tr.get b with
      | some (.iter _ (some m) _ seen st) => match seen.getLast?, H.tr.get m with
        | some s, some (.map _ es c) => cond (Nat.beq c st) (match es.find? fun e => Nat.beq e.born s with
          | some e => K (.val (.tuple [e.key, e.val]))
          | none => false) false
        | _, _ => false
      | _ => false
    | _ => false
  | .extract x i => match aop tmps x with
    | some (.tuple l) => match (l.drop i).head? with | some a => K (.val a) | none => false
    | _ => false
  | .call c => match c.callee with
    | .builtin .len => match c.argTypes.toList, c.args.toList with
      | t :: _, [x] => match aop tmps x with | some a => aLen P H t a K | none => false
      | _, _ => false
    | .builtin .cap => match c.argTypes.toList, c.args.toList with
      | t :: _, [x] => match P.underlying t, aop tmps x with
        | some (.slice _), some .nilSlice => K (.val (.int .i64 (.ofNat 0)))
        | some (.slice _), some (.slice _ _ _ cap true) => K (.val (.int .i64 (.ofNat cap)))
        | _, _ => false
      | _, _ => false
    | .builtin .max => match aops tmps c.args.toList with
      | some l => match toVs l with | some vs => lscal P (Builtin.max_ c.argTypes o.type ⟨vs⟩) fun a => K (.val a) | none => maxK (true) l K
      | none => false
    | .builtin .min => match aops tmps c.args.toList with
      | some l => match toVs l with | some vs => lscal P (Builtin.min_ c.argTypes o.type ⟨vs⟩) fun a => K (.val a) | none => maxK (false) l K
      | none => false
    | _ => false
  | _ => false

/-- the same, written so that what an operation is not is not gone through. -/
def evR (P : Program) (H : AH) (tmps : List AV) (o : Oper) (K : Res → Bool) : Bool :=
  (match o.op with
  | .move x => fun _ _ tmps _ K => match aop tmps x with | some a => K (.val a) | none => false
  | .assign x => fun _ _ tmps _ K => match aop tmps x with | some a => K (.val a) | none => false
  | .pick c a b => fun _ _ tmps _ K => match aop tmps c, aop tmps a, aop tmps b with
    | some (.bool true), some a, some _ => K (.val a)
    | some (.bool false), some _, some b => K (.val b)
    | _, _, _ => false
  | .alloc t => fun P _ _ _ K => match zero P t with | some a => K (.new (.cells none a.cells) .ptr) | none => false
  | .box _ x => fun _ _ tmps _ K => match aop tmps x with | some a => cond a.noTop (K (.new (.cells none a.cells) .ptr)) false | none => false
  | .build t ps => fun P _ tmps _ K => match zero P t, aparts tmps ps.toList with
    | some z, some l => match P.underlying t with
      | some (.struct fs) => match places P fs.toList with
        | some pl => fillG (fun i => (pl.drop i).head?) l z.cells fun cs => K (.val (.agg cs))
        | none => false
      | some (.array _ e) => match size P e with
        | some n => fillG (fun i => some (i * n, n)) l z.cells fun cs => K (.val (.agg cs))
        | none => false
      | _ => false
    | _, _ => false
  | .buildSlice t len ps => fun P _ tmps _ K => match P.underlying t, aparts tmps ps.toList with
    | some (.slice e), some l => match size P e, zero P e with
      | some n, some z => cond (Nat.blt (len * n) 65536 && Nat.beq z.cells.length n && Nat.blt 0 n) (fillG (fun i => some (i * n, n)) l (repeats z.cells len) fun cs => K (.new (.cells none cs) (.slice len len true))) false
      | _, _ => false
    | _, _ => false
  | .load t x => fun P H tmps _ K => match aop tmps x with
    | some (.ptr b off) => match loadAt P H t b off with | some a => K (.val a) | none => false
    | some (.dptr cs) => match part P t cs 0 with | some a => K (.val a) | none => false
    | some (.gptr b i o) => match seqAt H b with
      | some (_, n, f) => fork (decide (i < n)) (match part P t (f i) o with | some a => K (.val a) | none => false) false
      | none => false
    | _ => false
  | .nilCheck x => fun _ _ tmps _ K => match aop tmps x with
    | some (.ptr b off) => K (.val (.ptr b off))
    | some (.fn f a b) => K (.val (.fn f a b))
    | _ => false
  | .binOp op t x y _ => fun P _ tmps _ K => match aop tmps x, aop tmps y with | some a, some b => aBin P op t x y a b K | _, _ => false
  | .unOp op _ x => fun P _ tmps _ K => match aop tmps x with
    | some a => aUn P op a K
    | none => false
  | .convert s d x => fun P H tmps _ K => match aop tmps x with | some a => aConv P H s d a K | none => false
  | .makeFunc (.func f) a b => fun _ _ tmps _ K => match aops tmps a.toList, aops tmps b.toList with | some a, some b => K (.val (.fn f a b)) | _, _ => false
  | .makeMap t none => fun P _ _ _ K => match P.underlying t with | some (.map _ _) => K (.new .map .map) | _ => false
  | .makeSlice t l c => fun P _ tmps _ K => match P.underlying t, aop tmps l, aop tmps c with
    | some (.slice e), some l, some c => match nat? l, nat? c, size P e, zero P e, P.info? e with
      | some l, some c, some n, some z, some i => cond (Nat.ble l c && Nat.blt c 65536 && Nat.blt (c * i.bytes) 1048576 && Nat.beq z.cells.length n && Nat.blt 0 n) (K (.new (.cells none (repeats z.cells c)) (.slice l c true))) false
      | _, _, _, _, _ => false
    | _, _, _ => false
  | .slice t x lo hi mx => fun P H tmps _ K => match aop tmps x, lo.elim (some none) (fun x => (aop tmps x).map some), hi.elim (some none) (fun x => (aop tmps x).map some), mx.elim (some none) (fun x => (aop tmps x).map some) with
    | some x, some lo, some hi, some mx => aSlice P H t x lo hi mx K
    | _, _, _, _ => false
  | .fieldAddr s x i => fun P _ tmps _ K => match aop tmps x, fields P s with
    | some (.ptr b off), some fs => match (fs.drop i).head? with
      | some f => match size P f.type with
        | some (_ + 1) => (AV.ptr b (off + f.offset)).force fun a => K (.val a)
        | _ => false
      | none => false
    | some (.dptr cs), some fs => match (fs.drop i).head? with
      | some f => match size P f.type with
        | some (_ + 1) => cond (Nat.ble f.offset cs.length) (K (.val (.dptr (cs.drop f.offset)))) false
        | _ => false
      | none => false
    | some (.gptr b j o), some fs => match (fs.drop i).head? with
      | some f => match size P f.type with
        | some (_ + 1) => fNat (Nat.add o f.offset) fun o => K (.val (.gptr b j o))
        | _ => false
      | none => false
    | _, _ => false
  | .field t x i => fun P _ tmps _ K => match aop tmps x, fields P t with
    | some (.agg cs), some fs => match (fs.drop i).head? with
      | some f => match part P f.type cs f.offset with | some a => K (.val a) | none => false
      | none => false
    | _, _ => false
  | .indexAddr t x i => fun P _ tmps _ K => match P.underlying t, aop tmps x, aop tmps i with
    | some (.array n e), some (.ptr b off), some (.sint _ i) => match size P e with
      | some z => forkIx i (fun i => (AV.ptr b (off + i * z)).force fun a => K (.val a)) n
      | _ => false
    | some (.slice e), some (.slice b off n _ _), some (.sint _ i) => match size P e with
      | some z => forkIx i (fun i => (AV.ptr b (off + i * z)).force fun a => K (.val a)) n
      | _ => false
    | some (.slice e), some (.data z n f), some (.sint _ i) => match size P e with
      | some z' => cond (Nat.beq z z') (fork (decide (0 ≤ i ∧ i.toNat < n)) (K (.val (.dptr (f i.toNat)))) false) false
      | _ => false
    | some (.slice e), some (.data z n f), some (.int _ i) => match size P e with
      | some z' => cond (Nat.beq z z') (fork (decide (0 ≤ i ∧ i.toNat < n)) (K (.val (.dptr (f i.toNat)))) false) false
      | _ => false
    | some (.slice e), some (.gsl b n), some (.sint _ i) => match size P e, seqAt H b with
      | some z', some (z, _, _) => cond (Nat.beq z z') (fork (decide (0 ≤ i ∧ i.toNat < n)) (K (.val (.gptr b i.toNat 0))) false) false
      | _, _ => false
    | some (.slice e), some (.gsl b n), some (.int _ i) => match size P e, seqAt H b with
      | some z', some (z, _, _) => cond (Nat.beq z z') (fork (decide (0 ≤ i ∧ i.toNat < n)) (K (.val (.gptr b i.toNat 0))) false) false
      | _, _ => false
    | some (.array n e), some (.ptr b off), some i => match nat? i, size P e with
      | some i, some z => cond (Nat.blt i n) ((AV.ptr b (off + i * z)).force fun a => K (.val a)) false
      | _, _ => false
    | some (.slice e), some (.slice b off n _ _), some i => match nat? i, size P e with
      | some i, some z => cond (Nat.blt i n) ((AV.ptr b (off + i * z)).force fun a => K (.val a)) false
      | _, _ => false
    | _, _, _ => false
  | .index t x i => fun P _ tmps _ K => match P.underlying t, aop tmps x, aop tmps i with
    | some (.array n e), some (.agg cs), some (.sint _ i) => match size P e with
      | some z => forkIx i (fun i => match part P e cs (i * z) with | some a => K (.val a) | none => false) n
      | _ => false
    | some (.array n e), some (.agg cs), some i => match nat? i, size P e with
      | some i, some z => cond (Nat.blt i n) (match part P e cs (i * z) with | some a => K (.val a) | none => false) false
      | _, _ => false
    | some .string, some (.str s), some i => match nat? i with
      | some i => match (s.drop i).head? with | some n => K (.val (.int .u8 (.ofNat n))) | none => false
      | none => false
    | _, _, _ => false
  | .lookup t x k ok => fun P H tmps _ K => match P.underlying t, aop tmps x, aop tmps k with
    | some (.map kt e), some m, some k => match m with
      | .nilMap => match toV k, zero P e with
        | some kv, some z => match asPure P (Instr.checkKey true 10000 kt kv), asPure P (Instr.findKey kt kv []) with
          | some _, some none => K (.val (match ok with | true => .tuple [z, .bool false] | false => z))
          | _, _ => false
        | _, _ => false
      | .map b => match H.tr.get b with
        | some (.map _ es _) => aLook P kt e es ok k K
        | _ => false
      | _ => false
    | _, _, _ => false
  | .range t x => fun P H tmps _ K => match P.underlying t, aop tmps x with
    | some (.map _ _), some .nilMap => K (.new (.iter none 0 0) .ptr)
    | some (.map _ _), some (.map b) => match H.tr.get b with
      | some (.map _ _ c) => K (.new (.iter (some b) c c) .ptr)
      | _ => false
    | _, _ => false
  | .entry x => fun _ H tmps _ K => match aop tmps x with
    | some (.ptr b 0) => match H.tr.get b with
      | some (.iter _ (some m) _ seen st) => match seen.getLast?, H.tr.get m with
        | some s, some (.map _ es c) => cond (Nat.beq c st) (match es.find? fun e => Nat.beq e.born s with
          | some e => K (.val (.tuple [e.key, e.val]))
          | none => false) false
        | _, _ => false
      | _ => false
    | _ => false
  | .extract x i => fun _ _ tmps _ K => match aop tmps x with
    | some (.tuple l) => match (l.drop i).head? with | some a => K (.val a) | none => false
    | _ => false
  | .call c => fun P H tmps o K => match c.callee with
    | .builtin .len => match c.argTypes.toList, c.args.toList with
      | t :: _, [x] => match aop tmps x with | some a => aLen P H t a K | none => false
      | _, _ => false
    | .builtin .cap => match c.argTypes.toList, c.args.toList with
      | t :: _, [x] => match P.underlying t, aop tmps x with
        | some (.slice _), some .nilSlice => K (.val (.int .i64 (.ofNat 0)))
        | some (.slice _), some (.slice _ _ _ cap true) => K (.val (.int .i64 (.ofNat cap)))
        | _, _ => false
      | _, _ => false
    | .builtin .max => match aops tmps c.args.toList with
      | some l => match toVs l with | some vs => lscal P (Builtin.max_ c.argTypes o.type ⟨vs⟩) fun a => K (.val a) | none => maxK (true) l K
      | none => false
    | .builtin .min => match aops tmps c.args.toList with
      | some l => match toVs l with | some vs => lscal P (Builtin.min_ c.argTypes o.type ⟨vs⟩) fun a => K (.val a) | none => maxK (false) l K
      | none => false
    | _ => false
  | _ => fun _ _ _ _ _ => false : Program → AH → List AV → Oper → (Res → Bool) → Bool) P H tmps o K
theorem evR_eq (P : Program) (H : AH) (tmps : List AV) (o : Oper) (K : Res → Bool) : evR P H tmps o K = evR0 P H tmps o K := by
  obtain ⟨dst, op, ty, pos, after, guard⟩ := o
  cases op
  case makeFunc f a b => cases f <;> rfl
  case makeMap t r => cases r <;> rfl
  all_goals rfl

def leafy : List AV → Bool
  | [] => true
  | .agg _ :: _ => false
  | .tuple _ :: _ => false
  | .top :: _ => false
  | _ :: r => leafy r
def AH.write1 (H : AH) (b off : Nat) (vs : List AV) (K : AH → Bool) : Bool :=
  H.own b fun H => match H.tr.get b with
    | some (.cells c g cs) => wset cs off vs fun cs => H.put b (.cells c g cs) K
    | _ => false
/-- the cells of a block, from off on, become vs. -/
def AH.write (H : AH) (b off : Nat) (vs : List AV) (K : AH → Bool) : Bool :=
  match vs with
  | [] => K H
  | v :: r => cond (leafy (v :: r)) (H.write1 b off (v :: r) K) false

/-- of the class's blocks those that have no more than n cells; the others must not be looked at. -/
def AH.cull (n : Nat) : List Nat → AH → (List Nat → AH → Bool) → Bool
  | [], H, K => K [] H
  | x :: l, H, K => match H.tr.get x with
    | some (.cells _ _ cs) => cond (Nat.ble cs.length n) (AH.cull n l H fun l H => K (x :: l) H) (H.put x .dead fun H => AH.cull n l H K)
    | some .dead => AH.cull n l H K
    | _ => false

/-- vs, put behind the first len elements (of n cells each) of a slice that has a room of which nothing is known: in place, or in new memory. -/
def AH.grown (H : AH) (b n len : Nat) (vs : List AV) (need : Nat) (K : AV → AH → Bool) : Bool := fNat H.next fun nx =>
  match H.tr.get b with
  | some (.cells c (some w) cs) => match H.mem.get c, firsts (len * n) cs with
    | some l, some old => cond (Nat.beq w n && leafy vs) (AH.cull (len * n) l H fun l H =>
        H.tr.set 60 nx (.cells c (some n) (old ++ vs)) fun tr => H.mem.set 60 c (nx :: l) fun mem =>
          fNat need fun need => fNat (nx + 1) fun next => K (.slice nx 0 need need false) { tr, mem, next }) false
    | _, _ => false
  | _ => false

/-- vs, m elements, put behind a slice. -/
def aAppend (P : Program) (H : AH) (e : TypeId) (n m : Nat) (s : AV) (vs : List AV) (K : AV → AH → Bool) : Bool :=
  match zero P e, P.info? e with
  | some z, some i => cond (Nat.blt 0 n && Nat.beq z.cells.length n && Nat.blt 0 i.bytes && Nat.blt i.bytes 65536 && Nat.blt m 65536) (match s with
      | .nilSlice => cond (Nat.beq m 0) (K .nilSlice H) (H.alloc (.cells (some n) vs) fun H1 => K (.slice H.next 0 m m false) H1)
      | .slice b off len cap ex => cond (Nat.blt len 65536 && Nat.blt cap 65536) (cond (Nat.ble (len + m) cap)
          (H.write b (off + len * n) vs fun H => (AV.slice b off (len + m) cap ex).force fun a => K a H)
          (match ex with
            | true => match elems H n s len with
              | none => false
              | some old => H.alloc (.cells (some n) (old ++ vs)) fun H1 => fNat (len + m) fun k => K (.slice H.next 0 k k false) H1
            | false => cond (Nat.beq off 0) (H.grown b n len vs (len + m) K) false)) false
      | _ => false) false
  | _, _ => false

/-- rows, m of them, put behind k others. -/
def glue (k : Nat) (f g : Nat → List AV) (j : Nat) : List AV := if j < k then f j else g (j - k)
def RowsOK (z m : Nat) (g : Nat → List AV) : Prop := ∀ i, i < m → (g i).length = z ∧ leafy (g i) = true
/-- what is appended, as rows. -/
def rowsOf (H : AH) (z : Nat) (x : AV) (K : Nat → (Nat → List AV) → Bool) : Bool := match x with
  | .data z' m g => cond (Nat.beq z z') (K m g) false
  | .gsl b m => match seqAt H b with
    | some (z', n, g) => cond (Nat.beq z z') (fork (decide (m ≤ n)) (K m g) false) false
    | none => false
  | .part b lo m => match seqAt H b with
    | some (z', n, g) => cond (Nat.beq z z') (fork (decide (lo + m ≤ n)) (K m fun i => g (lo + i)) false) false
    | none => false
  | x => match lenOf x with
    | some m => match elems H z x m with
      | some vs => K m fun i => (vs.drop (i * z)).take z
      | none => false
    | none => false
/-- one of two limits; the greater one where it may be. -/
def lim (wide : Bool) (c1 c2 : Bool) (x : Bool) : Bool := fork c1 x (cond wide (fork c2 x false) false)
def gAppend (P : Program) (H : AH) (e : TypeId) (z m : Nat) (s : AV) (g : Nat → List AV) (K : AV → AH → Bool) : Bool :=
  match zero P e, P.info? e with
  | some zv, some i => cond (Nat.blt 0 z && Nat.beq zv.cells.length z && Nat.blt 0 i.bytes && Nat.blt i.bytes 65536)
      (lim (Nat.blt i.bytes 65) (@decide (m < 65536 ∧ RowsOK z m g) (Classical.propDecidable _)) (@decide (m < 1073741824 ∧ RowsOK z m g) (Classical.propDecidable _)) (match s with
        | .nilSlice => H.alloc (.seq z m g) fun H1 => K (.gsl H.next m) H1
        | .slice _ _ 0 0 true => H.alloc (.seq z m g) fun H1 => K (.gsl H.next m) H1
        | .gsl b k => match seqAt H b with
          | some (z', n, f) => cond (Nat.beq z z') (lim (Nat.blt i.bytes 65) (decide (k ≤ n ∧ k < 65536)) (decide (k ≤ n ∧ k < 1073741824)) (H.put b .dead fun H => H.alloc (.seq z (k + m) (glue k f g)) fun H1 => K (.gsl H.next (k + m)) H1)) false
          | none => false
        | .slice b 0 k _ false => match H.tr.get b, H.mem.get b with
          | some (.cells c (some z') cs), some [x] => cond (Nat.beq c b && Nat.beq x b && Nat.beq z z' && Nat.ble (k * z) cs.length && Nat.blt k 65536)
              (H.put b .dead fun H => H.alloc (.seq z (k + m) (glue k (fun j => (cs.drop (j * z)).take z) g)) fun H1 => K (.gsl H.next (k + m)) H1) false
          | _, _ => false
        | _ => false)) false
  | _, _ => false
/-- m rows in the place of rows k, k + 1 ..: those behind stay. -/
def over (k m : Nat) (f g : Nat → List AV) (j : Nat) : List AV := if j < k then f j else if j < k + m then g (j - k) else f j
/-- what is put behind a block's first k rows where the block has room for it: the rows behind stay. -/
def gOver (P : Program) (H : AH) (e : TypeId) (z m b k : Nat) (g : Nat → List AV) (K : AV → AH → Bool) : Bool :=
  match P.info? e, seqAt H b with
  | some i, some (z', n, f) => cond (Nat.beq z z' && Nat.blt i.bytes 65536) (@fork (@decide (k + m ≤ n ∧ RowsOK z m g) (Classical.propDecidable _)) (H.put b .dead fun H => H.alloc (.seq z n (over k m f g)) fun H1 => K (.part H.next 0 (k + m)) H1) false) false
  | _, _ => false
def gPut (P : Program) (H : AH) (e : TypeId) (z m : Nat) (s x : AV) (g : Nat → List AV) (K : AV → AH → Bool) : Bool :=
  match s, x with
  | .part b 0 k, .part b' _ _ => cond (Nat.beq b b') (gOver P H e z m b k g K) (gAppend P H e z m (.gsl b k) g K)
  | .part b 0 k, _ => gAppend P H e z m (.gsl b k) g K
  | s, _ => gAppend P H e z m s g K
/-- is all of it written out? -/
def litS : AV → Bool
  | .part _ _ _ => false
  | .gsl _ _ => false
  | .data _ _ _ => false
  | .str _ => true
  | _ => true
def aMapSet (P : Program) (H : AH) (t : TypeId) (m k x : AV) (K : AH → Bool) : Bool :=
  match P.underlying t, m with
  | some (.map kt _), .map b => H.own b fun H => match H.tr.get b with
    | some (.map c es ck) => match findK P kt k es with
      | some (some i) => match (es.drop i).head? with
        | some e => match toV e.key, toV k with
          | some u, some v => cond (Instr.sameBits 10000 u v) (H.put b (.map c (es.take i ++ { key := k, val := x, born := e.born } :: es.drop (i + 1)) ck) K) false
          | _, _ => false
        | none => false
      | some none => fNat (ck + 1) fun ck' => H.put b (.map c (es ++ [{ key := k, val := x, born := ck }]) ck') K
      | none => false
    | _ => false
  | _, _ => false

def aDelete (P : Program) (H : AH) (t : TypeId) (m k : AV) (K : AH → Bool) : Bool :=
  match P.underlying t, m with
  | some (.map kt _), .nilMap => match toV k with
    | some v => match asPure P (Instr.checkKey true 10000 kt v) with | some _ => K H | none => false
    | none => false
  | some (.map kt _), .map b => H.own b fun H => match H.tr.get b with
    | some (.map c es ck) => match findK P kt k es with
      | some (some i) => H.put b (.map c (es.take i ++ es.drop (i + 1)) ck) K
      | some none => K H
      | none => false
    | _ => false
  | _, _ => false

def allB {α : Type} (f : α → Bool) : List α → Bool
  | [] => true
  | a :: r => match f a with | true => allB f r | false => false

def has (l : List Nat) (n : Nat) : Bool := match l with | [] => false | a :: r => cond (Nat.beq a n) true (has r n)

def aNext (H : AH) (x : AV) (K : AV → AH → Bool) : Bool :=
  match x with
  | .ptr b 0 => H.own b fun H => match H.tr.get b with
    | some (.iter _ none _ _ _) => K (.tuple [.bool false]) H
    | some (.iter c (some m) since seen last) => match H.tr.get m with
      | some (.map _ es ck) =>
        cond (!seen.isEmpty && !es.isEmpty && es.all fun e => Nat.ble last e.born) false
        (let left := es.filter fun e => !has seen e.born
         let old := left.filter fun e => Nat.blt e.born since
         let new := left.filter fun e => Nat.ble since e.born
         (match old.isEmpty with | true => K (.tuple [.bool false]) H | false => true) &&
         allB (fun e => H.put b (.iter c (some m) since (seen ++ [e.born]) ck) fun H => K (.tuple [.bool true, e.key, e.val]) H) (old ++ new))
      | _ => false
    | _ => false
  | _ => false

/-- a part of a row is turned. -/
def setRow (i o : Nat) (vs : List AV) (f : Nat → List AV) (j : Nat) : List AV := if j = i then (f i).take o ++ vs ++ (f i).drop (o + vs.length) else f j
/-- a value's operation, done. -/
def done (H : AH) (r : Res) (K : AV → AH → Bool) : Bool :=
  match r with
  | .val a => K a H
  | .new n s => H.alloc n fun H' => K (s.av H.next) H'
/-- an operation that writes. -/
def evE (P : Program) (H : AH) (tmps : List AV) (o : Oper) (K : AV → AH → Bool) : Bool :=
  match o.op with
  | .store t x y => match aop tmps x, aop tmps y, size P t with
    | some (.ptr b off), some a, some n => cond (a.noTop && (Nat.beq a.cells.length n && Nat.blt 0 n)) (H.write b off a.cells fun H => K (.tuple []) H) false
    | some (.gptr b i o), some a, some n => match seqAt H b with
      | some (z, m, f) => cond (a.noTop && (Nat.beq a.cells.length n && (Nat.blt 0 n && (Nat.ble (o + n) z && leafy a.cells)))) (fork (decide (i < m)) (H.put b (.seq b z m (setRow i o a.cells f)) fun H => K (.tuple []) H) false) false
      | none => false
    | _, _, _ => false
  | .mapUpdate t m k x => match aop tmps m, aop tmps k, aop tmps x with
    | some m, some k, some x => aMapSet P H t m k x fun H => K (.tuple []) H
    | _, _, _ => false
  | .insert t m k x => match aop tmps m, aop tmps k, aop tmps x with
    | some m, some k, some x => aMapSet P H t m k x fun H => K (.tuple []) H
    | _, _, _ => false
  | .makeSlice t l c => match P.underlying t, aop tmps l, aop tmps c with
    | some (.slice e), some (.sint _ n), some (.sint _ m) => match size P e, zero P e, P.info? e with
      | some z, some zv, some i => cond (Nat.beq zv.cells.length z && (Nat.blt 0 z && Nat.blt i.bytes 65)) (fork (decide (n = m ∧ 0 ≤ n ∧ n < 1073741824)) (H.alloc (.seq z n.toNat fun _ => zv.cells) fun H1 => K (.gsl H.next n.toNat) H1) false) false
      | _, _, _ => false
    | _, _, _ => evR P H tmps o fun q => done H q K
  | .next x false => match aop tmps x with
    | some a => aNext H a K
    | none => false
  | .convert s d x => match P.underlying s, P.underlying d, aop tmps x with
    | some (.slice _), some (.slice e), some (.slice b off len cap ex) => match P.underlying e with
      | some (.int .u8) => cond (Nat.beq s d) (match cellsAt H b with | some _ => K (.slice b off len cap ex) H | none => false) false
      | _ => false
    | _, _, _ => false
  | .call c => match c.callee with
    | .builtin .append => match c.argTypes.toList, c.args.toList with
      | t :: t' :: _, [s, x] => match P.underlying t, P.underlying t', aop tmps s, aop tmps x with
        | some (.slice e), some d, some s, some x => match size P e with
          | some n => match d with
            | .int _ => match nat? x, zero P e with
              | some m, some z => cond (Nat.blt m 65536) (aAppend P H e n m s (repeats z.cells m) K) false
              | _, _ => false
            | _ => match litS s && litS x with
              | true => match lenOf x with
                | some m => match elems H n x m with
                  | some vs => aAppend P H e n m s vs K
                  | none => false
                | none => false
              | false => rowsOf H n x fun m g => gPut P H e n m s x g K
          | none => false
        | _, _, _, _ => false
      | _, _ => false
    | .builtin .copy => match c.argTypes.toList, c.args.toList with
      | t :: _, [d, s] => match P.underlying t, aop tmps d, aop tmps s with
        | some (.slice e), some d, some s => match size P e, lenOf d, lenOf s with
          | some n, some dl, some sl => match elems H n s (Nat.min sl dl) with
            | some vs => match d with
              | .nilSlice => K (.int .i64 (.ofNat 0)) H
              | .slice b off _ _ _ => H.write b off vs fun H => fNat (Nat.min sl dl) fun k => K (.int .i64 (.ofNat k)) H
              | _ => false
            | none => false
          | _, _, _ => false
        | _, _, _ => false
      | _, _ => false
    | .builtin .delete => match c.argTypes.toList, c.args.toList with
      | t :: _, [m, k] => match aop tmps m, aop tmps k with
        | some m, some k => aDelete P H t m k fun H => K (.tuple []) H
        | _, _ => false
      | _, _ => false
    | .builtin .clear => match c.argTypes.toList, c.args.toList with
      | t :: _, [x] => match P.underlying t, aop tmps x with
        | some (.slice e), some x => match x with
          | .nilSlice => K (.tuple []) H
          | .empty => K (.tuple []) H
          | .slice b off len _ _ => match zero P e, size P e with
            | some z, some n => cond (Nat.beq z.cells.length n) (H.write b off (repeats z.cells len) fun H => K (.tuple []) H) false
            | _, _ => false
          | .part b lo m => match zero P e, size P e, seqAt H b with
            | some zv, some n, some (z, k, f) => cond (Nat.beq zv.cells.length n && (Nat.beq n z && leafy zv.cells)) (fork (decide (lo + m ≤ k)) (H.put b (.seq b z k (over lo m f fun _ => zv.cells)) fun H => K (.tuple []) H) false) false
            | _, _, _ => false
          | _ => false
        | some (.map _ _), some .nilMap => K (.tuple []) H
        | some (.map _ _), some (.map b) => H.own b fun H => match H.tr.get b with
          | some (.map c _ ck) => H.put b (.map c [] ck) fun H => K (.tuple []) H
          | _ => false
        | _, _ => false
      | _, _ => false
    | _ => false
  | _ => false

/-- what is called: a function, or a round of a loop over a function. -/
inductive Tgt where
  | fn (f : Nat)
  | yield (b : Nat)
abbrev CallF := Tgt → List AV → AH → (AV → AH → Bool) → Bool

/-- what is called, and all that it is handed. -/
def callee (tmps : List AV) (c : Call) : Option (Tgt × List AV) :=
  match c.callee with
  | .value f => match aop tmps f, aops tmps c.args.toList with
    | some (.fn g first caught), some l => some (.fn g, first ++ l ++ caught)
    | some (.yield b), some l => some (.yield b, l)
    | _, _ => none
  | _ => none

/-- 0: it tells a value; 1: it writes; 2: it calls. -/
def kind (P : Program) (o : Oper) : Nat :=
  match o.op with
  | .store .. | .mapUpdate .. | .insert .. | .next .. => 1
  | .convert s d _ => match P.underlying s, P.underlying d with
    | some (.slice _), some (.slice _) => 1
    | _, _ => 0
  | .makeSlice _ (.tmp _) _ => 1
  | .call c => match c.callee with
    | .builtin .append | .builtin .copy | .builtin .delete | .builtin .clear => 1
    | .builtin _ => 0
    | _ => 2
  | _ => 0

/-- an operation that writes or calls. -/
def evW (P : Program) (call : CallF) (H : AH) (tmps : List AV) (o : Oper) (K : AV → AH → Bool) : Bool :=
  cond (Nat.beq (kind P o) 1) (evE P H tmps o K) (match o.op with
    | .call c => match callee tmps c with
      | some (f, args) => call f args H K
      | none => false
    | _ => false)

def put (tmps : List AV) (d : Option Nat) (a : AV) (K : List AV → Bool) : Bool :=
  match d with
  | none => K tmps
  | some d => a.fd fun a => aset tmps d a K

/-- is an operation wanted? -/
def wantedA (ops : Array Oper) (tmps : List AV) (o : Oper) : Option Bool :=
  match o.guard with
  | none => some true
  | some (j, want) => match ops.toList.drop j with
    | q :: _ => match q.dst with
      | some d => match aget tmps d with
        | .bool b => some (b == want)
        | .tuple [] => some false
        | _ => none
      | none => none
    | [] => none


/-- a truth of which nothing is known is looked at both ways. -/
def sides (a : AV) (K : AV → Bool) : Bool := match a with
  | .unkB => match K (.bool true) with | true => K (.bool false) | false => false
  | .sbool b => fork (b) (K (.bool true)) (K (.bool false))
  | a => K a
/-- operations in a row. -/
def evOps (P : Program) (call : CallF) (ops : Array Oper) : List Oper → List AV → AH → (List AV → AH → Bool) → Bool
  | [], tmps, H, K => K tmps H
  | o :: r, tmps, H, K => match wantedA ops tmps o with
    | none => false
    | some false => put tmps o.dst (.tuple []) fun tmps => evOps P call ops r tmps H K
    | some true => match kind P o with
      | 0 => evR P H tmps o fun q => done H q fun a H => sides a fun a => put tmps o.dst a fun tmps => evOps P call ops r tmps H K
      | _ => evW P call H tmps o fun a H => put tmps o.dst a fun tmps => evOps P call ops r tmps H K

/-! a region that draws its order. -/
/-- what stands directly ahead of an operation, as bits. -/
def direct (o : Oper) : Nat := o.after.toList.foldl (fun s e => cond (Region.binds .any e) (s ||| 2 ^ e.on) s) 0
def bit (s i : Nat) : Bool := Nat.testBit s i
/-- for each operation all that stands ahead of it. -/
def closeM (acc : List Nat) (o : Oper) : Nat := o.after.toList.foldl (fun s e => cond (Region.binds .any e) (s ||| 2 ^ e.on ||| acc.getD e.on 0) s) 0
def closures : List Oper → List Nat → List Nat
  | [], acc => acc
  | o :: r, acc => closures r (acc ++ [closeM acc o])
def tmpsOf (ops : List Oper) (o : Oper) : List Nat :=
  (o.op.operands.toList.filterMap fun | .tmp t => some t | _ => none) ++ (match o.guard with | none => [] | some (j, _) => match ops.drop j with | q :: _ => q.dst.toList | [] => [])
def idxs {α : Type} (l : List α) : Nat → List (Nat × α) := fun k => match l with | [] => [] | a :: r => (k, a) :: idxs r (k + 1)
/-- the order is one in which all slots are clear. -/
def drawOK (ops : List Oper) : Bool :=
  let cl := closures ops []
  let io := idxs ops 0
  allB (fun (i, o) =>
    (allB (fun e : Edge => !Region.binds .any e || Nat.blt e.on i) o.after.toList) &&
    (match o.guard with | none => true | some (j, _) => bit (cl.getD i 0) j) &&
    allB (fun (k, q) => match q.dst with
      | none => true
      | some d => Nat.beq k i || ((match o.dst with | some e => !Nat.beq d e | none => true) &&
        (!has (tmpsOf ops o) d || bit (cl.getD i 0) k || bit (cl.getD k 0) i))) io &&
    (match o.dst with | some d => !has (tmpsOf ops o) d | none => true)) io

structure Rec where
  i : Nat
  o : Oper
  tmps : List AV
  res : Res
  id : Nat
def NewB.beq : NewB → NewB → Bool
  | .cells none a, .cells none b => AV.beqs a b
  | .cells (some g) a, .cells (some h) b => Nat.beq g h && AV.beqs a b
  | .map, .map => true
  | .iter none a b, .iter none c d => Nat.beq a c && Nat.beq b d
  | .iter (some m) a b, .iter (some n) c d => Nat.beq m n && Nat.beq a c && Nat.beq b d
  | _, _ => false
def Sh.beq : Sh → Sh → Bool
  | .ptr, .ptr => true
  | .slice a b e, .slice c d f => Nat.beq a c && Nat.beq b d && (e == f)
  | .map, .map => true
  | _, _ => false
mutual
/-- the same? What cannot be told by its looks is a fork. -/
def AV.beqK (a b : AV) (K : Bool) : Bool := match a, b with
  | .sint j a, .sint k b => cond (decide (j = k)) (fork (decide (a = b)) K false) false
  | .agg a, .agg b => AV.beqsK a b K
  | .tuple a, .tuple b => AV.beqsK a b K
  | .data z n f, .data z' n' f' => @fork (@decide (z = z' ∧ n = n' ∧ f = f') (Classical.propDecidable _)) K false
  | .dptr a, .dptr b => AV.beqsK a b K
  | .str s, .str u => fork (decide (s = u)) K false
  | .gsl a x, .gsl b u => cond (Nat.beq a b) (fork (decide (x = u)) K false) false
  | .gptr a x y, .gptr b u v => cond (Nat.beq a b && Nat.beq y v) (fork (decide (x = u)) K false) false
  | .part a l x, .part b k u => cond (Nat.beq a b) (fork (decide (l = k ∧ x = u)) K false) false
  | .sbool a, .sbool b => fork (decide (a = b)) K false
  | a, b => cond (AV.beq a b) K false
def AV.beqsK (a b : List AV) (K : Bool) : Bool := match a, b with
  | [], [] => K
  | a :: r, b :: s => AV.beqK a b (AV.beqsK r s K)
  | _, _ => false
end
def NewB.beqK : NewB → NewB → Bool → Bool
  | .cells none a, .cells none b, K => AV.beqsK a b K
  | .cells (some g) a, .cells (some h) b, K => cond (Nat.beq g h) (AV.beqsK a b K) false
  | a, b, K => cond (a.beq b) K false
def Res.beqK : Res → Res → Bool → Bool
  | .val a, .val b, K => AV.beqK a b K
  | .new n s, .new m t, K => cond (s.beq t) (n.beqK m K) false
  | _, _, _ => false
def Res.beq (a b : Res) : Bool := @decide (a = b) (Classical.propDecidable _)

/-- the first operation that is not done, has all behind it, and tells (or is not wanted); what its test says. -/
def pickV (P : Program) (ops : Array Oper) (dn : Nat) (tmps : List AV) : List (Nat × Oper) → Option (Nat × Oper × Bool)
  | [] => none
  | (i, o) :: r => cond (bit dn i) (pickV P ops dn tmps r) (cond (Nat.beq (direct o &&& dn) (direct o))
      (match wantedA ops tmps o with
        | some false => some (i, o, false)
        | some true => match kind P o with | 0 => some (i, o, true) | _ => pickV P ops dn tmps r
        | none => pickV P ops dn tmps r)
      (pickV P ops dn tmps r))
/-- the first operation that is not done and has all behind it. -/
def pickE (dn : Nat) : List (Nat × Oper) → Option (Nat × Oper)
  | [] => none
  | (i, o) :: r => cond (bit dn i) (pickE dn r) (cond (Nat.beq (direct o &&& dn) (direct o)) (some (i, o)) (pickE dn r))

/-- what was told ahead, told again. -/
def again (P : Program) (H : AH) (anc : Nat) : List Rec → Bool → Bool
  | [], K => K
  | q :: r, K => cond (bit anc q.i) (again P H anc r K) (evR P H q.tmps q.o fun x => x.beqK q.res (again P H anc r K))

def isVal : Res → Bool
  | .val _ => true
  | .new _ _ => false
def againIf (c : Bool) (P : Program) (H : AH) (anc : Nat) (rs : List Rec) (K : Bool) : Bool := match c with | true => again P H anc rs K | false => K
def evDraw (P : Program) (call : CallF) (ops : Array Oper) (io : List (Nat × Oper)) (cl : List Nat) : Nat → Nat → List AV → AH → List Rec → (List AV → AH → Bool) → Bool
  | 0, _, _, _, _, _ => false
  | n + 1, dn, tmps, H, rs, K => match pickV P ops dn tmps io with
    | some (i, o, false) => fNat (dn ||| 2 ^ i) fun dn => put tmps o.dst (.tuple []) fun tmps' => evDraw P call ops io cl n dn tmps' H rs K
    | some (i, o, true) => evR P H tmps o fun q => done H q fun a H' => againIf (!isVal q) P H' 0 ({ i, o, tmps, res := q, id := H.next } :: rs)
        (fNat (dn ||| 2 ^ i) fun dn => put tmps o.dst a fun tmps' => evDraw P call ops io cl n dn tmps' H' ({ i, o, tmps, res := q, id := H.next } :: rs) K)
    | none => match pickE dn io with
      | none => cond (allB (fun (i, _) => bit dn i) io) (K tmps H) false
      | some (i, o) => match wantedA ops tmps o with
        | some true => cond (allB (fun (k, q) => bit dn k || Nat.beq k i || (Nat.beq (kind P q) 0 && !Nat.beq (direct q &&& dn) (direct q)) || bit (cl.getD k 0) i) io)
            (evW P call H tmps o fun a H => again P H (cl.getD i 0) rs
              (fNat (dn ||| 2 ^ i) fun dn => put tmps o.dst a fun tmps => evDraw P call ops io cl n dn tmps H rs K)) false
        | _ => false

inductive Ex where
  | normal
  | exit (id : Nat)
  | goto (l : Nat)
  | ret

/-- a loop over a function has been left: what jump is pending, if any. -/
def endLoop (H : AH) (b : Nat) (K : Option Code → AH → Bool) : Bool :=
  H.own b fun H => match H.tr.get b with
    | some (.loop c st pend t p a bd) => cond (Nat.beq st 1) false (H.put b (.loop c 3 pend t p a bd) fun H => K pend H)
    | _ => false

def evCode (P : Program) (call : CallF) (rd : Bool) : Nat → Code → List AV → AH → (Ex → List AV → AH → Bool) → Bool
  | 0, _, _, _, _ => false
  | n + 1, c, tmps, H, K => match c with
    | .skip => K .normal tmps H
    | .label _ => K .normal tmps H
    | .region _ ops false => evOps P call ops ops.toList tmps H fun tmps H => K .normal tmps H
    | .region _ ops true => cond (drawOK ops.toList) (evDraw P call ops (idxs ops.toList 0) (closures ops.toList []) (2 * ops.toList.length + 1) 0 tmps H [] fun tmps H => K .normal tmps H) false
    | .seq a b => evCode P call rd n a tmps H fun e tmps H => match e with
      | .normal => evCode P call rd n b tmps H K
      | e => K e tmps H
    | .cond x a b => match aop tmps x with
      | some (.bool true) => evCode P call rd n a tmps H K
      | some (.bool false) => evCode P call rd n b tmps H K
      | some .unkB => match evCode P call rd n a tmps H K with
        | true => evCode P call rd n b tmps H K
        | false => false
      | some (.sbool t) => fork t (evCode P call rd n a tmps H K) (evCode P call rd n b tmps H K)
      | _ => false
    | .block id b => evCode P call rd n b tmps H fun e tmps H => match e with
      | .exit j => cond (Nat.beq j id) (K .normal tmps H) (K (.exit j) tmps H)
      | e => K e tmps H
    | .loop b => evCode P call rd n b tmps H fun e tmps H => match e with
      | .normal => evCode P call rd n (.loop b) tmps H K
      | e => K e tmps H
    | .exit id => K (.exit id) tmps H
    | .goto l => K (.goto l) tmps H
    | .ret => K .ret tmps H
    | .rangeFunc f ps as bd => match rd, aop tmps f with
      | false, some (.fn g first caught) => H.alloc (.loop tmps ps.toList as bd) fun H1 =>
          call (.fn g) (first ++ [.yield H.next] ++ caught) H1 fun _ H2 => endLoop H2 H.next fun j H3 => match j with
            | none => K .normal tmps H3
            | some c => evCode P call rd n c tmps H3 K
      | _, _ => false
    | _ => false

def setParams : List Nat → List AV → List AV → (List AV → Bool) → Bool
  | [], [], t, K => K t
  | p :: ps, a :: as, t, K => aset t p a fun t => setParams ps as t K
  | _, _, _, _ => false
def jumpOf : Ex → Option Code
  | .normal => none
  | .exit id => some (.exit id)
  | .goto l => some (.goto l)
  | .ret => some .ret

def resOne (P : Program) (H : AH) (tmps : List AV) : ResultVar → Option AV
  | .tmp t => some (aget tmps t)
  | .cell a t => match aget tmps a with
    | .ptr b off => loadAt P H t b off
    | _ => none
def resAll (P : Program) (H : AH) (tmps : List AV) : List ResultVar → Option (List AV)
  | [] => some []
  | r :: l => match resOne P H tmps r, resAll P H tmps l with | some a, some l => some (a :: l) | _, _ => none
def outV : List AV → AV
  | [a] => a
  | l => .tuple l

def undefs (n : Nat) : List AV := @Nat.rec (fun _ => List AV) [] (fun _ r => .tuple [] :: r) n

/-- a call. -/
def evCall (P : Program) (o : Nat → Bool) (cs : Nat → List AV → AH → (AV → AH → Bool) → Bool) : Nat → CallF
  | 0 => fun _ _ _ _ => false
  | n + 1 => fun t args H K => match t with
    | .fn f => match o f with
     | true => cs f args H K
     | false => match P.funcs[f]? with
      | none => false
      | some fn => match fn.body with
        | none => false
        | some c => evCode P (evCall P o cs n) false n c (args ++ undefs (fn.ntmps - args.length)) H fun e tmps H => match e with
          | .normal => match resAll P H tmps fn.results.toList with | some l => K (outV l) H | none => false
          | .ret => match resAll P H tmps fn.results.toList with | some l => K (outV l) H | none => false
          | _ => false
    | .yield b => match H.tr.get b with
      | some (.loop _ _ _ t ps as bd) => setParams ps args t fun tmps =>
          evCode P (evCall P o cs n) true n as tmps H fun e tmps H => match e with
            | .normal => H.own b fun H => match H.tr.get b with
              | some (.loop c 0 pend t ps as bd2) => H.put b (.loop c 1 pend t ps as bd2) fun H =>
                  evCode P (evCall P o cs n) true n bd tmps H fun e _ H => H.own b fun H => match H.tr.get b with
                    | some (.loop c _ _ t ps as bd) => match jumpOf e with
                      | none => H.put b (.loop c 0 none t ps as bd) fun H => K (.bool true) H
                      | some j => H.put b (.loop c 2 (some j) t ps as bd) fun H => K (.bool false) H
                    | _ => false
              | _ => false
            | _ => false
      | _ => false

def isTrue (a : AV) : Bool := match a with | .bool true => true | _ => false
def AH.none : AH := { tr := .nil, mem := .nil, next := 0 }
/-! the same, told as a tree. -/
inductive T where
  | ff
  | tt
  | leaf (x : AV) (H : AH)
  | again (N : List AV → AH → Bool) (t : List AV) (H : AH)
  | fork (c : Bool) (x y : T)
  | both (x y : T)
  | call (f : Nat) (args : List AV) (H : AH) (K : AV → AH → T)
  | loop (n : Nat) (b : Code) (t : List AV) (H : AH) (K : Ex → List AV → AH → T)
def allT {α : Type} (f : α → T) (l : List α) : T := @List.rec α (fun _ => T) .tt (fun a _ r => .both (f a) r) l
abbrev CallT := Tgt → List AV → AH → (AV → AH → T) → T
namespace Tr
variable {α : Type}
def setT (f : Nat) (t : Tr α) (k : Nat) (v : α) (K : Tr α → T) : T := @Nat.rec (fun _ => Tr α → Nat → (Tr α → T) → T) (fun _ _ _ => .ff)
  (fun _ s t k K => @Tr.rec α (fun _ => T)
    (@Bool.rec (fun _ => T) (@Bool.rec (fun _ => T) (s .nil (Nat.sub (Nat.div k (nat_lit 2)) (nat_lit 1)) fun r => K (.node .nil none r)) (s .nil (Nat.div k (nat_lit 2)) fun l => K (.node l none .nil)) (Nat.beq (Nat.mod k (nat_lit 2)) (nat_lit 1))) (K (.node .nil (some v) .nil)) (Nat.beq k (nat_lit 0)))
    (fun l x r _ _ => @Bool.rec (fun _ => T) (@Bool.rec (fun _ => T) (s r (Nat.sub (Nat.div k (nat_lit 2)) (nat_lit 1)) fun r => K (.node l x r)) (s l (Nat.div k (nat_lit 2)) fun l => K (.node l x r)) (Nat.beq (Nat.mod k (nat_lit 2)) (nat_lit 1))) (K (.node l (some v) r)) (Nat.beq k (nat_lit 0))) t) f t k K
end Tr
def fNatT (n : Nat) (K : Nat → T) : T := match n with | 0 => K 0 | m + 1 => K (m + 1)
def fIntT (n : Int) (K : Int → T) : T := match n with | .ofNat m => fNatT m fun m => K (.ofNat m) | .negSucc m => fNatT m fun m => K (.negSucc m)
def AV.forceT (a : AV) (K : AV → T) : T :=
  match a with
  | .int k n => fIntT n fun n => K (.int k n)
  | .bool b => match b with | true => K (.bool true) | false => K (.bool false)
  | .ptr b off => fNatT b fun b => fNatT off fun off => K (.ptr b off)
  | .slice b off len cap ex => fNatT b fun b => fNatT off fun off => fNatT len fun len => fNatT cap fun cap => match ex with | true => K (.slice b off len cap true) | false => K (.slice b off len cap false)
  | a => K a
def force1T (a : AV) (K : AV → T) : T :=
  match a with
  | .int k n => fIntT n fun n => K (.int k n)
  | .bool b => match b with | true => K (.bool true) | false => K (.bool false)
  | .ptr b off => fNatT b fun b => fNatT off fun off => K (.ptr b off)
  | .slice b off len cap ex => fNatT b fun b => fNatT off fun off => fNatT len fun len => fNatT cap fun cap => match ex with | true => K (.slice b off len cap true) | false => K (.slice b off len cap false)
  | .str s => K (.str s)
  | .nilPtr => K .nilPtr
  | .nilSlice => K .nilSlice
  | .empty => K .empty
  | .nilMap => K .nilMap
  | .map b => fNatT b fun b => K (.map b)
  | .nilFn => K .nilFn
  | .fn f a b => K (.fn f a b)
  | .yield b => fNatT b fun b => K (.yield b)
  | .agg cs => K (.agg cs)
  | .tuple cs => K (.tuple cs)
  | .atom i => K (.atom i)
  | .any => K .any
  | .anySlice => K .anySlice
  | .unkI k => K (.unkI k)
  | .unkB => K .unkB
  | .half n => K (.half n)
  | .sint k n => K (.sint k n)
  | .data z n f => K (.data z n f)
  | .dptr cs => K (.dptr cs)
  | .top => K .top
  | .gsl b n => fNatT b fun b => K (.gsl b n)
  | .gptr b i o => fNatT b fun b => K (.gptr b i o)
  | .part b lo n => fNatT b fun b => K (.part b lo n)
  | .sbool b => K (.sbool b)
def forceLT (l : List AV) : (List AV → T) → T := @List.rec AV (fun _ => (List AV → T) → T) (fun K => K []) (fun a _ rec K => force1T a fun a => rec fun r => K (a :: r)) l
def force2T (a : AV) (K : AV → T) : T :=
  match a with
  | .agg cs => forceLT cs fun cs => K (.agg cs)
  | a => force1T a K
def forceL2T (l : List AV) : (List AV → T) → T := @List.rec AV (fun _ => (List AV → T) → T) (fun K => K []) (fun a _ rec K => force2T a fun a => rec fun r => K (a :: r)) l
def AV.fdT (a : AV) (K : AV → T) : T :=
  match a with
  | .agg cs => forceLT cs fun cs => K (.agg cs)
  | .tuple cs => forceL2T cs fun cs => K (.tuple cs)
  | a => force1T a K
def AH.putT (H : AH) (b : Nat) (k : Blk) (K : AH → T) : T := @AH.rec (fun _ => T) (fun t m n => t.setT 60 b k fun t => K ⟨t, m, n⟩) H
def AH.killT (b : Nat) : List Nat → AH → (AH → T) → T
  | [], H, K => K H
  | x :: l, H, K => cond (Nat.beq x b) (killT b l H K) (H.putT x .dead fun H => killT b l H K)
def AH.ownT (H : AH) (b : Nat) (K : AH → T) : T :=
  match (H.tr.get b).bind Blk.cls with
  | Option.none => .ff
  | some c => match H.mem.get c with
    | Option.none => .ff
    | some l => match l with
      | [_] => K H
      | l => AH.killT b l H fun H => @AH.rec (fun _ => T) (fun t m n => m.setT 60 c [b] fun m => K ⟨t, m, n⟩) H
def AH.allocT (H : AH) (n : NewB) (K : AH → T) : T :=
  @AH.rec (fun _ => T) (fun t m x => t.setT 60 x (n.blk x) fun t => m.setT 60 x [x] fun m => fNatT (Nat.add x (nat_lit 1)) fun x => K ⟨t, m, x⟩) H
def aset0T (l : List AV) (n : Nat) (v : AV) (K : List AV → T) : T := @List.rec AV (fun _ => Nat → (List AV → T) → T) (fun _ K => K [])
  (fun a r s n K => @Nat.rec (fun _ => T) (K (v :: r)) (fun m _ => s m fun r => K (a :: r)) n) l n K
def asetCT (q : Nat) (l : List AV) (n : Nat) (v : AV) (K : List AV → T) : T := @Nat.rec (fun _ => List AV → (List AV → T) → T) (fun l K => aset0T l n v K)
  (fun _ s l K => match l with
    | a :: b :: c :: d :: e :: f :: g :: h :: r => s r fun r => K (a :: b :: c :: d :: e :: f :: g :: h :: r)
    | l => K l) q l K
def asetT (l : List AV) (n : Nat) (v : AV) (K : List AV → T) : T := asetCT (Nat.div n (nat_lit 8)) l (Nat.mod n (nat_lit 8)) v K
def wsetT : List AV → Nat → List AV → (List AV → T) → T
  | l, _, [], K => K l
  | [], _, _ :: _, _ => .ff
  | _ :: r, 0, v :: vs, K => wsetT r 0 vs fun r => K (v :: r)
  | a :: r, o + 1, v :: vs, K => wsetT r o (v :: vs) fun r => K (a :: r)
def fillGT (place : Nat → Option (Nat × Nat)) : List (Nat × AV) → List AV → (List AV → T) → T
  | [], cs, K => K cs
  | (i, v) :: r, cs, K => match place i with
    | none => .ff
    | some (off, n) => cond (v.noTop && Nat.beq v.cells.length n && Nat.ble (off + n) cs.length) (wsetT cs off v.cells fun cs => fillGT place r cs K) .ff
def lscalT (P : Program) (o : Sem Value) (K : AV → T) : T :=
  match asPure P o with
  | none => .ff
  | some v => match ofV v with
    | none => .ff
    | some a => a.forceT K
def twoT (b : Bool) (K : AV → T) : T := match b with | true => K (.bool true) | false => K (.bool false)
def fastBinT (op : BinOp) (k k' : IntKind) (m n : Nat) (slow : T) (K : AV → T) : T :=
  match decide (k = k') with
  | false => slow
  | true => match op with
    | .eql => twoT (Nat.beq m n) K
    | .neq => twoT (not (Nat.beq m n)) K
    | .lss => twoT (Nat.blt m n) K
    | .leq => twoT (Nat.ble m n) K
    | .gtr => twoT (Nat.blt n m) K
    | .geq => twoT (Nat.ble n m) K
    | .add => match isWide k && Nat.blt (Nat.add m n) 2147483648 with
      | true => fNatT (Nat.add m n) fun r => K (.int k (.ofNat r))
      | false => slow
    | .and => match isU32 k && (Nat.blt m 4294967296 && Nat.blt n 4294967296) with
      | true => fNatT (Nat.land m n) fun r => K (.int k (.ofNat r))
      | false => slow
    | .xor => match isU32 k && (Nat.blt m 4294967296 && Nat.blt n 4294967296) with
      | true => fNatT (Nat.xor m n) fun r => K (.int k (.ofNat r))
      | false => slow
    | _ => slow
def fkT (lit : Bool) (c : Bool) (x y : T) : T := match lit with | true => cond c x y | false => .fork c x y
def wrT (k : IntKind) (x : Int) (K : Res → T) : T := T.fork (inR k x) (K (.val (.sint k x))) (K (.val (.sint k (k.wrap x))))
def cvtT (k : IntKind) (x : Int) (K : Res → T) : T := match k with
  | .u8 => K (.val (.sint .u8 (x % 256)))
  | k => wrT k x K
def orKT (k : IntKind) (a b : Int) (K : Res → T) : T := match orB k with
  | some m => T.fork (decide (0 ≤ a ∧ a % 256 = 0 ∧ a ≤ m ∧ 0 ≤ b ∧ b < 256)) (K (.val (.sint k (a + b)))) (K (.val (.sint k (k.wrap (BitVec.ofInt k.bits a ||| BitVec.ofInt k.bits b).toNat))))
  | none => K (.val (.sint k (k.wrap (BitVec.ofInt k.bits a ||| BitVec.ofInt k.bits b).toNat)))
def symArithT (op : BinOp) (k k' : IntKind) (a b : Int) (lit : Bool) (K : Res → T) : T :=
  match decide (k = k') with
  | false => .ff
  | true => match op with
    | .add => wrT k (a + b) K
    | .sub => wrT k (a - b) K
    | .mul => wrT k (a * b) K
    | .quo => fkT lit (decide (b = 0)) .ff (wrT k (a.tdiv b) K)
    | .rem => fkT lit (decide (b = 0)) .ff (K (.val (.sint k (a.tmod b))))
    | .and => K (.val (.sint k (k.wrap (BitVec.ofInt k.bits a &&& BitVec.ofInt k.bits b).toNat)))
    | .or => orKT k a b K
    | .xor => K (.val (.sint k (k.wrap (BitVec.ofInt k.bits a ^^^ BitVec.ofInt k.bits b).toNat)))
    | .eql => T.fork (decide (a = b)) (K (.val (.bool true))) (K (.val (.bool false)))
    | .neq => T.fork (decide (a = b)) (K (.val (.bool false))) (K (.val (.bool true)))
    | .lss => T.fork (decide (a < b)) (K (.val (.bool true))) (K (.val (.bool false)))
    | .leq => T.fork (decide (a ≤ b)) (K (.val (.bool true))) (K (.val (.bool false)))
    | .gtr => T.fork (decide (b < a)) (K (.val (.bool true))) (K (.val (.bool false)))
    | .geq => T.fork (decide (b ≤ a)) (K (.val (.bool true))) (K (.val (.bool false)))
    | _ => .ff
def symBinT (op : BinOp) (k k' : IntKind) (a b : Int) (lit : Bool) (K : Res → T) : T :=
  match op with
  | .shl => fkT lit (decide (b < 0)) .ff (wrT k (a * 2 ^ (min b.toNat k.bits)) K)
  | .shr => fkT lit (decide (b < 0)) .ff (K (.val (.sint k (a / (2 ^ (min b.toNat k.bits))))))
  | op => symArithT op k k' a b lit K
def eqAggT (P : Program) (op : BinOp) (t : TypeId) (a b : AV) (K : Res → T) : T :=
  match a, b with
  | .agg xs, .agg ys => match eqPairs P 8 t (.agg xs) (.agg ys) with
    | some l => cond (P.eqGuardType P.depth t) .ff (match op with
      | .eql => T.fork (@decide (conjP l) (Classical.propDecidable _)) (K (.val (.bool true))) (K (.val (.bool false)))
      | .neq => T.fork (@decide (conjP l) (Classical.propDecidable _)) (K (.val (.bool false))) (K (.val (.bool true)))
      | _ => .ff)
    | none => .ff
  | _, _ => .ff
def aBinT (P : Program) (op : BinOp) (t : TypeId) (x y : Operand) (a b : AV) (K : Res → T) : T :=
  match a, b with
  | .str s, .str u => match op with
    | .eql => T.fork (decide (s = u)) (K (.val (.bool true))) (K (.val (.bool false)))
    | .neq => T.fork (decide (s = u)) (K (.val (.bool false))) (K (.val (.bool true)))
    | _ => .ff
  | .sint k a, .int k' b => symBinT op k k' a b true K
  | .int k a, .sint k' b => symBinT op k k' a b false K
  | .sint k a, .sint k' b => symBinT op k k' a b false K
  | .unkI j, .int k _ => cond (decide (j = k)) (match op with
    | .eql => K (.val .unkB)
    | .neq => K (.val .unkB)
    | .lss => K (.val .unkB)
    | .leq => K (.val .unkB)
    | .gtr => K (.val .unkB)
    | .geq => K (.val .unkB)
    | .add => K (.val (.unkI j))
    | .sub => K (.val (.unkI j))
    | _ => .ff) .ff
  | .half neg, .int k n => cond (decide (k = .i64)) (match op with
    | .eql => K (.val .unkB)
    | .neq => K (.val .unkB)
    | .lss => match decide (n = 0) with | true => K (.val (.bool neg)) | false => K (.val .unkB)
    | .leq => K (.val .unkB)
    | .gtr => K (.val .unkB)
    | .geq => match decide (n = 0) with | true => K (.val (.bool (!neg))) | false => K (.val .unkB)
    | _ => .ff) .ff
  | .int k (.ofNat m), .int k' (.ofNat n) => fastBinT op k k' m n (lscalT P (do eqGuard op t x y (.int k (.ofNat m)) (.int k' (.ofNat n)); Go.binOp op t (.int k (.ofNat m)) (.int k' (.ofNat n))) fun a => K (.val a)) fun a => K (.val a)
  | a, b => match toV a, toV b with
    | some v, some w => lscalT P (do eqGuard op t x y v w; Go.binOp op t v w) fun a => K (.val a)
    | _, _ => match P.underlying t with
      | none => .ff
      | some d => cond (oneNil d a b) (match op with
        | .eql => K (.val (.bool false))
        | .neq => K (.val (.bool true))
        | _ => .ff) (match nilLen d a b with
          | some n => match op with
            | .eql => T.fork (decide (0 < n)) (K (.val (.bool false))) (K (.val .unkB))
            | .neq => T.fork (decide (0 < n)) (K (.val (.bool true))) (K (.val .unkB))
            | _ => .ff
          | none => eqAggT P op t a b K)
def aConvT (P : Program) (H : AH) (src dst : TypeId) (a : AV) (K : Res → T) : T :=
  match P.underlying src, P.underlying dst with
  | some s, some d => match a with
    | .str l => match d with
      | .string => K (.val (.str l))
      | .slice e => match P.underlying e with
        | some (.int .u8) => K (.new (.cells (some 1) (l.map fun x => .int .u8 (.ofNat x))) (.slice l.length l.length false))
        | _ => .ff
      | _ => .ff
    | .int k n => match d with
      | .int _ => lscalT P (convert src dst (.int k n)) fun a => K (.val a)
      | _ => .ff
    | .sint _ n => match d with
      | .int k => cvtT k n K
      | _ => .ff
    | .unkI _ => match d with
      | .int k => K (.val (.unkI k))
      | _ => .ff
    | .data _ n f => match s, d with
      | .slice e, .string => match P.underlying e with
        | some (.int .u8) => T.fork (@decide (AllBytes n f) (Classical.propDecidable _)) (K (.val (.str (bytesOf n f)))) .ff
        | _ => .ff
      | _, _ => .ff
    | .gsl b n => match s, d with
      | .slice e, .string => match P.underlying e with
        | some (.int .u8) => match seqAt H b with
          | some (_, m, f) => T.fork (@decide (n ≤ m ∧ AllBytes n f) (Classical.propDecidable _)) (K (.val (.str (bytesOf n f)))) .ff
          | none => .ff
        | _ => .ff
      | _, _ => .ff
    | a => match s, d with
      | .slice e, .string => match P.underlying e with
        | some (.int .u8) => match lenOf a with
          | none => .ff
          | some n => match elems H 1 a n with
            | none => .ff
            | some l => match bytes? l with
              | none => T.fork (@decide (ByteL l) (Classical.propDecidable _)) (K (.val (.str (l.map fun x => natOf [x])))) .ff
              | some s => K (.val (.str s))
        | _ => .ff
      | _, _ => .ff
  | _, _ => .ff
def forkIxT (i : Int) (K : Nat → T) : Nat → T
  | 0 => .ff
  | n + 1 => T.fork (decide (i = Int.ofNat n)) (K n) (forkIxT i K n)
def aSlice0T (P : Program) (H : AH) (t : TypeId) (x : AV) (lo hi mx : Option AV) (K : Res → T) : T :=
  match P.underlying t, x with
  | some (.array n e), .ptr b off => match nats? n mx with
    | none => .ff
    | some m => match nats? n hi, nats? 0 lo, size P e with
      | some h, some l, some z => cond (Nat.ble m n && Nat.ble h m && Nat.ble l h && (hi.isSome || mx.isNone))
          ((AV.slice b (cond (Nat.beq m l) off (off + l * z)) (h - l) (m - l) true).forceT fun a => K (.val a)) .ff
      | _, _, _ => .ff
  | some (.slice e), .gsl b n => match mx, bndOf (Int.ofNat n) hi, bndOf 0 lo, size P e with
    | none, some h, some l, some z => T.fork (decide (l = 0 ∧ 0 ≤ h ∧ h ≤ Int.ofNat n)) (cond hi.isSome (T.fork (decide (0 < n)) (K (.val (.part b 0 h.toNat))) (K (.val (.gsl b h.toNat)))) (K (.val (.gsl b h.toNat)))) (match seqAt H b with
      | some (z', nr, _) => cond (Nat.beq z z') (T.fork (decide (0 < n ∧ 0 ≤ l ∧ l ≤ h ∧ h ≤ Int.ofNat nr)) (K (.val (.part b l.toNat (h.toNat - l.toNat)))) .ff) .ff
      | none => .ff)
    | some (.sint _ m), some h, some l, some _ => cond hi.isSome (T.fork (decide (0 ≤ l ∧ l ≤ h ∧ h ≤ m ∧ m ≤ Int.ofNat n)) (K (.val .top)) .ff) .ff
    | _, _, _, _ => .ff
  | some (.slice e), .part b o n => match mx, bndOf (Int.ofNat n) hi, bndOf 0 lo, size P e with
    | none, some h, some l, some z => match seqAt H b with
      | some (z', nr, _) => cond (Nat.beq z z') (T.fork (decide (0 ≤ l ∧ l ≤ h ∧ Int.ofNat o + h ≤ Int.ofNat nr)) (K (.val (.part b (o + l.toNat) (h.toNat - l.toNat)))) .ff) .ff
      | none => .ff
    | some (.sint _ m), some h, some l, some _ => cond hi.isSome (T.fork (decide (0 ≤ l ∧ l ≤ h ∧ h ≤ m ∧ m ≤ Int.ofNat n)) (K (.val .top)) .ff) .ff
    | _, _, _, _ => .ff
  | some (.slice e), .data z n f => match mx, bndOf (Int.ofNat n) hi, bndOf 0 lo, size P e with
    | none, some h, some l, some z' => cond (Nat.beq z z') (T.fork (decide (0 ≤ l ∧ l ≤ h ∧ h ≤ Int.ofNat n)) (K (.val (.data z (h.toNat - l.toNat) (fun i => f (l.toNat + i))))) .ff) .ff
    | _, _, _, _ => .ff
  | some (.slice e), .nilSlice => match nats? 0 mx, nats? 0 hi, nats? 0 lo, size P e with
    | some 0, some 0, some 0, some _ => cond (hi.isSome || mx.isNone) (K (.val .nilSlice)) .ff
    | _, _, _, _ => .ff
  | some (.slice e), .slice b off len cap ex => match nats? cap mx, nats? len hi, nats? 0 lo, size P e, cellsAt H b with
    | some m, some h, some l, some z, some (g, _) => cond (Nat.ble m cap && Nat.ble h m && Nat.ble l h && (hi.isSome || mx.isNone))
        (match ex || mx.isSome with
          | true => (AV.slice b (cond (Nat.beq m l) off (off + l * z)) (h - l) (m - l) true).forceT fun a => K (.val a)
          | false => cond (Nat.beq l 0) ((AV.slice b off h cap false).forceT fun a => K (.val a))
              (cond (Nat.blt l m && (match g with | some w => Nat.beq w z | none => false)) ((AV.slice b (off + l * z) (h - l) (m - l) false).forceT fun a => K (.val a))
                (cond (Nat.beq h l) (K (.val .empty)) .ff))) .ff
    | _, _, _, _, _ => .ff
  | _, _ => .ff
def aSliceT (P : Program) (H : AH) (t : TypeId) (x : AV) (lo hi mx : Option AV) (K : Res → T) : T := match x, hi with
  | .slice b off len cap ex, some (.sint k h) => forkIxT h (fun h' => aSlice0T P H t (.slice b off len cap ex) lo (some (.int k (Int.ofNat h'))) mx K) (cap + 1)
  | .nilSlice, some (.sint k h) => forkIxT h (fun h' => aSlice0T P H t .nilSlice lo (some (.int k (Int.ofNat h'))) mx K) 1
  | x, hi => aSlice0T P H t x lo hi mx K
def aLook0T (P : Program) (kt e : TypeId) (es : List Ent) (ok : Bool) (k : AV) (K : Res → T) : T := match findK P kt k es with
  | some (some i) => match (es.drop i).head? with
    | some en => K (.val (match ok with | true => .tuple [en.val, .bool true] | false => en.val))
    | none => .ff
  | some none => match zero P e with
    | some z => K (.val (match ok with | true => .tuple [z, .bool false] | false => z))
    | none => .ff
  | none => .ff
def pinT (j : IntKind) (x : Int) (K : AV → T) : List Ent → T
  | [] => .ff
  | e :: r => match e.key with
    | .int _ n => T.fork (decide (x = n)) (K (.int j n)) (pinT j x K r)
    | _ => .ff
def aLookT (P : Program) (kt e : TypeId) (es : List Ent) (ok : Bool) (k : AV) (K : Res → T) : T := match k with
  | .sint j x => pinT j x (fun k => aLook0T P kt e es ok k K) es
  | k => aLook0T P kt e es ok k K
def aLenT (P : Program) (H : AH) (t : TypeId) (a : AV) (K : Res → T) : T :=
  match P.underlying t, a with
  | some .string, .str s => fNatT s.length fun n => K (.val (.int .i64 (.ofNat n)))
  | some (.array n _), _ => fNatT n fun n => K (.val (.int .i64 (.ofNat n)))
  | some (.slice _), a => match a with
    | .nilSlice => K (.val (.int .i64 (.ofNat 0)))
    | .empty => K (.val (.int .i64 (.ofNat 0)))
    | .slice _ _ n _ _ => K (.val (.int .i64 (.ofNat n)))
    | .anySlice => K (.val (.unkI .i64))
    | .data _ n _ => K (.val (.sint .i64 (Int.ofNat n)))
    | .gsl _ n => K (.val (.sint .i64 (Int.ofNat n)))
    | .part _ _ n => K (.val (.sint .i64 (Int.ofNat n)))
    | _ => .ff
  | some (.map _ _), .nilMap => K (.val (.int .i64 (.ofNat 0)))
  | some (.map _ _), .map b => match H.tr.get b with
    | some (.map _ es _) => fNatT es.length fun n => K (.val (.int .i64 (.ofNat n)))
    | _ => .ff
  | _, _ => .ff
def aUnT (P : Program) (op : UnOp) (a : AV) (K : Res → T) : T := match a with
  | .sint k n => match op with
    | .neg => wrT k (0 - n) K
    | _ => .ff
  | a => match toV a with | some v => lscalT P (Op.unary op v) fun a => K (.val a) | none => .ff
def maxKT (big : Bool) (l : List AV) (K : Res → T) : T := match l with
  | [a, b] => match numOf a, numOf b with
    | some (k, x), some (_, y) => match big with
      | true => T.fork (decide (x < y)) (K (.val (.sint k y))) (K (.val (.sint k x)))
      | false => T.fork (decide (y < x)) (K (.val (.sint k y))) (K (.val (.sint k x)))
    | _, _ => .ff
  | _ => .ff
def evR0T (P : Program) (H : AH) (tmps : List AV) (o : Oper) (K : Res → T) : T :=
  match o.op with
  | .move x => match aop tmps x with | some a => K (.val a) | none => .ff
  | .assign x => match aop tmps x with | some a => K (.val a) | none => .ff
  | .pick c a b => match aop tmps c, aop tmps a, aop tmps b with
    | some (.bool true), some a, some _ => K (.val a)
    | some (.bool false), some _, some b => K (.val b)
    | _, _, _ => .ff
  | .alloc t => match zero P t with | some a => K (.new (.cells none a.cells) .ptr) | none => .ff
  | .box _ x => match aop tmps x with | some a => cond a.noTop (K (.new (.cells none a.cells) .ptr)) .ff | none => .ff
  | .build t ps => match zero P t, aparts tmps ps.toList with
    | some z, some l => match P.underlying t with
      | some (.struct fs) => match places P fs.toList with
        | some pl => fillGT (fun i => (pl.drop i).head?) l z.cells fun cs => K (.val (.agg cs))
        | none => .ff
      | some (.array _ e) => match size P e with
        | some n => fillGT (fun i => some (i * n, n)) l z.cells fun cs => K (.val (.agg cs))
        | none => .ff
      | _ => .ff
    | _, _ => .ff
  | .buildSlice t len ps => match P.underlying t, aparts tmps ps.toList with
    | some (.slice e), some l => match size P e, zero P e with
      | some n, some z => cond (Nat.blt (len * n) 65536 && Nat.beq z.cells.length n && Nat.blt 0 n) (fillGT (fun i => some (i * n, n)) l (repeats z.cells len) fun cs => K (.new (.cells none cs) (.slice len len true))) .ff
      | _, _ => .ff
    | _, _ => .ff
  | .load t x => match aop tmps x with
    | some (.ptr b off) => match loadAt P H t b off with | some a => K (.val a) | none => .ff
    | some (.dptr cs) => match part P t cs 0 with | some a => K (.val a) | none => .ff
    | some (.gptr b i o) => match seqAt H b with
      | some (_, n, f) => T.fork (decide (i < n)) (match part P t (f i) o with | some a => K (.val a) | none => .ff) .ff
      | none => .ff
    | _ => .ff
  | .nilCheck x => match aop tmps x with
    | some (.ptr b off) => K (.val (.ptr b off))
    | some (.fn f a b) => K (.val (.fn f a b))
    | _ => .ff
  | .binOp op t x y _ => match aop tmps x, aop tmps y with | some a, some b => aBinT P op t x y a b K | _, _ => .ff
  | .unOp op _ x => match aop tmps x with
    | some a => aUnT P op a K
    | none => .ff
  | .convert s d x => match aop tmps x with | some a => aConvT P H s d a K | none => .ff
  | .makeFunc (.func f) a b => match aops tmps a.toList, aops tmps b.toList with | some a, some b => K (.val (.fn f a b)) | _, _ => .ff
  | .makeMap t none => match P.underlying t with | some (.map _ _) => K (.new .map .map) | _ => .ff
  | .makeSlice t l c => match P.underlying t, aop tmps l, aop tmps c with
    | some (.slice e), some l, some c => match nat? l, nat? c, size P e, zero P e, P.info? e with
      | some l, some c, some n, some z, some i => cond (Nat.ble l c && Nat.blt c 65536 && Nat.blt (c * i.bytes) 1048576 && Nat.beq z.cells.length n && Nat.blt 0 n) (K (.new (.cells none (repeats z.cells c)) (.slice l c true))) .ff
      | _, _, _, _, _ => .ff
    | _, _, _ => .ff
  | .slice t x lo hi mx => match aop tmps x, lo.elim (some none) (fun x => (aop tmps x).map some), hi.elim (some none) (fun x => (aop tmps x).map some), mx.elim (some none) (fun x => (aop tmps x).map some) with
    | some x, some lo, some hi, some mx => aSliceT P H t x lo hi mx K
    | _, _, _, _ => .ff
  | .fieldAddr s x i => match aop tmps x, fields P s with
    | some (.ptr b off), some fs => match (fs.drop i).head? with
      | some f => match size P f.type with
        | some (_ + 1) => (AV.ptr b (off + f.offset)).forceT fun a => K (.val a)
        | _ => .ff
      | none => .ff
    | some (.dptr cs), some fs => match (fs.drop i).head? with
      | some f => match size P f.type with
        | some (_ + 1) => cond (Nat.ble f.offset cs.length) (K (.val (.dptr (cs.drop f.offset)))) .ff
        | _ => .ff
      | none => .ff
    | some (.gptr b j o), some fs => match (fs.drop i).head? with
      | some f => match size P f.type with
        | some (_ + 1) => fNatT (Nat.add o f.offset) fun o => K (.val (.gptr b j o))
        | _ => .ff
      | none => .ff
    | _, _ => .ff
  | .field t x i => match aop tmps x, fields P t with
    | some (.agg cs), some fs => match (fs.drop i).head? with
      | some f => match part P f.type cs f.offset with | some a => K (.val a) | none => .ff
      | none => .ff
    | _, _ => .ff
  | .indexAddr t x i => match P.underlying t, aop tmps x, aop tmps i with
    | some (.array n e), some (.ptr b off), some (.sint _ i) => match size P e with
      | some z => forkIxT i (fun i => (AV.ptr b (off + i * z)).forceT fun a => K (.val a)) n
      | _ => .ff
    | some (.slice e), some (.slice b off n _ _), some (.sint _ i) => match size P e with
      | some z => forkIxT i (fun i => (AV.ptr b (off + i * z)).forceT fun a => K (.val a)) n
      | _ => .ff
    | some (.slice e), some (.data z n f), some (.sint _ i) => match size P e with
      | some z' => cond (Nat.beq z z') (T.fork (decide (0 ≤ i ∧ i.toNat < n)) (K (.val (.dptr (f i.toNat)))) .ff) .ff
      | _ => .ff
    | some (.slice e), some (.data z n f), some (.int _ i) => match size P e with
      | some z' => cond (Nat.beq z z') (T.fork (decide (0 ≤ i ∧ i.toNat < n)) (K (.val (.dptr (f i.toNat)))) .ff) .ff
      | _ => .ff
    | some (.slice e), some (.gsl b n), some (.sint _ i) => match size P e, seqAt H b with
      | some z', some (z, _, _) => cond (Nat.beq z z') (T.fork (decide (0 ≤ i ∧ i.toNat < n)) (K (.val (.gptr b i.toNat 0))) .ff) .ff
      | _, _ => .ff
    | some (.slice e), some (.gsl b n), some (.int _ i) => match size P e, seqAt H b with
      | some z', some (z, _, _) => cond (Nat.beq z z') (T.fork (decide (0 ≤ i ∧ i.toNat < n)) (K (.val (.gptr b i.toNat 0))) .ff) .ff
      | _, _ => .ff
    | some (.array n e), some (.ptr b off), some i => match nat? i, size P e with
      | some i, some z => cond (Nat.blt i n) ((AV.ptr b (off + i * z)).forceT fun a => K (.val a)) .ff
      | _, _ => .ff
    | some (.slice e), some (.slice b off n _ _), some i => match nat? i, size P e with
      | some i, some z => cond (Nat.blt i n) ((AV.ptr b (off + i * z)).forceT fun a => K (.val a)) .ff
      | _, _ => .ff
    | _, _, _ => .ff
  | .index t x i => match P.underlying t, aop tmps x, aop tmps i with
    | some (.array n e), some (.agg cs), some (.sint _ i) => match size P e with
      | some z => forkIxT i (fun i => match part P e cs (i * z) with | some a => K (.val a) | none => .ff) n
      | _ => .ff
    | some (.array n e), some (.agg cs), some i => match nat? i, size P e with
      | some i, some z => cond (Nat.blt i n) (match part P e cs (i * z) with | some a => K (.val a) | none => .ff) .ff
      | _, _ => .ff
    | some .string, some (.str s), some i => match nat? i with
      | some i => match (s.drop i).head? with | some n => K (.val (.int .u8 (.ofNat n))) | none => .ff
      | none => .ff
    | _, _, _ => .ff
  | .lookup t x k ok => match P.underlying t, aop tmps x, aop tmps k with
    | some (.map kt e), some m, some k => match m with
      | .nilMap => match toV k, zero P e with
        | some kv, some z => match asPure P (Instr.checkKey true 10000 kt kv), asPure P (Instr.findKey kt kv []) with
          | some _, some none => K (.val (match ok with | true => .tuple [z, .bool false] | false => z))
          | _, _ => .ff
        | _, _ => .ff
      | .map b => match H.tr.get b with
        | some (.map _ es _) => aLookT P kt e es ok k K
        | _ => .ff
      | _ => .ff
    | _, _, _ => .ff
  | .range t x => match P.underlying t, aop tmps x with
    | some (.map _ _), some .nilMap => K (.new (.iter none 0 0) .ptr)
    | some (.map _ _), some (.map b) => match H.tr.get b with
      | some (.map _ _ c) => K (.new (.iter (some b) c c) .ptr)
      | _ => .ff
    | _, _ => .ff
  | .entry x => match aop tmps x with
    | some (.ptr b 0) => match H.tr.get b with
      | some (.iter _ (some m) _ seen st) => match seen.getLast?, H.tr.get m with
        | some s, some (.map _ es c) => cond (Nat.beq c st) (match es.find? fun e => Nat.beq e.born s with
          | some e => K (.val (.tuple [e.key, e.val]))
          | none => .ff) .ff
        | _, _ => .ff
      | _ => .ff
    | _ => .ff
  | .extract x i => match aop tmps x with
    | some (.tuple l) => match (l.drop i).head? with | some a => K (.val a) | none => .ff
    | _ => .ff
  | .call c => match c.callee with
    | .builtin .len => match c.argTypes.toList, c.args.toList with
      | t :: _, [x] => match aop tmps x with | some a => aLenT P H t a K | none => .ff
      | _, _ => .ff
    | .builtin .cap => match c.argTypes.toList, c.args.toList with
      | t :: _, [x] => match P.underlying t, aop tmps x with
        | some (.slice _), some .nilSlice => K (.val (.int .i64 (.ofNat 0)))
        | some (.slice _), some (.slice _ _ _ cap true) => K (.val (.int .i64 (.ofNat cap)))
        | _, _ => .ff
      | _, _ => .ff
    | .builtin .max => match aops tmps c.args.toList with
      | some l => match toVs l with | some vs => lscalT P (Builtin.max_ c.argTypes o.type ⟨vs⟩) fun a => K (.val a) | none => maxKT (true) l K
      | none => .ff
    | .builtin .min => match aops tmps c.args.toList with
      | some l => match toVs l with | some vs => lscalT P (Builtin.min_ c.argTypes o.type ⟨vs⟩) fun a => K (.val a) | none => maxKT (false) l K
      | none => .ff
    | _ => .ff
  | _ => .ff
def evRT (P : Program) (H : AH) (tmps : List AV) (o : Oper) (K : Res → T) : T :=
  (match o.op with
  | .move x => fun _ _ tmps _ K => match aop tmps x with | some a => K (.val a) | none => .ff
  | .assign x => fun _ _ tmps _ K => match aop tmps x with | some a => K (.val a) | none => .ff
  | .pick c a b => fun _ _ tmps _ K => match aop tmps c, aop tmps a, aop tmps b with
    | some (.bool true), some a, some _ => K (.val a)
    | some (.bool false), some _, some b => K (.val b)
    | _, _, _ => .ff
  | .alloc t => fun P _ _ _ K => match zero P t with | some a => K (.new (.cells none a.cells) .ptr) | none => .ff
  | .box _ x => fun _ _ tmps _ K => match aop tmps x with | some a => cond a.noTop (K (.new (.cells none a.cells) .ptr)) .ff | none => .ff
  | .build t ps => fun P _ tmps _ K => match zero P t, aparts tmps ps.toList with
    | some z, some l => match P.underlying t with
      | some (.struct fs) => match places P fs.toList with
        | some pl => fillGT (fun i => (pl.drop i).head?) l z.cells fun cs => K (.val (.agg cs))
        | none => .ff
      | some (.array _ e) => match size P e with
        | some n => fillGT (fun i => some (i * n, n)) l z.cells fun cs => K (.val (.agg cs))
        | none => .ff
      | _ => .ff
    | _, _ => .ff
  | .buildSlice t len ps => fun P _ tmps _ K => match P.underlying t, aparts tmps ps.toList with
    | some (.slice e), some l => match size P e, zero P e with
      | some n, some z => cond (Nat.blt (len * n) 65536 && Nat.beq z.cells.length n && Nat.blt 0 n) (fillGT (fun i => some (i * n, n)) l (repeats z.cells len) fun cs => K (.new (.cells none cs) (.slice len len true))) .ff
      | _, _ => .ff
    | _, _ => .ff
  | .load t x => fun P H tmps _ K => match aop tmps x with
    | some (.ptr b off) => match loadAt P H t b off with | some a => K (.val a) | none => .ff
    | some (.dptr cs) => match part P t cs 0 with | some a => K (.val a) | none => .ff
    | some (.gptr b i o) => match seqAt H b with
      | some (_, n, f) => T.fork (decide (i < n)) (match part P t (f i) o with | some a => K (.val a) | none => .ff) .ff
      | none => .ff
    | _ => .ff
  | .nilCheck x => fun _ _ tmps _ K => match aop tmps x with
    | some (.ptr b off) => K (.val (.ptr b off))
    | some (.fn f a b) => K (.val (.fn f a b))
    | _ => .ff
  | .binOp op t x y _ => fun P _ tmps _ K => match aop tmps x, aop tmps y with | some a, some b => aBinT P op t x y a b K | _, _ => .ff
  | .unOp op _ x => fun P _ tmps _ K => match aop tmps x with
    | some a => aUnT P op a K
    | none => .ff
  | .convert s d x => fun P H tmps _ K => match aop tmps x with | some a => aConvT P H s d a K | none => .ff
  | .makeFunc (.func f) a b => fun _ _ tmps _ K => match aops tmps a.toList, aops tmps b.toList with | some a, some b => K (.val (.fn f a b)) | _, _ => .ff
  | .makeMap t none => fun P _ _ _ K => match P.underlying t with | some (.map _ _) => K (.new .map .map) | _ => .ff
  | .makeSlice t l c => fun P _ tmps _ K => match P.underlying t, aop tmps l, aop tmps c with
    | some (.slice e), some l, some c => match nat? l, nat? c, size P e, zero P e, P.info? e with
      | some l, some c, some n, some z, some i => cond (Nat.ble l c && Nat.blt c 65536 && Nat.blt (c * i.bytes) 1048576 && Nat.beq z.cells.length n && Nat.blt 0 n) (K (.new (.cells none (repeats z.cells c)) (.slice l c true))) .ff
      | _, _, _, _, _ => .ff
    | _, _, _ => .ff
  | .slice t x lo hi mx => fun P H tmps _ K => match aop tmps x, lo.elim (some none) (fun x => (aop tmps x).map some), hi.elim (some none) (fun x => (aop tmps x).map some), mx.elim (some none) (fun x => (aop tmps x).map some) with
    | some x, some lo, some hi, some mx => aSliceT P H t x lo hi mx K
    | _, _, _, _ => .ff
  | .fieldAddr s x i => fun P _ tmps _ K => match aop tmps x, fields P s with
    | some (.ptr b off), some fs => match (fs.drop i).head? with
      | some f => match size P f.type with
        | some (_ + 1) => (AV.ptr b (off + f.offset)).forceT fun a => K (.val a)
        | _ => .ff
      | none => .ff
    | some (.dptr cs), some fs => match (fs.drop i).head? with
      | some f => match size P f.type with
        | some (_ + 1) => cond (Nat.ble f.offset cs.length) (K (.val (.dptr (cs.drop f.offset)))) .ff
        | _ => .ff
      | none => .ff
    | some (.gptr b j o), some fs => match (fs.drop i).head? with
      | some f => match size P f.type with
        | some (_ + 1) => fNatT (Nat.add o f.offset) fun o => K (.val (.gptr b j o))
        | _ => .ff
      | none => .ff
    | _, _ => .ff
  | .field t x i => fun P _ tmps _ K => match aop tmps x, fields P t with
    | some (.agg cs), some fs => match (fs.drop i).head? with
      | some f => match part P f.type cs f.offset with | some a => K (.val a) | none => .ff
      | none => .ff
    | _, _ => .ff
  | .indexAddr t x i => fun P _ tmps _ K => match P.underlying t, aop tmps x, aop tmps i with
    | some (.array n e), some (.ptr b off), some (.sint _ i) => match size P e with
      | some z => forkIxT i (fun i => (AV.ptr b (off + i * z)).forceT fun a => K (.val a)) n
      | _ => .ff
    | some (.slice e), some (.slice b off n _ _), some (.sint _ i) => match size P e with
      | some z => forkIxT i (fun i => (AV.ptr b (off + i * z)).forceT fun a => K (.val a)) n
      | _ => .ff
    | some (.slice e), some (.data z n f), some (.sint _ i) => match size P e with
      | some z' => cond (Nat.beq z z') (T.fork (decide (0 ≤ i ∧ i.toNat < n)) (K (.val (.dptr (f i.toNat)))) .ff) .ff
      | _ => .ff
    | some (.slice e), some (.data z n f), some (.int _ i) => match size P e with
      | some z' => cond (Nat.beq z z') (T.fork (decide (0 ≤ i ∧ i.toNat < n)) (K (.val (.dptr (f i.toNat)))) .ff) .ff
      | _ => .ff
    | some (.slice e), some (.gsl b n), some (.sint _ i) => match size P e, seqAt H b with
      | some z', some (z, _, _) => cond (Nat.beq z z') (T.fork (decide (0 ≤ i ∧ i.toNat < n)) (K (.val (.gptr b i.toNat 0))) .ff) .ff
      | _, _ => .ff
    | some (.slice e), some (.gsl b n), some (.int _ i) => match size P e, seqAt H b with
      | some z', some (z, _, _) => cond (Nat.beq z z') (T.fork (decide (0 ≤ i ∧ i.toNat < n)) (K (.val (.gptr b i.toNat 0))) .ff) .ff
      | _, _ => .ff
    | some (.array n e), some (.ptr b off), some i => match nat? i, size P e with
      | some i, some z => cond (Nat.blt i n) ((AV.ptr b (off + i * z)).forceT fun a => K (.val a)) .ff
      | _, _ => .ff
    | some (.slice e), some (.slice b off n _ _), some i => match nat? i, size P e with
      | some i, some z => cond (Nat.blt i n) ((AV.ptr b (off + i * z)).forceT fun a => K (.val a)) .ff
      | _, _ => .ff
    | _, _, _ => .ff
  | .index t x i => fun P _ tmps _ K => match P.underlying t, aop tmps x, aop tmps i with
    | some (.array n e), some (.agg cs), some (.sint _ i) => match size P e with
      | some z => forkIxT i (fun i => match part P e cs (i * z) with | some a => K (.val a) | none => .ff) n
      | _ => .ff
    | some (.array n e), some (.agg cs), some i => match nat? i, size P e with
      | some i, some z => cond (Nat.blt i n) (match part P e cs (i * z) with | some a => K (.val a) | none => .ff) .ff
      | _, _ => .ff
    | some .string, some (.str s), some i => match nat? i with
      | some i => match (s.drop i).head? with | some n => K (.val (.int .u8 (.ofNat n))) | none => .ff
      | none => .ff
    | _, _, _ => .ff
  | .lookup t x k ok => fun P H tmps _ K => match P.underlying t, aop tmps x, aop tmps k with
    | some (.map kt e), some m, some k => match m with
      | .nilMap => match toV k, zero P e with
        | some kv, some z => match asPure P (Instr.checkKey true 10000 kt kv), asPure P (Instr.findKey kt kv []) with
          | some _, some none => K (.val (match ok with | true => .tuple [z, .bool false] | false => z))
          | _, _ => .ff
        | _, _ => .ff
      | .map b => match H.tr.get b with
        | some (.map _ es _) => aLookT P kt e es ok k K
        | _ => .ff
      | _ => .ff
    | _, _, _ => .ff
  | .range t x => fun P H tmps _ K => match P.underlying t, aop tmps x with
    | some (.map _ _), some .nilMap => K (.new (.iter none 0 0) .ptr)
    | some (.map _ _), some (.map b) => match H.tr.get b with
      | some (.map _ _ c) => K (.new (.iter (some b) c c) .ptr)
      | _ => .ff
    | _, _ => .ff
  | .entry x => fun _ H tmps _ K => match aop tmps x with
    | some (.ptr b 0) => match H.tr.get b with
      | some (.iter _ (some m) _ seen st) => match seen.getLast?, H.tr.get m with
        | some s, some (.map _ es c) => cond (Nat.beq c st) (match es.find? fun e => Nat.beq e.born s with
          | some e => K (.val (.tuple [e.key, e.val]))
          | none => .ff) .ff
        | _, _ => .ff
      | _ => .ff
    | _ => .ff
  | .extract x i => fun _ _ tmps _ K => match aop tmps x with
    | some (.tuple l) => match (l.drop i).head? with | some a => K (.val a) | none => .ff
    | _ => .ff
  | .call c => fun P H tmps o K => match c.callee with
    | .builtin .len => match c.argTypes.toList, c.args.toList with
      | t :: _, [x] => match aop tmps x with | some a => aLenT P H t a K | none => .ff
      | _, _ => .ff
    | .builtin .cap => match c.argTypes.toList, c.args.toList with
      | t :: _, [x] => match P.underlying t, aop tmps x with
        | some (.slice _), some .nilSlice => K (.val (.int .i64 (.ofNat 0)))
        | some (.slice _), some (.slice _ _ _ cap true) => K (.val (.int .i64 (.ofNat cap)))
        | _, _ => .ff
      | _, _ => .ff
    | .builtin .max => match aops tmps c.args.toList with
      | some l => match toVs l with | some vs => lscalT P (Builtin.max_ c.argTypes o.type ⟨vs⟩) fun a => K (.val a) | none => maxKT (true) l K
      | none => .ff
    | .builtin .min => match aops tmps c.args.toList with
      | some l => match toVs l with | some vs => lscalT P (Builtin.min_ c.argTypes o.type ⟨vs⟩) fun a => K (.val a) | none => maxKT (false) l K
      | none => .ff
    | _ => .ff
  | _ => fun _ _ _ _ _ => .ff : Program → AH → List AV → Oper → (Res → T) → T) P H tmps o K
def AH.write1T (H : AH) (b off : Nat) (vs : List AV) (K : AH → T) : T :=
  H.ownT b fun H => match H.tr.get b with
    | some (.cells c g cs) => wsetT cs off vs fun cs => H.putT b (.cells c g cs) K
    | _ => .ff
def AH.writeT (H : AH) (b off : Nat) (vs : List AV) (K : AH → T) : T :=
  match vs with
  | [] => K H
  | v :: r => cond (leafy (v :: r)) (H.write1T b off (v :: r) K) .ff
def AH.cullT (n : Nat) : List Nat → AH → (List Nat → AH → T) → T
  | [], H, K => K [] H
  | x :: l, H, K => match H.tr.get x with
    | some (.cells _ _ cs) => cond (Nat.ble cs.length n) (AH.cullT n l H fun l H => K (x :: l) H) (H.putT x .dead fun H => AH.cullT n l H K)
    | some .dead => AH.cullT n l H K
    | _ => .ff
def AH.grownT (H : AH) (b n len : Nat) (vs : List AV) (need : Nat) (K : AV → AH → T) : T := fNatT H.next fun nx =>
  match H.tr.get b with
  | some (.cells c (some w) cs) => match H.mem.get c, firsts (len * n) cs with
    | some l, some old => cond (Nat.beq w n && leafy vs) (AH.cullT (len * n) l H fun l H =>
        H.tr.setT 60 nx (.cells c (some n) (old ++ vs)) fun tr => H.mem.setT 60 c (nx :: l) fun mem =>
          fNatT need fun need => fNatT (nx + 1) fun next => K (.slice nx 0 need need false) { tr, mem, next }) .ff
    | _, _ => .ff
  | _ => .ff
def aAppendT (P : Program) (H : AH) (e : TypeId) (n m : Nat) (s : AV) (vs : List AV) (K : AV → AH → T) : T :=
  match zero P e, P.info? e with
  | some z, some i => cond (Nat.blt 0 n && Nat.beq z.cells.length n && Nat.blt 0 i.bytes && Nat.blt i.bytes 65536 && Nat.blt m 65536) (match s with
      | .nilSlice => cond (Nat.beq m 0) (K .nilSlice H) (H.allocT (.cells (some n) vs) fun H1 => K (.slice H.next 0 m m false) H1)
      | .slice b off len cap ex => cond (Nat.blt len 65536 && Nat.blt cap 65536) (cond (Nat.ble (len + m) cap)
          (H.writeT b (off + len * n) vs fun H => (AV.slice b off (len + m) cap ex).forceT fun a => K a H)
          (match ex with
            | true => match elems H n s len with
              | none => .ff
              | some old => H.allocT (.cells (some n) (old ++ vs)) fun H1 => fNatT (len + m) fun k => K (.slice H.next 0 k k false) H1
            | false => cond (Nat.beq off 0) (H.grownT b n len vs (len + m) K) .ff)) .ff
      | _ => .ff) .ff
  | _, _ => .ff
def rowsOfT (H : AH) (z : Nat) (x : AV) (K : Nat → (Nat → List AV) → T) : T := match x with
  | .data z' m g => cond (Nat.beq z z') (K m g) .ff
  | .gsl b m => match seqAt H b with
    | some (z', n, g) => cond (Nat.beq z z') (T.fork (decide (m ≤ n)) (K m g) .ff) .ff
    | none => .ff
  | .part b lo m => match seqAt H b with
    | some (z', n, g) => cond (Nat.beq z z') (T.fork (decide (lo + m ≤ n)) (K m fun i => g (lo + i)) .ff) .ff
    | none => .ff
  | x => match lenOf x with
    | some m => match elems H z x m with
      | some vs => K m fun i => (vs.drop (i * z)).take z
      | none => .ff
    | none => .ff
def limT (wide : Bool) (c1 c2 : Bool) (x : T) : T := .fork c1 x (cond wide (.fork c2 x .ff) .ff)
def gAppendT (P : Program) (H : AH) (e : TypeId) (z m : Nat) (s : AV) (g : Nat → List AV) (K : AV → AH → T) : T :=
  match zero P e, P.info? e with
  | some zv, some i => cond (Nat.blt 0 z && Nat.beq zv.cells.length z && Nat.blt 0 i.bytes && Nat.blt i.bytes 65536)
      (limT (Nat.blt i.bytes 65) (@decide (m < 65536 ∧ RowsOK z m g) (Classical.propDecidable _)) (@decide (m < 1073741824 ∧ RowsOK z m g) (Classical.propDecidable _)) (match s with
        | .nilSlice => H.allocT (.seq z m g) fun H1 => K (.gsl H.next m) H1
        | .slice _ _ 0 0 true => H.allocT (.seq z m g) fun H1 => K (.gsl H.next m) H1
        | .gsl b k => match seqAt H b with
          | some (z', n, f) => cond (Nat.beq z z') (limT (Nat.blt i.bytes 65) (decide (k ≤ n ∧ k < 65536)) (decide (k ≤ n ∧ k < 1073741824)) (H.putT b .dead fun H => H.allocT (.seq z (k + m) (glue k f g)) fun H1 => K (.gsl H.next (k + m)) H1)) .ff
          | none => .ff
        | .slice b 0 k _ false => match H.tr.get b, H.mem.get b with
          | some (.cells c (some z') cs), some [x] => cond (Nat.beq c b && Nat.beq x b && Nat.beq z z' && Nat.ble (k * z) cs.length && Nat.blt k 65536)
              (H.putT b .dead fun H => H.allocT (.seq z (k + m) (glue k (fun j => (cs.drop (j * z)).take z) g)) fun H1 => K (.gsl H.next (k + m)) H1) .ff
          | _, _ => .ff
        | _ => .ff)) .ff
  | _, _ => .ff
def gOverT (P : Program) (H : AH) (e : TypeId) (z m b k : Nat) (g : Nat → List AV) (K : AV → AH → T) : T :=
  match P.info? e, seqAt H b with
  | some i, some (z', n, f) => cond (Nat.beq z z' && Nat.blt i.bytes 65536) (T.fork (@decide (k + m ≤ n ∧ RowsOK z m g) (Classical.propDecidable _)) (H.putT b .dead fun H => H.allocT (.seq z n (over k m f g)) fun H1 => K (.part H.next 0 (k + m)) H1) .ff) .ff
  | _, _ => .ff
def gPutT (P : Program) (H : AH) (e : TypeId) (z m : Nat) (s x : AV) (g : Nat → List AV) (K : AV → AH → T) : T :=
  match s, x with
  | .part b 0 k, .part b' _ _ => cond (Nat.beq b b') (gOverT P H e z m b k g K) (gAppendT P H e z m (.gsl b k) g K)
  | .part b 0 k, _ => gAppendT P H e z m (.gsl b k) g K
  | s, _ => gAppendT P H e z m s g K
def aMapSetT (P : Program) (H : AH) (t : TypeId) (m k x : AV) (K : AH → T) : T :=
  match P.underlying t, m with
  | some (.map kt _), .map b => H.ownT b fun H => match H.tr.get b with
    | some (.map c es ck) => match findK P kt k es with
      | some (some i) => match (es.drop i).head? with
        | some e => match toV e.key, toV k with
          | some u, some v => cond (Instr.sameBits 10000 u v) (H.putT b (.map c (es.take i ++ { key := k, val := x, born := e.born } :: es.drop (i + 1)) ck) K) .ff
          | _, _ => .ff
        | none => .ff
      | some none => fNatT (ck + 1) fun ck' => H.putT b (.map c (es ++ [{ key := k, val := x, born := ck }]) ck') K
      | none => .ff
    | _ => .ff
  | _, _ => .ff
def aDeleteT (P : Program) (H : AH) (t : TypeId) (m k : AV) (K : AH → T) : T :=
  match P.underlying t, m with
  | some (.map kt _), .nilMap => match toV k with
    | some v => match asPure P (Instr.checkKey true 10000 kt v) with | some _ => K H | none => .ff
    | none => .ff
  | some (.map kt _), .map b => H.ownT b fun H => match H.tr.get b with
    | some (.map c es ck) => match findK P kt k es with
      | some (some i) => H.putT b (.map c (es.take i ++ es.drop (i + 1)) ck) K
      | some none => K H
      | none => .ff
    | _ => .ff
  | _, _ => .ff
def aNextT (H : AH) (x : AV) (K : AV → AH → T) : T :=
  match x with
  | .ptr b 0 => H.ownT b fun H => match H.tr.get b with
    | some (.iter _ none _ _ _) => K (.tuple [.bool false]) H
    | some (.iter c (some m) since seen last) => match H.tr.get m with
      | some (.map _ es ck) =>
        cond (!seen.isEmpty && !es.isEmpty && es.all fun e => Nat.ble last e.born) .ff
        (let left := es.filter fun e => !has seen e.born
         let old := left.filter fun e => Nat.blt e.born since
         let new := left.filter fun e => Nat.ble since e.born
         T.both (match old.isEmpty with | true => K (.tuple [.bool false]) H | false => .tt) (
         allT (fun e => H.putT b (.iter c (some m) since (seen ++ [e.born]) ck) fun H => K (.tuple [.bool true, e.key, e.val]) H) (old ++ new)))
      | _ => .ff
    | _ => .ff
  | _ => .ff
def doneT (H : AH) (r : Res) (K : AV → AH → T) : T :=
  match r with
  | .val a => K a H
  | .new n s => H.allocT n fun H' => K (s.av H.next) H'
def evET (P : Program) (H : AH) (tmps : List AV) (o : Oper) (K : AV → AH → T) : T :=
  match o.op with
  | .store t x y => match aop tmps x, aop tmps y, size P t with
    | some (.ptr b off), some a, some n => cond (a.noTop && (Nat.beq a.cells.length n && Nat.blt 0 n)) (H.writeT b off a.cells fun H => K (.tuple []) H) .ff
    | some (.gptr b i o), some a, some n => match seqAt H b with
      | some (z, m, f) => cond (a.noTop && (Nat.beq a.cells.length n && (Nat.blt 0 n && (Nat.ble (o + n) z && leafy a.cells)))) (T.fork (decide (i < m)) (H.putT b (.seq b z m (setRow i o a.cells f)) fun H => K (.tuple []) H) .ff) .ff
      | none => .ff
    | _, _, _ => .ff
  | .mapUpdate t m k x => match aop tmps m, aop tmps k, aop tmps x with
    | some m, some k, some x => aMapSetT P H t m k x fun H => K (.tuple []) H
    | _, _, _ => .ff
  | .insert t m k x => match aop tmps m, aop tmps k, aop tmps x with
    | some m, some k, some x => aMapSetT P H t m k x fun H => K (.tuple []) H
    | _, _, _ => .ff
  | .makeSlice t l c => match P.underlying t, aop tmps l, aop tmps c with
    | some (.slice e), some (.sint _ n), some (.sint _ m) => match size P e, zero P e, P.info? e with
      | some z, some zv, some i => cond (Nat.beq zv.cells.length z && (Nat.blt 0 z && Nat.blt i.bytes 65)) (T.fork (decide (n = m ∧ 0 ≤ n ∧ n < 1073741824)) (H.allocT (.seq z n.toNat fun _ => zv.cells) fun H1 => K (.gsl H.next n.toNat) H1) .ff) .ff
      | _, _, _ => .ff
    | _, _, _ => evRT P H tmps o fun q => doneT H q K
  | .next x false => match aop tmps x with
    | some a => aNextT H a K
    | none => .ff
  | .convert s d x => match P.underlying s, P.underlying d, aop tmps x with
    | some (.slice _), some (.slice e), some (.slice b off len cap ex) => match P.underlying e with
      | some (.int .u8) => cond (Nat.beq s d) (match cellsAt H b with | some _ => K (.slice b off len cap ex) H | none => .ff) .ff
      | _ => .ff
    | _, _, _ => .ff
  | .call c => match c.callee with
    | .builtin .append => match c.argTypes.toList, c.args.toList with
      | t :: t' :: _, [s, x] => match P.underlying t, P.underlying t', aop tmps s, aop tmps x with
        | some (.slice e), some d, some s, some x => match size P e with
          | some n => match d with
            | .int _ => match nat? x, zero P e with
              | some m, some z => cond (Nat.blt m 65536) (aAppendT P H e n m s (repeats z.cells m) K) .ff
              | _, _ => .ff
            | _ => match litS s && litS x with
              | true => match lenOf x with
                | some m => match elems H n x m with
                  | some vs => aAppendT P H e n m s vs K
                  | none => .ff
                | none => .ff
              | false => rowsOfT H n x fun m g => gPutT P H e n m s x g K
          | none => .ff
        | _, _, _, _ => .ff
      | _, _ => .ff
    | .builtin .copy => match c.argTypes.toList, c.args.toList with
      | t :: _, [d, s] => match P.underlying t, aop tmps d, aop tmps s with
        | some (.slice e), some d, some s => match size P e, lenOf d, lenOf s with
          | some n, some dl, some sl => match elems H n s (Nat.min sl dl) with
            | some vs => match d with
              | .nilSlice => K (.int .i64 (.ofNat 0)) H
              | .slice b off _ _ _ => H.writeT b off vs fun H => fNatT (Nat.min sl dl) fun k => K (.int .i64 (.ofNat k)) H
              | _ => .ff
            | none => .ff
          | _, _, _ => .ff
        | _, _, _ => .ff
      | _, _ => .ff
    | .builtin .delete => match c.argTypes.toList, c.args.toList with
      | t :: _, [m, k] => match aop tmps m, aop tmps k with
        | some m, some k => aDeleteT P H t m k fun H => K (.tuple []) H
        | _, _ => .ff
      | _, _ => .ff
    | .builtin .clear => match c.argTypes.toList, c.args.toList with
      | t :: _, [x] => match P.underlying t, aop tmps x with
        | some (.slice e), some x => match x with
          | .nilSlice => K (.tuple []) H
          | .empty => K (.tuple []) H
          | .slice b off len _ _ => match zero P e, size P e with
            | some z, some n => cond (Nat.beq z.cells.length n) (H.writeT b off (repeats z.cells len) fun H => K (.tuple []) H) .ff
            | _, _ => .ff
          | .part b lo m => match zero P e, size P e, seqAt H b with
            | some zv, some n, some (z, k, f) => cond (Nat.beq zv.cells.length n && (Nat.beq n z && leafy zv.cells)) (T.fork (decide (lo + m ≤ k)) (H.putT b (.seq b z k (over lo m f fun _ => zv.cells)) fun H => K (.tuple []) H) .ff) .ff
            | _, _, _ => .ff
          | _ => .ff
        | some (.map _ _), some .nilMap => K (.tuple []) H
        | some (.map _ _), some (.map b) => H.ownT b fun H => match H.tr.get b with
          | some (.map c _ ck) => H.putT b (.map c [] ck) fun H => K (.tuple []) H
          | _ => .ff
        | _, _ => .ff
      | _, _ => .ff
    | _ => .ff
  | _ => .ff
def evWT (P : Program) (call : CallT) (H : AH) (tmps : List AV) (o : Oper) (K : AV → AH → T) : T :=
  cond (Nat.beq (kind P o) 1) (evET P H tmps o K) (match o.op with
    | .call c => match callee tmps c with
      | some (f, args) => call f args H K
      | none => .ff
    | _ => .ff)
def putT (tmps : List AV) (d : Option Nat) (a : AV) (K : List AV → T) : T :=
  match d with
  | none => K tmps
  | some d => a.fdT fun a => asetT tmps d a K
def sidesT (a : AV) (K : AV → T) : T := match a with
  | .unkB => T.both (K (.bool true)) (K (.bool false))
  | .sbool b => T.fork (b) (K (.bool true)) (K (.bool false))
  | a => K a
mutual
def AV.beqKT (a b : AV) (K : T) : T := match a, b with
  | .sint j a, .sint k b => cond (decide (j = k)) (T.fork (decide (a = b)) K .ff) .ff
  | .agg a, .agg b => AV.beqsKT a b K
  | .tuple a, .tuple b => AV.beqsKT a b K
  | .data z n f, .data z' n' f' => T.fork (@decide (z = z' ∧ n = n' ∧ f = f') (Classical.propDecidable _)) K .ff
  | .dptr a, .dptr b => AV.beqsKT a b K
  | .str s, .str u => T.fork (decide (s = u)) K .ff
  | .gsl a x, .gsl b u => cond (Nat.beq a b) (T.fork (decide (x = u)) K .ff) .ff
  | .gptr a x y, .gptr b u v => cond (Nat.beq a b && Nat.beq y v) (T.fork (decide (x = u)) K .ff) .ff
  | .part a l x, .part b k u => cond (Nat.beq a b) (T.fork (decide (l = k ∧ x = u)) K .ff) .ff
  | .sbool a, .sbool b => T.fork (decide (a = b)) K .ff
  | a, b => cond (AV.beq a b) K .ff
def AV.beqsKT (a b : List AV) (K : T) : T := match a, b with
  | [], [] => K
  | a :: r, b :: s => AV.beqKT a b (AV.beqsKT r s K)
  | _, _ => .ff
end
def NewB.beqKT : NewB → NewB → T → T
  | .cells none a, .cells none b, K => AV.beqsKT a b K
  | .cells (some g) a, .cells (some h) b, K => cond (Nat.beq g h) (AV.beqsKT a b K) .ff
  | a, b, K => cond (a.beq b) K .ff
def Res.beqKT : Res → Res → T → T
  | .val a, .val b, K => AV.beqKT a b K
  | .new n s, .new m t, K => cond (s.beq t) (n.beqKT m K) .ff
  | _, _, _ => .ff
def endLoopT (H : AH) (b : Nat) (K : Option Code → AH → T) : T :=
  H.ownT b fun H => match H.tr.get b with
    | some (.loop c st pend t p a bd) => cond (Nat.beq st 1) .ff (H.putT b (.loop c 3 pend t p a bd) fun H => K pend H)
    | _ => .ff
def setParamsT : List Nat → List AV → List AV → (List AV → T) → T
  | [], [], t, K => K t
  | p :: ps, a :: as, t, K => asetT t p a fun t => setParamsT ps as t K
  | _, _, _, _ => .ff
theorem evRT_eq (P : Program) (H : AH) (tmps : List AV) (o : Oper) (K : Res → T) : evRT P H tmps o K = evR0T P H tmps o K := by
  obtain ⟨dst, op, ty, pos, after, guard⟩ := o
  cases op
  case makeFunc f a b => cases f <;> rfl
  case makeMap t r => cases r <;> rfl
  all_goals rfl
end
end Go.Proofs.Ytkdmlpmjfnjnmaa.Sv
