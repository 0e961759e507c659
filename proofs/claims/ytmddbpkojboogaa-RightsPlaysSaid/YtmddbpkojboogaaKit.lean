/- Words of the seat's own: bytes as values, a slice that reads as a list, small laws on 32 bits. -/
import Derived.Test.YtmddbpkojboogaaRows
import Derived.WalkKit
import Derived.Lib.Hide
import Derived.WalkSpells
import Derived.WalkLawsBesides
import Derived.Laws.OwnMore
import Derived.Deep.AppendLies
import Derived.Deep.Draws
import Derived.Laws.BitsAllLaws
import Derived.Laws.Tables
import Derived.Deep.WholeRow
import Derived.Lib.SlBytesConst
namespace Go.Proofs.Ytmddbpkojboogaa
open Go.RowKit

theorem block_of_add (a : Addr) (n : Nat) : (a.add n).block = a.block := by unfold Addr.add; split <;> rfl
theorem add_of_add (a : Addr) (i j : Nat) : (a.add i).add j = a.add (i + j) := by
  unfold Addr.add
  by_cases hi : i = 0 <;> by_cases hj : j = 0 <;> simp [hi, hj, Nat.add_assoc]

/-- a slice's elements, nil let in: below the block B it reads as the list. -/
def Reads (w : World) (B size : Nat) (A : Option Addr) (n : Nat) (xs : List Value) : Prop :=
  xs.length = n * size ∧ (0 < n → ∃ ad, A = some ad ∧ ad.block < B ∧ ∀ j u, xs[j]? = some u → w.cell? (ad.add j) = some u)

section
variable {w w' : World} {B B' size n : Nat} {A : Option Addr} {xs : List Value}
theorem Reads.none_ : Reads w B size A 0 [] := ⟨by simp, fun h => absurd h (by omega)⟩
theorem Reads.at_ {k : Nat} (h : Reads w B 1 A n xs) (hk : k < n) : ∃ ad u, A = some ad ∧ ad.block < B ∧ xs[k]? = some u ∧ w.cell? (ad.add k) = some u := by
  obtain ⟨ad, e, hb, hc⟩ := h.2 (by omega)
  have hl : k < xs.length := by have := h.1; omega
  exact ⟨ad, xs[k], e, hb, List.getElem?_eq_getElem hl, hc k _ (List.getElem?_eq_getElem hl)⟩
theorem Reads.keep (h : Reads w B size A n xs) (hk : ∀ p : Addr, p.block < B → w'.cell? p = w.cell? p) : Reads w' B size A n xs :=
  ⟨h.1, fun hn => by
    obtain ⟨ad, e, hb, hc⟩ := h.2 hn
    exact ⟨ad, e, hb, fun j u hu => (hk _ (by rw [block_of_add]; exact hb)).trans (hc j u hu)⟩⟩
theorem Reads.more (h : Reads w B size A n xs) (hB : B ≤ B') : Reads w B' size A n xs :=
  ⟨h.1, fun hn => by
    obtain ⟨ad, e, hb, hc⟩ := h.2 hn
    exact ⟨ad, e, by omega, hc⟩⟩
theorem Reads.below (h : Reads w B size A n xs) (hb : Below B w w') : Reads w' B size A n xs := h.keep fun _ hp => hb.cell hp
theorem Reads.drew (h : Reads w B size A n xs) : Reads w.drew B size A n xs := h
theorem Reads.drewN (h : Reads w B size A n xs) (k : Nat) : Reads (w.drewN k) B size A n xs := h
theorem Reads.alloc (h : Reads w B size A n xs) (hB : B ≤ w.heap.size) (o : Obj) : Reads (w.alloc o) B size A n xs := h.keep fun p hp => World.cell?_alloc_lt w o p (by omega)
theorem Reads.setCell (h : Reads w B size A n xs) {p : Addr} (hB : B ≤ p.block) (u : Value) : Reads (w.setCell p u) B size A n xs :=
  h.keep fun q hq => World.cell?_setCell_other w p q u (fun e => by subst e; omega)
end

/-- bytes as values. -/
def bv (bs : List UInt8) : List Value := bs.map fun c => .int .u8 (c.toNat : Int)
theorem bv_len (bs : List UInt8) : (bv bs).length = bs.length := by simp [bv]
theorem bv_at (bs : List UInt8) (k : Nat) (h : k < bs.length) : (bv bs)[k]? = some (.int .u8 (bs[k].toNat : Int)) := by simp [bv, h]
/-- a slice of bytes that reads as these. -/
def Bytes (w : World) (B : Nat) (A : Option Addr) (bs : List UInt8) : Prop := Reads w B 1 A bs.length (bv bs)
theorem Bytes.at_ {w : World} {B : Nat} {A : Option Addr} {bs : List UInt8} (h : Bytes w B A bs) {k : Nat} (hk : k < bs.length) :
    ∃ b off, A = some ⟨b, off, none⟩ ∧ b < B ∧ w.cell? ⟨b, off + k, none⟩ = some (.int .u8 (bs[k].toNat : Int)) := by
  obtain ⟨⟨b, off, spot⟩, hA, hb, hc⟩ := h.2 (by omega)
  have c0 := hc 0 _ (bv_at bs 0 (by omega))
  have h0 : spot = none := by simpa [Addr.add] using World.cell?_spot c0
  subst h0
  refine ⟨b, off, hA, hb, ?_⟩
  rw [← hc k _ (bv_at bs k hk)]
  unfold Addr.add
  split
  · rename_i h; simp [h]
  · simp

/-- what is told of a slice of integers that came in. -/
def IsRow (k : IntKind) (w : World) (a : Option Addr) (len cap : Nat) (zs : List Int) : Prop :=
  (a = none ∧ len = 0 ∧ cap = 0 ∧ zs = []) ∨
  ∃ x, a = some x ∧ len ≤ cap ∧ cap ≤ maxLen ∧ zs.length = cap ∧ (∀ i, i < zs.length → w.cell? (x.add i) = some (.int k (zs.getD i 0))) ∧ ∀ n ∈ zs, (Lit.int k n).wf = true
theorem wf_u8 {z : Int} (h : (Lit.int .u8 z).wf = true) : 0 ≤ z ∧ z ≤ 255 := by
  simp [Lit.wf, IntKind.min, IntKind.max, IntKind.signed, IntKind.bits] at h; omega
theorem wf_u32 {z : Int} (h : (Lit.int .u32 z).wf = true) : 0 ≤ z ∧ z ≤ 4294967295 := by
  simp [Lit.wf, IntKind.min, IntKind.max, IntKind.signed, IntKind.bits] at h; omega
theorem wf_i64 {z : Int} (h : (Lit.int .i64 z).wf = true) : -9223372036854775808 ≤ z ∧ z ≤ 9223372036854775807 := by
  simp [Lit.wf, IntKind.min, IntKind.max, IntKind.signed, IntKind.bits] at h; omega
theorem wf_u64 {z : Int} (h : (Lit.int .u64 z).wf = true) : 0 ≤ z ∧ z ≤ 18446744073709551615 := by
  simp [Lit.wf, IntKind.min, IntKind.max, IntKind.signed, IntKind.bits] at h; omega
theorem wf_u16 {z : Int} (h : (Lit.int .u16 z).wf = true) : 0 ≤ z ∧ z ≤ 65535 := by
  simp [Lit.wf, IntKind.min, IntKind.max, IntKind.signed, IntKind.bits] at h; omega
theorem row_bytes {w : World} {a : Option Addr} {len cap : Nat} {zs : List Int} (h : IsRow .u8 w a len cap zs) :
    ∃ bs : List UInt8, len = bs.length ∧ Bytes w w.heap.size a bs ∧ len ≤ cap ∧ cap ≤ maxLen := by
  rcases h with ⟨rfl, rfl, rfl, rfl⟩ | ⟨x, rfl, hl, hm, hz, hc, hw⟩
  · exact ⟨[], rfl, Reads.none_, Nat.le_refl _, by decide⟩
  · have hlen : ((zs.take len).map fun z => UInt8.ofNat z.toNat).length = len := by simp; omega
    refine ⟨(zs.take len).map fun z => UInt8.ofNat z.toNat, hlen.symm, ?_, hl, hm⟩
    unfold Bytes
    rw [hlen]
    refine ⟨by rw [bv_len, hlen, Nat.mul_one], fun h0 => ⟨x, rfl, ?_, fun j u hu => ?_⟩⟩
    · have := block_lt_of_cell (hc 0 (by omega))
      rwa [block_of_add] at this
    · have hj : j < len := by
        rcases Nat.lt_or_ge j len with h | h
        · exact h
        · rw [List.getElem?_eq_none (by rw [bv_len, hlen]; exact h)] at hu; cases hu
      have hjz : j < zs.length := by omega
      rw [hc j hjz]
      have hb := wf_u8 (hw zs[j] (List.getElem_mem hjz))
      simp [bv, hj, List.getElem?_eq_getElem hjz] at hu
      rw [← hu]
      simp [hjz]
      omega
theorem bytes_const (w : World) (bs : List UInt8) (t : TypeId) (fr : Nat × Nat) : Bytes (w.alloc (.cells (bv bs).toArray t fr)) (w.alloc (.cells (bv bs).toArray t fr)).heap.size (some ⟨w.heap.size, 0, none⟩) bs := by
  refine ⟨by simp [bv], fun _ => ⟨_, rfl, by simp, fun j u hu => ?_⟩⟩
  have hadd : (⟨w.heap.size, 0, none⟩ : Addr).add j = ⟨w.heap.size, j, none⟩ := by unfold Addr.add; split <;> simp_all
  rw [hadd, World.cell?_alloc_mark]
  simpa using hu

/-! ### a block that is known whole -/
def Blk (w : World) (g : Nat) (t : TypeId) (cs : Array Value) : Prop := w.heap[g]? = some (.cells cs t (0, 0))
section
variable {w w' : World} {g : Nat} {t : TypeId} {cs : Array Value}
theorem Blk.lt (h : Blk w g t cs) : g < w.heap.size := by
  rcases Nat.lt_or_ge g w.heap.size with hlt | hge
  · exact hlt
  · unfold Blk at h; rw [Array.getElem?_eq_none hge] at h; cases h
theorem Blk.cell (h : Blk w g t cs) (i : Nat) : w.cell? ⟨g, i, none⟩ = cs[i]? := cell_of_row w g i cs t (0, 0) h
theorem Blk.frozen (h : Blk w g t cs) (i : Nat) : w.frozen? ⟨g, i, none⟩ = false := by
  unfold Blk at h
  simp [World.frozen?, h]
theorem Blk.new (w : World) (t : TypeId) (cs : Array Value) : Blk (w.alloc (.cells cs t)) w.heap.size t cs := heap_alloc_new w _
theorem Blk.drew (h : Blk w g t cs) : Blk w.drew g t cs := h
theorem Blk.drewN (h : Blk w g t cs) (n : Nat) : Blk (w.drewN n) g t cs := h
theorem Blk.alloc (h : Blk w g t cs) (o : Obj) : Blk (w.alloc o) g t cs := (Below.heap_alloc w o g h.lt).trans h
theorem Blk.set_ (h : Blk w g t cs) (i : Nat) (u : Value) : Blk (w.setCell ⟨g, i, none⟩ u) g t (cs.setIfInBounds i u) := by
  unfold Blk at h ⊢
  simp [World.setCell, Array.getElem?_modify, h]
theorem Blk.far (h : Blk w g t cs) {p : Addr} (hp : g ≠ p.block) (u : Value) : Blk (w.setCell p u) g t cs := (Below.heap_setCell w p u g hp).trans h
theorem Blk.below {B : Nat} (h : Blk w g t cs) (hb : Below B w w') (hg : g < B) : Blk w' g t cs := (hb.block g hg).trans h
theorem Blk.row (h : Blk w g t cs) (cs' : Array Value) : Blk (w.setRow g cs') g t cs' := by
  unfold Blk at h ⊢
  simp [World.setRow, Array.getElem?_modify, h]
theorem Blk.rowFar (h : Blk w g t cs) {k : Nat} (hk : g ≠ k) (cs' : Array Value) : Blk (w.setRow k cs') g t cs := by
  unfold Blk at h ⊢
  simp [World.setRow, Array.getElem?_modify, h, Ne.symm hk]
end
theorem below_setRow {B : Nat} {a w : World} (h : Below B a w) {g : Nat} (hp : B ≤ g) (cs : Array Value) : Below B a (w.setRow g cs) :=
  ⟨h.os, h.tape, h.output, by simpa using h.size, fun k hk => by
    rw [show (w.setRow g cs).heap[k]? = w.heap[k]? by simp [World.setRow, Array.getElem?_modify, show g ≠ k by omega]]
    exact h.block k hk⟩

theorem heap_new (w : World) (k : Nat) (hk : k = w.heap.size) (o : Obj) : (w.alloc o).heap[k]? = some o := by subst hk; exact heap_alloc_new w o
theorem setRow_new (w : World) (k : Nat) (hk : k = w.heap.size) (c c' : Array Value) (t : TypeId) : (w.alloc (.cells c t)).setRow k c' = w.alloc (.cells c' t) := by
  subst hk; exact World.setRow_alloc_new w c c' t

/-! ### arrays by value -/
theorem run_index_arr {P : Program} (W : World) (t e : TypeId) (n : Nat) (cs : Array Value) (k : IntKind) (i : Nat) (v : Value) (h : P.underlying t = some (.array n e))
    (he : (isAgg e).run P W = .ok false W) (hs : (P.info? e).map (·.size) = some 1) (hi : i < n) (hv : cs[i]? = some v) : (Instr.index t (.agg cs) (.int k (i : Int))).run P W = .ok v W := by
  have hn : (0 : Int) ≤ (i : Int) ∧ (i : Int) < (n : Int) := by omega
  cases hq : P.info? e with
  | none => simp [hq] at hs
  | some j =>
    have hj : j.size = 1 := by simpa [hq] using hs
    simp [Instr.index, run_underlying h, asIntOf, hn, sizeOf, typeInfo, hq, hj, part, he, hv]
    intro h'; omega

/-! ### 32 bits, as a number that the walk does not lay open -/
def U (x : BitVec 32) : Int := (x.toNat : Int)
theorem U_bd (x : BitVec 32) : 0 ≤ U x ∧ U x ≤ 4294967295 := by have := x.isLt; unfold U; omega
theorem u32_of (x : BitVec 32) : BitVec.ofInt 32 (U x) = x := by
  unfold U; rw [BitVec.ofInt_natCast]; simp
theorem U_of (z : Int) (h : 0 ≤ z) (h2 : z ≤ 4294967295) : U (BitVec.ofInt 32 z) = z := by
  unfold U; rw [BitVec.toNat_ofInt]; omega
theorem U_inj {a b : BitVec 32} : U a = U b ↔ a = b := by
  unfold U
  constructor
  · intro h; exact BitVec.eq_of_toNat_eq (by omega)
  · intro h; rw [h]
theorem U_wf (x : BitVec 32) : (Lit.int .u32 (U x)).wf = true := by
  have := U_bd x
  simp [Lit.wf, IntKind.min, IntKind.max, IntKind.signed, IntKind.bits]; omega
theorem U_lit (n : Nat) (h : n < 4294967296) : U (BitVec.ofNat 32 n) = (n : Int) := by
  unfold U; rw [BitVec.toNat_ofNat, Nat.mod_eq_of_lt (by omega)]
@[go_sem] theorem u32_xor_bv (a b : BitVec 32) : bits .xor .u32 (U a) (U b) = U (a ^^^ b) := by
  have h := (a ^^^ b).isLt
  show IntKind.u32.wrap ((BitVec.ofInt 32 (U a) ^^^ BitVec.ofInt 32 (U b)).toNat : Int) = _
  rw [u32_of, u32_of, IntKind.wrap_u32']
  unfold U; omega
theorem u32_and_bv (a b : BitVec 32) : bits .and .u32 (U a) (U b) = U (a &&& b) := by
  have h := (a &&& b).isLt
  show IntKind.u32.wrap ((BitVec.ofInt 32 (U a) &&& BitVec.ofInt 32 (U b)).toNat : Int) = _
  rw [u32_of, u32_of, IntKind.wrap_u32']
  unfold U; omega
@[go_sem] theorem u32_half (x : BitVec 32) : U x / (2 : Int) = U (x >>> 1) := by
  unfold U; rw [BitVec.toNat_ushiftRight, Nat.shiftRight_eq_div_pow]; simp
@[go_sem] theorem u32_not (x : BitVec 32) : bits .xor .u32 IntKind.u32.max (U x) = U (~~~x) := by
  have h := u32_xor_bv 4294967295#32 x
  rw [show U (4294967295#32 : BitVec 32) = IntKind.u32.max from rfl] at h
  rw [h, show (4294967295#32 : BitVec 32) = BitVec.allOnes 32 from rfl, BitVec.allOnes_xor]
theorem low_one (x : BitVec 32) : x &&& 1#32 = if x.getLsbD 0 then 1#32 else 0#32 := by
  apply BitVec.eq_of_getLsbD_eq
  intro i hi
  rw [BitVec.getLsbD_and]
  rcases i with _ | i
  · cases h : x.getLsbD 0 <;> simp
  · have : (1#32).getLsbD (i + 1) = false := by
      show Nat.testBit (1 % 2 ^ 32) (i + 1) = false
      rw [show (1 % 2 ^ 32 : Nat) = 1 from rfl, Nat.testBit_succ]; simp
    rw [this]
    cases h : x.getLsbD 0
    · simp
    · simp only [if_true, this, Bool.and_false]
/-- a bit, as the walk does not lay it open. -/
def bitB (x : BitVec 32) (k : Nat) : Bool := x.getLsbD k
@[go_sem] theorem u32_low (x : BitVec 32) : (bits .and .u32 (U x) 1 == 1) = bitB x 0 := by
  have h := u32_and_bv x 1#32
  rw [show U (1#32 : BitVec 32) = 1 from rfl] at h
  rw [h, low_one]
  unfold bitB
  cases x.getLsbD 0 <;> rfl
@[go_sem] theorem u32_byte (s : BitVec 32) (c : UInt8) : bits .xor .u32 (U s) (c.toNat : Int) = U (s ^^^ BitVec.ofNat 32 c.toNat) := by
  have : c.toNat < 256 := UInt8.toNat_lt c
  rw [← u32_xor_bv, U_lit _ (by omega)]
theorem u32_shr (x : BitVec 32) (k : Nat) : U x / (2 : Int) ^ k = U (x >>> k) := by
  unfold U
  rw [BitVec.toNat_ushiftRight, Nat.shiftRight_eq_div_pow, Int.natCast_ediv, Int.natCast_pow]; rfl
@[go_sem] theorem u32_bit (x : BitVec 32) (k : Nat) : (bits .and .u32 (U x / (2 : Int) ^ k) 1 == 1) = bitB x k := by
  rw [u32_shr, u32_low]; unfold bitB; rw [BitVec.getLsbD_ushiftRight]; simp
theorem shl_one (k : Nat) : (2 : Int) ^ k % 4294967296 = U (1#32 <<< k) := by
  unfold U
  rw [BitVec.toNat_shiftLeft, Nat.shiftLeft_eq, show (1#32 : BitVec 32).toNat = 1 from rfl, Nat.one_mul, Int.natCast_emod, Int.natCast_pow]; rfl
theorem val_U {a b : BitVec 32} (h : a = b) : Value.int .u32 (U a) = .int .u32 (U b) := by rw [h]
theorem ret_U {a b : BitVec 32} (h : a = b) : Ending.returned (.int .u32 (U a)) = .returned (.int .u32 (U b)) := by rw [h]
end Go.Proofs.Ytmddbpkojboogaa
