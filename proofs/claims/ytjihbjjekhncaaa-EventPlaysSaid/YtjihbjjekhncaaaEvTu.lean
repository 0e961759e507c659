import Derived.Test.YtjihbjjekhncaaaPlanF
import Derived.Test.YtjihbjjekhncaaaKitC
import Derived.BigRegion
namespace Go.Proofs.Ytjihbjjekhncaaa
open Go.RowKit
/-! events and bytes of the call's own. -/
theorem xor_ne (c d : UInt8) (h : ¬ d = 0) : ¬ c ^^^ d = c := by
  intro hh
  apply h
  have := congrArg (fun x => c ^^^ x) hh
  simp only [← UInt8.xor_assoc, UInt8.xor_self, UInt8.zero_xor] at this
  exact this
theorem val_xor (c d : UInt8) : Value.int .u8 (bits .xor .u8 (c.toNat : Int) (d.toNat : Int)) = .int .u8 ((c ^^^ d).toNat : Int) := by
  rw [u8_xor_nat _ _ (UInt8.toNat_lt c) (UInt8.toNat_lt d), UInt8.toNat_xor]
theorem own_row {w : World} {base : Nat} {e : TypeId} {A : Option Addr} {n c : Nat} {bs : List UInt8} (h : OwnB w base e (.slice A n c) bs) (h0 : 0 < bs.length) : ∃ g, A = some ⟨g, 0, none⟩ ∧ base ≤ g ∧ Row w g e bs := by
  obtain ⟨g, hA, hlo, _, hr⟩ := h.rowO h0
  exact ⟨g, hA, hlo, hr⟩
/-- events that lie in blocks, and bytes. -/
structure Eb (w W : World) (l : List (Nat × Ev)) (A : Option Addr) (bs : List UInt8) : Prop where
  es : Es w W l
  b : Bytes W W.heap.size A bs
section
variable {w W W' : World} {l : List (Nat × Ev)} {A : Option Addr} {bs : List UInt8}
theorem Eb.next (h : Eb w W l A bs) (hb : Below W.heap.size W W') : Eb w W' l A bs := ⟨h.es.next hb, h.b.next' hb⟩
theorem Eb.alloc (h : Eb w W l A bs) (o : Obj) : Eb w (W.alloc o) l A bs := ⟨h.es.alloc o, h.b.new' o⟩
theorem Eb.drew (h : Eb w W l A bs) : Eb w W.drew l A bs := ⟨h.es.drew, h.b⟩
theorem Eb.new (h : Eb w W l A bs) {e : Ev} (he : e.d.length = 6) (g : Nat) (hg : W.heap.size = g) : Eb w (W.alloc (.cells (evA e) 26)) (l ++ [(g, e)]) A bs := ⟨h.es.new he g hg, h.b.new' _⟩
end
/-- of bytes as long as an event's. -/
theorem takeE_91 {bs : List UInt8} (h : bs.length = 91) : takeE bs 0 = if mayE (ofB bs) = true then (ofB bs, 91, 0) else (E0, 0, 5) := by
  have ht : (bs.drop 0).take 91 = bs := by rw [List.drop_zero, List.take_of_length_le (by omega)]
  cases hm : mayE (ofB bs)
  · have := takeE_no (bs := bs) (a := 0) (by omega) (by rw [ht]; exact hm)
    simpa using this
  · have := takeE_ok (bs := bs) (a := 0) (by omega) (by rw [ht]; exact hm)
    rw [ht] at this
    simpa using this
end Go.Proofs.Ytjihbjjekhncaaa
