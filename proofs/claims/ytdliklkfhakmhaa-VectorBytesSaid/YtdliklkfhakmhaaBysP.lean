import Derived.Test.YtdliklkfhakmhaaBysE
import Derived.Test.YtdliklkfhakmhaaVecU
namespace Go.Proofs.Ytdliklkfhakmhaa
open Go.RowKit
/-! bytes in regions that draw their order; what goes there and back. -/
/-- a slice that reads as these bytes. -/
def SlB (bs : List UInt8) : Value → World → Prop := fun v W => ∃ A n c, v = .slice A n c ∧ n = bs.length ∧ Bytes W W.heap.size A bs
theorem stab_slb {S : World → Prop} (bs : List UInt8) : ∀ v w w', S w → S w' → Grows w w' → SlB bs v w → SlB bs v w' := fun _ _ _ _ _ hR ⟨A, n, c, hv, hn, hB⟩ => ⟨A, n, c, hv, hn, (hB.below hR).more hR.size⟩
theorem own_bytes {w : World} {base : Nat} {e : TypeId} {A : Option Addr} {n c : Nat} {bs : List UInt8} (h : OwnB w base e (.slice A n c) bs) : Bytes w w.heap.size A bs := by
  obtain ⟨A', c', hv, hB, _⟩ := h.open_
  injection hv with h1 h2 h3
  subst h1
  exact hB
theorem ex_str {a : Act} {W : World} {dst : Option Tmp} {ty : TypeId} {pos : String} {after : Array Edge} {guard : Option (Nat × Bool)} {x : Operand} {A : Option Addr} {n c B : Nat} {bs : List UInt8}
    (hx : a.eval x = .slice A n c) (hn : n = bs.length) (h : Bytes W B A bs) :
    (execOp a.eval ⟨dst, .convert 39 9 x, ty, pos, after, guard⟩).run Try.prog W = .ok (.value (.string (strB bs))) W := by
  have h2 := run_str (P := Try.prog) W 39 9 5 Try.underlying39 Try.underlying5 Try.underlying9 B A c bs h
  rw [← hn] at h2
  show (execOp a.eval _).run Try.prog W = _
  unfold execOp
  simp only [hx, Sem.run_bind, h2, Result.andThen_ok, Sem.run_pure]
theorem of_bytes_yes {L : List Nat} (h : L.length = 6) (hu : ∀ n ∈ L, n < 18446744073709551616) (hm : mayV L = true) : ofR (bytesV L) = (L, 0) := by
  have e : ofV (bytesV L) 6 = L := by have := ofV_bytes L hu; rwa [h] at this
  rw [ofR_yes (by rw [bytesV_len, h]) (by rw [e]; exact hm), e]
theorem of_bytes_no {L : List Nat} (h : L.length = 6) (hu : ∀ n ∈ L, n < 18446744073709551616) (hm : mayV L = false) : ofR (bytesV L) = (Z6, 5) := by
  have e : ofV (bytesV L) 6 = L := by have := ofV_bytes L hu; rwa [h] at this
  rw [ofR_no (by rw [e]; exact hm)]
theorem of_any (bs : List UInt8) : ∃ X : List Nat, ∃ b : Bool, X.length = 6 ∧ ofR bs = (X, if b then 0 else 5) ∧ (b = true → bytesV X = bs) := by
  unfold ofR
  by_cases h : bs.length = 48 ∧ mayV (ofV bs 6) = true
  · exact ⟨ofV bs 6, true, ofV_len 6 bs, by rw [if_pos h]; rfl, fun _ => bytes_ofV 6 bs (by omega)⟩
  · exact ⟨Z6, false, rfl, by rw [if_neg h]; rfl, fun h => by cases h⟩
theorem Bytes.next' {W W' : World} {A : Option Addr} {bs : List UInt8} (h : Bytes W W.heap.size A bs) (hb : Below W.heap.size W W') : Bytes W' W'.heap.size A bs := (Reads.below h hb).more hb.size
theorem Bytes.new' {W : World} {A : Option Addr} {bs : List UInt8} (h : Bytes W W.heap.size A bs) (o : Obj) : Bytes (W.alloc o) (W.alloc o).heap.size A bs := (Reads.alloc h (Nat.le_refl _) o).more (by simp)
structure VB (w W : World) (l : List (Nat × List Nat)) (A B : Option Addr) (xs bs : List UInt8) : Prop where
  vs : Vs w W l
  b1 : Bytes W W.heap.size A xs
  b2 : Bytes W W.heap.size B bs
section
variable {w W W' : World} {l : List (Nat × List Nat)} {A B : Option Addr} {xs bs : List UInt8}
theorem VB.next (h : VB w W l A B xs bs) (hb : Below W.heap.size W W') : VB w W' l A B xs bs := ⟨h.vs.next hb, h.b1.next' hb, h.b2.next' hb⟩
theorem VB.alloc (h : VB w W l A B xs bs) (o : Obj) : VB w (W.alloc o) l A B xs bs := ⟨h.vs.alloc o, h.b1.new' o, h.b2.new' o⟩
theorem VB.drew (h : VB w W l A B xs bs) : VB w W.drew l A B xs bs := ⟨h.vs.drew, h.b1, h.b2⟩
theorem VB.new (h : VB w W l A B xs bs) (L : List Nat) (g : Nat) (hg : W.heap.size = g) : VB w (W.alloc (.cells (vecA L) 24)) (l ++ [(g, L)]) A B xs bs := ⟨h.vs.new L g hg, h.b1.new' _, h.b2.new' _⟩
end
end Go.Proofs.Ytdliklkfhakmhaa
