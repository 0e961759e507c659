import Derived.Test.YtjihbjjekhncaaaEvY
import Derived.Test.YtjihbjjekhncaaaPlanE
namespace Go.Proofs.Ytjihbjjekhncaaa
open Go.RowKit
/-! operations over events and bytes, one at a time. -/
def SlB (bs : List UInt8) : Value → World → Prop := fun v W => ∃ A n c, v = .slice A n c ∧ n = bs.length ∧ Bytes W W.heap.size A bs
theorem stab_slb {S : World → Prop} (bs : List UInt8) : ∀ v w w', S w → S w' → Grows w w' → SlB bs v w → SlB bs v w' := fun _ _ _ _ _ hR ⟨A, n, c, hv, hn, hB⟩ => ⟨A, n, c, hv, hn, (hB.below hR).more hR.size⟩
theorem own_bytes {w : World} {base : Nat} {e : TypeId} {A : Option Addr} {n c : Nat} {bs : List UInt8} (h : OwnB w base e (.slice A n c) bs) : Bytes w w.heap.size A bs := own_bytes' h
theorem Bytes.next' {W W' : World} {A : Option Addr} {bs : List UInt8} (h : Bytes W W.heap.size A bs) (hb : Below W.heap.size W W') : Bytes W' W'.heap.size A bs := (Reads.below h hb).more hb.size
theorem Bytes.new' {W : World} {A : Option Addr} {bs : List UInt8} (h : Bytes W W.heap.size A bs) (o : Obj) : Bytes (W.alloc o) (W.alloc o).heap.size A bs := (Reads.alloc h (Nat.le_refl _) o).more (by simp)
section
variable {a : Act} {W : World} {dst : Option Tmp} {ty : TypeId} {pos : String} {after : Array Edge} {guard : Option (Nat × Bool)}
theorem ex_str {x : Operand} {A : Option Addr} {n c B : Nat} {bs : List UInt8} (hx : a.eval x = .slice A n c) (hn : n = bs.length) (h : Bytes W B A bs) :
    (execOp a.eval ⟨dst, .convert 27 9 x, ty, pos, after, guard⟩).run Try.prog W = .ok (.value (.string (strB bs))) W := by
  have h2 := str_at (c := c) h hn
  show (execOp a.eval _).run Try.prog W = _
  unfold execOp
  simp only [hx, Sem.run_bind, h2, Result.andThen_ok, Sem.run_pure]
theorem ex_loadE {x : Operand} {b o : Nat} {e : Ev} (hx : a.eval x = .pointer (some ⟨b, o, none⟩)) (d6 : e.d.length = 6) (h : W.rangeAt b o (evL e)) :
    (execOp a.eval ⟨dst, .load 26 x, ty, pos, after, guard⟩).run Try.prog W = .ok (.value (.agg (evA e))) W := by
  rw [exec_loadE, hx]; simp only [Sem.run_bind, run_loadE_mid d6 h, Result.andThen_ok, Sem.run_pure]
theorem ex_buildE0 : (execOp a.eval ⟨dst, .build 26 #[], ty, pos, after, guard⟩).run Try.prog W = .ok (.value (.agg (evA E0))) W := by
  rw [exec_buildE]; simp only [Array.map_empty, Sem.run_bind, run_buildE0, Result.andThen_ok, Sem.run_pure]
end
theorem strB_toList (l : List UInt8) : (strB l).toList = l := by
  unfold strB
  simp
theorem strB_ne {a b : List UInt8} (h : ¬ a = b) : ¬ strB a = strB b := fun e => h (by rw [← strB_toList a, ← strB_toList b, e])
theorem str_ne {xs ys : List UInt8} (h : ¬ xs = ys) : ((strB xs).toList == (strB ys).toList) = false := by rw [strB_toList, strB_toList]; simpa using h
end Go.Proofs.Ytjihbjjekhncaaa
