import Derived.Test.YtjihbjjekhncaaaPlanC
import Derived.Test.YtjihbjjekhncaaaKitB
namespace Go.Proofs.Ytjihbjjekhncaaa
open Go.RowKit
/-! operations, one at a time. -/
section
variable {a : Act} {W : World} {dst : Option Tmp} {ty : TypeId} {pos : String} {after : Array Edge} {guard : Option (Nat × Bool)}
theorem ex_move {x : Operand} : (execOp a.eval ⟨dst, .move x, ty, pos, after, guard⟩).run Try.prog W = .ok (.value (a.eval x)) W := rfl
theorem ex_assign {x : Operand} : (execOp a.eval ⟨dst, .assign x, ty, pos, after, guard⟩).run Try.prog W = .ok (.value (a.eval x)) W := rfl
end
def Grows (W W' : World) : Prop := Below W.heap.size W W'
theorem Grows.refl (W : World) : Grows W W := Below.refl _ _
theorem Grows.alloc (W : World) (o : Obj) : Grows W (W.alloc o) := (Below.refl _ _).alloc (Nat.le_refl _) o
theorem stab_c {S : World → Prop} {R : World → World → Prop} (c : Value) : ∀ v w w', S w → S w' → R w w' → IsV c v w → IsV c v w' := fun _ _ _ _ _ _ h => h
end Go.Proofs.Ytjihbjjekhncaaa
