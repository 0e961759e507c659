import Derived.Test.YtmddbpkojboogaaPlan
import Derived.Test.YtmddbpkojboogaaVeil
namespace Go.Proofs.Ytmddbpkojboogaa
open Go.RowKit
/-! operations over vectors, one at a time. -/
section
variable {a : Act} {W : World} {dst : Option Tmp} {ty : TypeId} {pos : String} {after : Array Edge} {guard : Option (Nat × Bool)}
theorem ex_load {x : Operand} {g : Nat} {L : List Nat} (hx : a.eval x = .pointer (some ⟨g, 0, none⟩)) (hL : L.length = 6) (h : Blk W g 24 (vecA L)) :
    (execOp a.eval ⟨dst, .load 24 x, ty, pos, after, guard⟩).run Try.prog W = .ok (.value (.agg (vecA L))) W := by
  rw [exec_loadV, hx]; simp only [Sem.run_bind, run_loadV hL h, Result.andThen_ok, Sem.run_pure]
theorem ex_build {x y : Operand} {L M : List Nat} (hx : a.eval x = .agg (vecA L)) (hy : a.eval y = .agg (vecA M)) (hL : L.length = 6) (hM : M.length = 6) :
    (execOp a.eval ⟨dst, .buildSlice 25 2 #[(0, x), (1, y)], ty, pos, after, guard⟩).run Try.prog W = .ok (.value (.slice (some ⟨W.heap.size, 0, none⟩) 2 2)) (W.alloc (.cells (vecL L ++ vecL M).toArray 24)) := by
  rw [exec_buildV]
  have hm : (#[(0, x), (1, y)] : Array (Nat × Operand)).map (fun x => (x.1, a.eval x.2)) = #[(0, .agg (vecA L)), (1, .agg (vecA M))] := by simp [hx, hy]
  rw [hm]; simp only [Sem.run_bind, run_buildV hL hM, Result.andThen_ok, Sem.run_pure]
theorem ex_move {x : Operand} : (execOp a.eval ⟨dst, .move x, ty, pos, after, guard⟩).run Try.prog W = .ok (.value (a.eval x)) W := rfl
theorem ex_assign {x : Operand} : (execOp a.eval ⟨dst, .assign x, ty, pos, after, guard⟩).run Try.prog W = .ok (.value (a.eval x)) W := rfl
end
def TwoV (L M : List Nat) : Value → World → Prop := fun v W => ∃ g, v = .slice (some ⟨g, 0, none⟩) 2 2 ∧ Blk W g 24 (vecL L ++ vecL M).toArray
def Grows (W W' : World) : Prop := Below W.heap.size W W'
theorem Grows.refl (W : World) : Grows W W := Below.refl _ _
theorem Grows.alloc (W : World) (o : Obj) : Grows W (W.alloc o) := (Below.refl _ _).alloc (Nat.le_refl _) o
theorem stab_c {S : World → Prop} {R : World → World → Prop} (c : Value) : ∀ v w w', S w → S w' → R w w' → IsV c v w → IsV c v w' := fun _ _ _ _ _ _ h => h
theorem stab_two {S : World → Prop} (L M : List Nat) : ∀ v w w', S w → S w' → Grows w w' → TwoV L M v w → TwoV L M v w' := fun _ _ _ _ _ hR ⟨g, hv, hB⟩ => ⟨g, hv, hB.below hR hB.lt⟩
theorem ex_load_mid {a : Act} {W : World} {dst : Option Tmp} {ty : TypeId} {pos : String} {after : Array Edge} {guard : Option (Nat × Bool)} {x : Operand} {b o : Nat} {L : List Nat} (hx : a.eval x = .pointer (some ⟨b, o, none⟩)) (hL : L.length = 6) (h : W.rangeAt b o (vecL L)) :
    (execOp a.eval ⟨dst, .load 24 x, ty, pos, after, guard⟩).run Try.prog W = .ok (.value (.agg (vecA L))) W := by
  rw [exec_loadV, hx]
  have := vecs_load hL h
  have h2 : (loadV (.pointer (some ⟨b, o, none⟩))).run Try.prog W = .ok (.agg (vecA L)) W := this
  simp only [Sem.run_bind, h2, Result.andThen_ok, Sem.run_pure]
end Go.Proofs.Ytmddbpkojboogaa
