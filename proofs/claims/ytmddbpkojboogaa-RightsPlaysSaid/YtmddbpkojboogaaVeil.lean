import Derived.Test.YtmddbpkojboogaaVecG
import Derived.Deep.RegionHeld3
import Derived.Deep.DrawnRows
namespace Go.Proofs.Ytmddbpkojboogaa
open Go.RowKit
/-! loads, stores and slices of whole vectors behind words that the walk does not lay open: what they do is told by rules. -/
def loadV (p : Value) : Sem Value := Instr.loadAt 24 p
def storeV (p v : Value) : Sem Unit := Instr.storeAt 24 p v
def buildV (n : Nat) (parts : Array (Nat × Value)) : Sem Value := Instr.buildSlice 25 n parts
theorem exec_loadV (ρ : Operand → Value) (dst : Option Tmp) (x : Operand) (ty : TypeId) (pos : String) (after : Array Edge) (guard : Option (Nat × Bool)) :
    execOp ρ ⟨dst, .load 24 x, ty, pos, after, guard⟩ = (do pure (.value (← loadV (ρ x)))) := rfl
theorem exec_storeV (ρ : Operand → Value) (dst : Option Tmp) (x y : Operand) (ty : TypeId) (pos : String) (after : Array Edge) (guard : Option (Nat × Bool)) :
    execOp ρ ⟨dst, .store 24 x y, ty, pos, after, guard⟩ = (do storeV (ρ x) (ρ y); pure .skip) := rfl
theorem exec_buildV (ρ : Operand → Value) (dst : Option Tmp) (n : Nat) (parts : Array (Nat × Operand)) (ty : TypeId) (pos : String) (after : Array Edge) (guard : Option (Nat × Bool)) :
    execOp ρ ⟨dst, .buildSlice 25 n parts, ty, pos, after, guard⟩ = (do pure (.value (← buildV n (parts.map fun x => (x.1, ρ x.2))))) := rfl
theorem run_loadV {W : World} {g : Nat} {L : List Nat} (hL : L.length = 6) (h : Blk W g 24 (vecA L)) : (loadV (.pointer (some ⟨g, 0, none⟩))).run Try.prog W = .ok (.agg (vecA L)) W := by
  have := run_loadVar_row W g 24 24 (vecA L) (0, 0) _ h Try.underlying24 rfl (infoV_of L hL)
  unfold loadV Instr.loadAt
  simp only [Instr.sureAddr, Sem.run_bind, Sem.run_pure, Result.andThen_ok, this]
theorem run_buildV {W : World} {L M : List Nat} (hL : L.length = 6) (hM : M.length = 6) :
    (buildV 2 #[(0, .agg (vecA L)), (1, .agg (vecA M))]).run Try.prog W = .ok (.slice (some ⟨W.heap.size, 0, none⟩) 2 2) (W.alloc (.cells (vecL L ++ vecL M).toArray 24)) := run_two hL hM W
theorem run_storeV {W : World} {g : Nat} {L : List Nat} {old : Array Value} (hL : L.length = 6) (h : W.heap[g]? = some (.cells old 24 (0, 0))) (hold : old.size = 6) :
    (storeV (.pointer (some ⟨g, 0, none⟩)) (.agg (vecA L))).run Try.prog W = .ok () (W.setRow g (vecA L)) := by
  have h1 : old.size = (vecA L).size := by rw [vecA_size, hL, hold]
  have := run_storeVar_row W g 24 24 old (vecA L) h (infoV_of L hL) h1 (vecA_one L)
  unfold storeV Instr.storeAt
  simp only [Instr.sureAddr, Sem.run_bind, Sem.run_pure, Result.andThen_ok, this]
/-- a vector goes into a new variable. -/
theorem run_storeV_new {W : World} {L : List Nat} (hL : L.length = 6) :
    (storeV (.pointer (some ⟨W.heap.size, 0, none⟩)) (.agg (vecA L))).run Try.prog (W.alloc (.cells #[.int .u64 0, .int .u64 0, .int .u64 0, .int .u64 0, .int .u64 0, .int .u64 0] 24)) = .ok () (W.alloc (.cells (vecA L) 24)) := by
  rw [run_storeV hL (heap_alloc_new W _) rfl, setRow_new W W.heap.size rfl]
theorem Vs.drew {w W : World} {l : List (Nat × List Nat)} (h : Vs w W l) : Vs w W.drew l := ⟨fun p hp => (h.blk p hp).drew, h.bel.drew⟩
theorem Vs.after {w W W' : World} {l : List (Nat × List Nat)} (hb : Below W.heap.size W W') (h : Vs w W l) : Vs w W' l := h.next hb
theorem Vs.load {w : World} {l : List (Nat × List Nat)} (i : Nat) {g : Nat} {L : List Nat} (hi : l[i]? = some (g, L)) (hL : L.length = 6) : ∀ W, Vs w W l → (loadV (.pointer (some ⟨g, 0, none⟩))).run Try.prog W = .ok (.agg (vecA L)) W := fun _ h => run_loadV hL (h.nth i hi)
theorem Blk.after {W W' : World} {g : Nat} {t : TypeId} {cs : Array Value} (hb : Below W.heap.size W W') (h : Blk W g t cs) : Blk W' g t cs := h.below hb h.lt
end Go.Proofs.Ytmddbpkojboogaa
