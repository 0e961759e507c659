import Derived.Test.YtmddbpkojboogaaRfE
import Derived.Test.YtmddbpkojboogaaRgV
namespace Go.Proofs.Ytmddbpkojboogaa
open Go.RowKit
/-! leatlaw07: two rights in a slice. -/
attribute [local go_sem ↓] exec_loadR exec_storeR exec_allocR exec_buildR
theorem rgt_range {L : List Int} (h : L.length = 54) : (List.range 54).map (fun n => L.getD n 0) = L := by
  refine List.ext_getElem (by simp [h]) fun n h1 h2 => ?_
  simp
  rw [List.getElem?_eq_getElem h2]; rfl
def buildR2 (parts : Array (Nat × Value)) : Sem Value := Instr.buildSlice 44 2 parts
theorem exec_buildR2 (ρ : Operand → Value) (dst : Option Tmp) (parts : Array (Nat × Operand)) (ty : TypeId) (pos : String) (after : Array Edge) (guard : Option (Nat × Bool)) :
    execOp ρ ⟨dst, .buildSlice 44 2 parts, ty, pos, after, guard⟩ = (do pure (.value (← buildR2 (parts.map fun x => (x.1, ρ x.2))))) := rfl
set_option maxRecDepth 100000 in
theorem run_twoF (f : Nat → Int) (W : World) :
    (Instr.buildSlice 44 2 #[(0, .agg (rgtA Z54)), (1, .agg (rgtA ((List.range 54).map f)))]).run Try.prog W = .ok (.slice (some ⟨W.heap.size, 0, none⟩) 2 2) (W.alloc (.cells (rgtL Z54 ++ rgtL ((List.range 54).map f)).toArray 42)) := by
  kernel_rfl
theorem run_twoR {L : List Int} (h : L.length = 54) (W : World) :
    (buildR2 #[(0, .agg (rgtA Z54)), (1, .agg (rgtA L))]).run Try.prog W = .ok (.slice (some ⟨W.heap.size, 0, none⟩) 2 2) (W.alloc (.cells (rgtL Z54 ++ rgtL L).toArray 42)) := by
  have := run_twoF (fun n => L.getD n 0) W
  rwa [rgt_range h] at this
theorem rgtL_len (L : List Int) : (rgtL L).length = L.length := by simp [rgtL]
theorem run_loadR_mid {W : World} {b o : Nat} {L : List Int} (h : L.length = 54) (hr : W.rangeAt b o (rgtL L)) : (loadR (.pointer (some ⟨b, o, none⟩))).run Try.prog W = .ok (.agg (rgtA L)) W :=
  run_loadAt_mid (P := Try.prog) W b o 42 (rgtL L) _ hr Try.underlying42 rfl (by rw [rgtL_len, h]; exact infoR)
theorem two_at {W : World} {g : Nat} {t : TypeId} {L : List Int} (hL : L.length = 54) (hB : Blk W g t (rgtL Z54 ++ rgtL L).toArray) (k : Nat) (hk : k < 2) : W.rangeAt g (k * 54) (rgtL (if k = 0 then Z54 else L)) := fun j v hj => by
  rw [hB.cell]
  have hz : (rgtL Z54).length = 54 := by rw [rgtL_len]; rfl
  rcases (show k = 0 ∨ k = 1 by omega) with rfl | rfl
  · rw [if_pos rfl] at hj
    have hl : j < (rgtL Z54).length := by
      rcases Nat.lt_or_ge j (rgtL Z54).length with h | h
      · exact h
      · rw [List.getElem?_eq_none h] at hj; cases hj
    rw [Nat.zero_mul, Nat.zero_add]
    simpa [List.getElem?_append_left hl] using hj
  · rw [if_neg (by omega)] at hj
    rw [Nat.one_mul]
    simp only [List.getElem?_toArray]
    rw [List.getElem?_append_right (by omega), hz, Nat.add_sub_cancel_left]
    exact hj
theorem Rs.some_ {w W : World} {l l' : List (Nat × List Int)} (h : Rs w W l) (hs : ∀ p ∈ l', p ∈ l) : Rs w W l' := ⟨fun p hp => h.blk p (hs p hp), h.bel⟩
theorem does_wf {s : RStep} {L A : List Int} {e : Int} (h : L.length = 54) (he : doesR s L = (A, e)) : WfR A := by
  have hl := does_len (s := s) h
  rw [he] at hl
  by_cases h0 : e = 0
  · subst h0
    obtain ⟨_, g1, _⟩ := does_goes h he
    exact wf_may hl (amt_may g1.may)
  · rw [does_no he h0]; exact wf_z54
end Go.Proofs.Ytmddbpkojboogaa
