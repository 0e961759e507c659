import Derived.Test.YtkdmlpmjfnjnmaaN12
import Derived.Test.YtkdmlpmjfnjnmaaN10
namespace Go.Proofs.Ytkdmlpmjfnjnmaa
open Go Go.RowKit Sv
set_option linter.unusedVariables false
set_option maxRecDepth 100000
set_option maxHeartbeats 0
theorem nlawC (p : Nat × (Nat → StM)) (hp : p.1 ≤ maxLen ∧ ∀ i, i < p.1 → (p.2 i).rng) : Runs Try.prog 4 [.data 15 p.1 fun i => (p.2 i).row] fun x G => x = .bool true ∧ G = [] := by
  have e : maxLen = 9223372036854775807 := by decide
  refine runs_args (bs := [stp p.1 (fixS p.1 p.2)]) (fun ρ vs hv => ?_) (clawN p.1 (fixS p.1 p.2) (by omega) (fun i => ?_) (fun i => ?_) (fun i => ?_))
  · cases hv with
    | cons _ v _ m h1 h2 =>
      refine .cons _ _ _ _ (vd_rows (z := 15) (n := p.1) (f := fun i => (p.2 i).row) (g := fun i => (fixS p.1 p.2 i).row) (fun i hi vs h => ?_) (fun i hi => rfl) h1) h2
      show VDs ρ (fixS p.1 p.2 i).row vs
      unfold fixS
      rw [if_pos hi]
      exact fix_row _ h
  · unfold fixS
    split
    · have := (hp.2 i (by assumption)).2.1.2.1
      show (p.2 i).x.q ≤ _
      omega
    · exact Nat.zero_le _
  · unfold fixS
    split
    · exact (hp.2 i (by assumption)).1
    · exact ⟨Int.le_refl _, by decide⟩
  · unfold fixS
    split
    · exact (hp.2 i (by assumption)).2.2
    · exact ⟨⟨by decide, by decide⟩, by decide, by decide⟩
end Go.Proofs.Ytkdmlpmjfnjnmaa
