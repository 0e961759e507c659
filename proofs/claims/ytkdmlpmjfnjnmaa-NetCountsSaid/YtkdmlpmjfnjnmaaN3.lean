import Derived.Test.YtkdmlpmjfnjnmaaN2
set_option linter.unusedSimpArgs false
namespace Go.Proofs.Ytkdmlpmjfnjnmaa
open Go Go.RowKit Sv
set_option linter.unusedVariables false
set_option maxRecDepth 100000
set_option maxHeartbeats 0
theorem seq_of {H : AH} {j : Nat} {z n : Nat} {f : Nat → List AV} (h : seqAt H j = some (z, n, f)) : ∃ c z n f, H.tr.get j = some (.seq c z n f) := by
  unfold seqAt at h
  split at h
  · rename_i c z n f h'
    exact ⟨_, _, _, _, h'⟩
  · cases h
end Go.Proofs.Ytkdmlpmjfnjnmaa
