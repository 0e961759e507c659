import Derived.Test.YtdliklkfhakmhaaRgV
namespace Go.Proofs.Ytdliklkfhakmhaa
open Go.RowKit
/-! rights: what is used, and each region's rights, one by one, up to the limit. -/
def upTo (L : List Int) : Nat → Int
  | 0 => usedR L
  | j + 1 => upTo L j + leftR L j
theorem upTo_eq (L : List Int) : ∀ j, upTo L j = usedR L + sumTo (leftR L) j
  | 0 => by simp [upTo, sumTo]
  | j + 1 => by rw [upTo, upTo_eq L j, sumTo]; omega
theorem upTo_all (L : List Int) : upTo L 6 = limitR L := by rw [upTo_eq, whole]
theorem upTo_pos {L : List Int} (h : mayR L = true) : ∀ j, j ≤ 6 → 0 ≤ upTo L j
  | 0, _ => (sumU_bd (amt_may h) 6 (by omega)).1
  | j + 1, hj => by
    have := upTo_pos h j (by omega); have := may_left h j (by omega)
    rw [upTo]; omega
theorem upTo_le {L : List Int} (h : mayR L = true) : ∀ d, d ≤ 6 → upTo L (6 - d) ≤ limitR L
  | 0, _ => by rw [Nat.sub_zero, upTo_all]; omega
  | d + 1, hd => by
    have h1 := upTo_le h d (by omega); have h2 := may_left h (6 - (d + 1)) (by omega)
    rw [show 6 - d = 6 - (d + 1) + 1 by omega, upTo] at h1
    omega
theorem upTo_bd {L : List Int} (h : mayR L = true) (j : Nat) (hj : j ≤ 6) : 0 ≤ upTo L j ∧ upTo L j ≤ limitR L :=
  ⟨upTo_pos h j hj, by have := upTo_le h (6 - j) (by omega); rwa [show 6 - (6 - j) = j by omega] at this⟩
theorem may_z54 : mayR Z54 = true := by kernel_rfl
theorem lim_z54 : limitR Z54 = 0 := by kernel_rfl
end Go.Proofs.Ytdliklkfhakmhaa
