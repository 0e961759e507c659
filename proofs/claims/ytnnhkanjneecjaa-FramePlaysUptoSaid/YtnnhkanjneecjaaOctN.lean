import Derived.Test.YtnnhkanjneecjaaOctM
import Derived.RegionTactic
namespace Go.Proofs.Ytnnhkanjneecjaa
open Go.RowKit
set_option maxHeartbeats 1000000 in
theorem same_yes (A B : Option Addr) (n m c d : Nat) (l : List (List UInt8)) (w : World) (ha : Strs w w.heap.size A l) (hb : Strs w w.heap.size B l) (hn : n = l.length) (hm : m = l.length) (hl : l.length ≤ maxLen) :
    Calls Try.prog 28 #[.slice A n c, .slice B m d] w fun e w' => e = .returned (.bool true) ∧ Below w.heap.size w w' := by
  subst hn hm
  unfold maxLen at hl
  have hnn : ((l.length : Int) != (l.length : Int)) = false := by simp
  go_enter Try.func28, Try.ntmps28
  go_wp2_with fail
  go_loopw [5] (fun i wr => ∃ k : Nat, k ≤ l.length ∧ i = .int .i64 k ∧ Below w.heap.size w wr) (fun i _ => l.length - (intOf i).toNat)
  case atStart => exact ⟨0, by omega, rfl, Below.refl _ _⟩
  case round =>
    obtain ⟨k, hk, rfl, hbw⟩ := hrel
    by_cases hlt : k < l.length
    · obtain ⟨b1, o1, A1, c1, rfl, hB1, hc1, x1, _, _⟩ := ha.at_ hlt
      obtain ⟨b2, o2, A2, c2, rfl, hB2, hc2, x2, _, _⟩ := hb.at_ hlt
      have e1 := (hbw.cell (p := ⟨b1, o1 + k, none⟩) hB1).trans hc1
      have e2 := (hbw.cell (p := ⟨b2, o2 + k, none⟩) hB2).trans hc2
      have q1 := str_any wr.drew w.heap.size A1 c1 _ (Reads.below x1 hbw.drew)
      have q2 := str_any wr.drew w.heap.size A2 c2 _ (Reads.below x2 hbw.drew)
      clear hc1 hc2 x1 x2
      generalize l[k] = z at e1 e2 q1 q2
      generalize strB z = X at q1 q2
      go_wp2_with fail
      go_region
      go_wp2
      go_roundw
      case rel => exact ⟨k + 1, by omega, by go_num, hbw.drew⟩
      case measure => simp [intOf]; omega
    · go_wp2_with fail
      go_ret
      exact ⟨rfl, hbw⟩
end Go.Proofs.Ytnnhkanjneecjaa
