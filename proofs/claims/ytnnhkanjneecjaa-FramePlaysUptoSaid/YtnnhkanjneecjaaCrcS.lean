import Derived.Test.YtnnhkanjneecjaaCrcA
namespace Go.Proofs.Ytnnhkanjneecjaa
open Go.RowKit
/-! the sum of bytes. -/
set_option maxHeartbeats 400000 in
theorem sum_any (A : Option Addr) (c : Nat) (bs : List UInt8) (w : World) (hb : Bytes w w.heap.size A bs) (hl : bs.length ≤ maxLen) :
    Calls Try.prog 31 #[.slice A bs.length c] w fun e w' => e = .returned (.int .u32 (U (~~~ Cm.more (~~~ 0#32) (wide bs)))) ∧ w = w' := by
  go_enter Try.func31, Try.ntmps31
  go_wp2_with fail
  refine (more_any 0#32 A c bs _ hb hl).mono ?_
  rintro e w1 ⟨rfl, rfl⟩
  go_wp2_with fail
  go_ret
  exact ⟨rfl, rfl⟩
end Go.Proofs.Ytnnhkanjneecjaa
