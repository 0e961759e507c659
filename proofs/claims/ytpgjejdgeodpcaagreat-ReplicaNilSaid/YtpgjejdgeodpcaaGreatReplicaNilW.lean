/-
  The runs on abstract memory of which ReplicaNil speaks: for whatever memory it is made in, the call answers true; no further conditions.
-/
import Derived.Test.YtpgjejdgeodpcaaGreatRows
import Derived.WalkKit
import Derived.ProofKit
import Derived.Test.YtpgjejdgeodpcaaGreatEvu
namespace Go.Proofs.YtpgjejdgeodpcaaGreat.replicaNil
open Go.RowKit
theorem plain : Ev.Plain Tryz.prog := Ev.plain_of (by kernel_rfl)
theorem mixed : Tryz.prog.follows .mixedOrders = true := by kernel_rfl
theorem worksRun : Ev.evCall Tryz.prog (fun _ => false) 1000000 (.fn 20) [] Ev.AH.none (fun a _ => Ev.isTrue a) = true := by kernel_rfl
theorem known : Ev.Known Tryz.prog (fun g => Nat.beq g 20) := Ev.known_of plain mixed worksRun
theorem runs : Ev.evLaw Tryz.prog (fun g => Nat.beq g 20) 1000000 5 [44, 52, 22] = true := by kernel_rfl
end Go.Proofs.YtpgjejdgeodpcaaGreat.replicaNil
