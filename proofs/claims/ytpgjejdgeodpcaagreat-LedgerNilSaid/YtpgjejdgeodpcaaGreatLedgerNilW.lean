/-
  The runs on abstract memory of which LedgerNil speaks: for whatever memory it is made in, the call answers true; no further conditions.
-/
import Derived.Test.YtpgjejdgeodpcaaGreatRows
import Derived.WalkKit
import Derived.ProofKit
import Derived.Test.YtpgjejdgeodpcaaGreatEvu
namespace Go.Proofs.YtpgjejdgeodpcaaGreat.ledgerNil
open Go.RowKit
theorem plain : Ev.Plain Tryz.prog := Ev.plain_of (by kernel_rfl)
theorem mixed : Tryz.prog.follows .mixedOrders = true := by kernel_rfl
theorem worksRun : Ev.evCall Tryz.prog (fun _ => false) 1000000 (.fn 16) [] Ev.AH.none (fun a _ => Ev.isTrue a) = true := by kernel_rfl
theorem known : Ev.Known Tryz.prog (fun g => Nat.beq g 16) := Ev.known_of plain mixed worksRun
theorem runs : Ev.evLaw Tryz.prog (fun g => Nat.beq g 16) 1000000 3 [26, 3, 22] = true := by kernel_rfl
end Go.Proofs.YtpgjejdgeodpcaaGreat.ledgerNil
