/-
  The runs on abstract memory of which TraceNil speaks: for whatever memory it is made in, the call answers true; no further conditions.
-/
import Derived.Test.YtlcfalkjldlkbaaGreatRows
import Derived.WalkKit
import Derived.ProofKit
import Derived.Test.YtlcfalkjldlkbaaGreatEvu
namespace Go.Proofs.YtlcfalkjldlkbaaGreat.traceNil
open Go.RowKit
theorem plain : Ev.Plain Tryz.prog := Ev.plain_of (by kernel_rfl)
theorem mixed : Tryz.prog.follows .mixedOrders = true := by kernel_rfl
theorem worksRun : Ev.evCall Tryz.prog (fun _ => false) 1000000 (.fn 5) [] Ev.AH.none (fun a _ => Ev.isTrue a) = true := by kernel_rfl
theorem known : Ev.Known Tryz.prog (fun g => Nat.beq g 5) := Ev.known_of plain mixed worksRun
theorem runs : Ev.evLaw Tryz.prog (fun g => Nat.beq g 5) 1000000 3 [27] = true := by kernel_rfl
end Go.Proofs.YtlcfalkjldlkbaaGreat.traceNil
