/-
  What the row of ReplicaNil says of the program's text is so; no further conditions.
-/
import Derived.Test.YtpgjejdgeodpcaaGreatRows
import Derived.WalkKit
import Derived.ProofKit
import Derived.JoinedOf
namespace Go.Proofs.YtpgjejdgeodpcaaGreat.replicaNil
open Go.ChangeShapes Go.WideShapes Go.ChangeAt Go.RowKit
theorem laidOut : (laidOutB Tryz.prog) = true := by kernel_rfl
theorem fact1 : (mapsRowed Tryz.prog) = true := by kernel_rfl
theorem fact2 : (Rows.replicaNilRow.inPlace == Tryz.prog.inPlace 5) = true := by kernel_rfl
theorem fact3 : (Rows.replicaNilRow.unfollowed == Tryz.prog.unfollowed 5) = true := by kernel_rfl
theorem fact4 : (Rows.replicaNilRow.recurses == Tryz.prog.recurses 5) = true := by kernel_rfl
theorem fact5 : (Rows.replicaNilRow.named == Tryz.prog.varsNamed 5) = true := by kernel_rfl
theorem fact6 : (Rows.replicaNilRow.plainKeys == Tryz.prog.plainKeys) = true := by kernel_rfl
theorem fact7 : (Tryz.prog.stopsHeard) = true := by kernel_rfl
theorem fact8 : (Tryz.prog.mayEnter) = true := by kernel_rfl
theorem fact9 : (Rows.replicaNilRow.lifted == Tryz.prog.liftsFinal) = true := by kernel_rfl
theorem fact10 : (Tryz.prog.make == some Rows.replicaNilRow.make) = true := by kernel_rfl
theorem closed : joinedFacts Tryz.prog 5 Tryz.f5 Rows.replicaNilSpec Rows.replicaNilRow = true := by
  simp only [joinedFacts, Bool.and_eq_true]
  repeat' apply And.intro
  all_goals first
    | with_reducible exact laidOut
    | with_reducible exact fact1
    | with_reducible exact fact2
    | with_reducible exact fact3
    | with_reducible exact fact4
    | with_reducible exact fact5
    | with_reducible exact fact6
    | with_reducible exact fact7
    | with_reducible exact fact8
    | with_reducible exact fact9
    | with_reducible exact fact10
    | kernel_rfl
end Go.Proofs.YtpgjejdgeodpcaaGreat.replicaNil
