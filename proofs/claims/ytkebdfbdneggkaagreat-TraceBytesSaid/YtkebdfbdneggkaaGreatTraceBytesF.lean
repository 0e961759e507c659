/-
  What the row of TraceBytes says of the program's text is so; no further conditions.
-/
import Derived.Test.YtkebdfbdneggkaaGreatRows
import Derived.WalkKit
import Derived.ProofKit
import Derived.JoinedOf
namespace Go.Proofs.YtkebdfbdneggkaaGreat.traceBytes
open Go.ChangeShapes Go.WideShapes Go.ChangeAt Go.RowKit
theorem laidOut : (laidOutB Tryz.prog) = true := by kernel_rfl
theorem fact1 : (mapsRowed Tryz.prog) = true := by kernel_rfl
theorem fact2 : (Rows.traceBytesRow.inPlace == Tryz.prog.inPlace 3) = true := by kernel_rfl
theorem fact3 : (Rows.traceBytesRow.unfollowed == Tryz.prog.unfollowed 3) = true := by kernel_rfl
theorem fact4 : (Rows.traceBytesRow.recurses == Tryz.prog.recurses 3) = true := by kernel_rfl
theorem fact5 : (Rows.traceBytesRow.named == Tryz.prog.varsNamed 3) = true := by kernel_rfl
theorem fact6 : (Rows.traceBytesRow.plainKeys == Tryz.prog.plainKeys) = true := by kernel_rfl
theorem fact7 : (Tryz.prog.stopsHeard) = true := by kernel_rfl
theorem fact8 : (Tryz.prog.mayEnter) = true := by kernel_rfl
theorem fact9 : (Rows.traceBytesRow.lifted == Tryz.prog.liftsFinal) = true := by kernel_rfl
theorem fact10 : (Tryz.prog.make == some Rows.traceBytesRow.make) = true := by kernel_rfl
theorem closed : joinedFacts Tryz.prog 3 Tryz.f3 Rows.traceBytesSpec Rows.traceBytesRow = true := by
  simp only [joinedFacts, Bool.and_eq_true]
  repeat' apply And.intro
  all_goals first
    | with_reducible exact laidOut
    | with_reducible exact fact1
    | with_reducible exact fact2
    | with_reducible exact fact3
    | with_reducible exact fact4
    | with_reducible exact fact5
    | with_reducible exact fact6
    | with_reducible exact fact7
    | with_reducible exact fact8
    | with_reducible exact fact9
    | with_reducible exact fact10
    | kernel_rfl
end Go.Proofs.YtkebdfbdneggkaaGreat.traceBytes
