import Derived.Test.YtfhmiiceollciaaTrb
import Derived.Test.YtfhmiiceollciaaEvu
import Derived.Test.YtfhmiiceollciaaRows
/-! the program is plain. -/
namespace Go.Proofs.Ytfhmiiceollciaa
open Go Go.RowKit Sv
set_option linter.unusedVariables false
theorem evPlain : Ev.Plain Try.prog := Ev.plain_of (by kernel_rfl)
theorem plain : Sv.Plain Try.prog := evPlain
theorem mixed : Try.prog.follows .mixedOrders = true := by kernel_rfl
end Go.Proofs.Ytfhmiiceollciaa
