import Derived.Test.YtandjcalokecjaaTrb
import Derived.Test.YtandjcalokecjaaEvu
import Derived.Test.YtandjcalokecjaaRows
/-! the program is plain. -/
namespace Go.Proofs.Ytandjcalokecjaa
open Go Go.RowKit Sv
set_option linter.unusedVariables false
theorem evPlain : Ev.Plain Try.prog := Ev.plain_of (by kernel_rfl)
theorem plain : Sv.Plain Try.prog := evPlain
theorem mixed : Try.prog.follows .mixedOrders = true := by kernel_rfl
end Go.Proofs.Ytandjcalokecjaa
