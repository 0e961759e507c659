import Derived.Test.YtjihbjjekhncaaaTrc
import Derived.Test.YtjihbjjekhncaaaRows
/-! the program is plain. -/
namespace Go.Proofs.Ytjihbjjekhncaaa
open Go Go.RowKit Sv
set_option linter.unusedVariables false
/-- no function of this name. -/
def plainB (P : Program) : Bool := P.funcs.toList.all fun fn => !(fn.name == "runtime.NumGoroutine")
theorem plain_of {P : Program} (h : plainB P = true) : Sv.Plain P := by
  intro f fn hf _
  have h1 := List.all_eq_true.1 h fn (by
    rw [← Array.getElem?_toList] at hf
    exact List.mem_of_getElem? hf)
  simpa using h1
theorem plain : Sv.Plain Try.prog := plain_of (by kernel_rfl)
theorem mixed : Try.prog.follows .mixedOrders = true := by kernel_rfl
end Go.Proofs.Ytjihbjjekhncaaa
