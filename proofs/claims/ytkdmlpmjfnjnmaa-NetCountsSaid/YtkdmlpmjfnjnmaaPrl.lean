import Derived.Test.YtkdmlpmjfnjnmaaTrc
import Derived.Test.YtkdmlpmjfnjnmaaRows
/-! the program is plain. -/
namespace Go.Proofs.Ytkdmlpmjfnjnmaa
open Go Go.RowKit Sv
set_option linter.unusedVariables false
/-- no function of this name. -/
def plainB (P : Program) : Bool := P.funcs.toList.all fun fn => !(fn.name == "runtime.NumGoroutine")
theorem plain_of {P : Program} (h : plainB P = true) : Sv.Plain P := by
  intro f fn hf _
  have h1 := List.all_eq_true.1 h fn (by
    rw [← Array.getElem?_toList] at hf
    exact List.mem_of_getElem? hf)
  simpa using h1
section
variable {P : Program} {o lp : Nat → Bool} {n0 : Nat} {R : AV → List NewB → Prop} {t : T}
theorem hl {p : Prop} {d : Decidable p} {x : Sk} (hp : p) (h1 : x.holds P o lp n0 R t.left) : (Sk.left (@decide p d) x).holds P o lp n0 R t := hold_leftD0 hp h1
theorem hzr {p : Prop} {d : Decidable p} {x : Sk} (hp : ¬ p) (h1 : x.holds P o lp n0 R t.right) : (Sk.right (@decide p d) x).holds P o lp n0 R t := hold_rightD0 hp h1
end
/-- a byte, as a number. -/
def v (y : Nat → Nat) (i : Nat) : Int := ((y i % 256 : Nat) : Int)
abbrev s3 (n : Nat) (f : Nat → List AV) : Prop := 1 = 1 ∧ n = n ∧ f = f
theorem bc {p : Prop} (h : ¬ ¬ p) : p := Classical.byContradiction h
noncomputable def pd {p : Prop} : Decidable p := Classical.propDecidable p
theorem plain : Sv.Plain Try.prog := plain_of (by kernel_rfl)
theorem mixed : Try.prog.follows .mixedOrders = true := by kernel_rfl
end Go.Proofs.Ytkdmlpmjfnjnmaa
