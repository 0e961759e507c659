import Derived.Test.YtmddbpkojboogaaRgE
namespace Go.Proofs.Ytmddbpkojboogaa
open Go.RowKit
/-! rights: how an amount is added. -/
theorem add_no (b o gx : Nat) (n x : Int) (W : World) (hc : W.cell? ⟨b, o, none⟩ = some (.int .i64 n)) (hx : W.cell? ⟨gx, 0, none⟩ = some (.int .i64 x)) (hx1 : 1 ≤ x) (hx2 : x ≤ 1125899906842624) (hno : 1125899906842624 - x < n) :
    Calls Try.prog 60 #[.pointer (some ⟨b, o, none⟩), .pointer (some ⟨gx, 0, none⟩)] W fun e w' => e = .returned (.bool false) ∧ ∃ m, w' = W.drewN m := by
  go_enter Try.func60, Try.ntmps60
  go_wp2_with fail
  go_quiet (fail)
  go_wp2_with fail
  go_ret
  exact ⟨rfl, _, rfl⟩
theorem add_yes (b o gx : Nat) (n x : Int) (W : World) (hc : W.cell? ⟨b, o, none⟩ = some (.int .i64 n)) (hf : W.frozen? ⟨b, o, none⟩ = false) (hx : W.cell? ⟨gx, 0, none⟩ = some (.int .i64 x)) (hn : 0 ≤ n) (hx1 : 1 ≤ x) (hx2 : x ≤ 1125899906842624) (hyes : ¬ 1125899906842624 - x < n) :
    Calls Try.prog 60 #[.pointer (some ⟨b, o, none⟩), .pointer (some ⟨gx, 0, none⟩)] W fun e w' => e = .returned (.bool true) ∧ ∃ m, w' = (W.setCell ⟨b, o, none⟩ (.int .i64 (n + x))).drewN m := by
  go_enter Try.func60, Try.ntmps60
  go_wp2_with fail
  go_quiet (fail)
  go_wp2_with fail
  go_region
  go_wp2_with fail
  go_ret
  exact ⟨rfl, _, rfl⟩
end Go.Proofs.Ytmddbpkojboogaa
