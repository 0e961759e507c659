import Derived.Test.YtdliklkfhakmhaaKit
import Derived.LoopN
namespace Go.Proofs.Ytdliklkfhakmhaa
open Go.RowKit
/-! donor: what is given. -/
def amt (n : Int) : Bool := decide (1 ≤ n) && decide (n ≤ 1125899906842624)
def shareN (a b : Int) : Int := if amt a && amt b then min b ((a + 1) / 2) else 0
theorem amount_any (n : Int) (w : World) (h : -9223372036854775808 ≤ n ∧ n ≤ 9223372036854775807) : Calls Try.prog 62 #[.int .i64 n] w fun e w' => e = .returned (.bool (amt n)) ∧ w = w' := by
  unfold amt
  by_cases h1 : 1 ≤ n
  · by_cases h2 : n ≤ 1125899906842624
    · rw [decide_eq_true h1, decide_eq_true h2]
      go_enter Try.func62, Try.ntmps62
      go_wp2_with fail
      go_ret
      exact ⟨rfl, rfl⟩
    · rw [decide_eq_true h1, decide_eq_false h2]
      go_enter Try.func62, Try.ntmps62
      go_wp2_with fail
      go_ret
      exact ⟨rfl, rfl⟩
  · rw [decide_eq_false h1]
    go_enter Try.func62, Try.ntmps62
    go_wp2_with fail
    go_ret
    exact ⟨rfl, rfl⟩
theorem amt_bd {n : Int} (h : amt n = true) : 1 ≤ n ∧ n ≤ 1125899906842624 := by
  unfold amt at h
  simp only [Bool.and_eq_true, decide_eq_true_eq] at h
  exact h
theorem amt_of {n : Int} (h1 : 1 ≤ n) (h2 : n ≤ 1125899906842624) : amt n = true := by
  unfold amt
  rw [decide_eq_true h1, decide_eq_true h2]; rfl
theorem share_any (a b : Int) (w : World) (ha : -9223372036854775808 ≤ a ∧ a ≤ 9223372036854775807) (hb : -9223372036854775808 ≤ b ∧ b ≤ 9223372036854775807) :
    Calls Try.prog 42 #[.int .i64 a, .int .i64 b] w fun e w' => e = .returned (.int .i64 (shareN a b)) ∧ w = w' := by
  unfold shareN
  cases h1 : amt a with
  | false =>
    go_enter Try.func42, Try.ntmps42
    go_wp2_with fail
    refine (amount_any a w ha).mono ?_
    rintro e w1 ⟨rfl, rfl⟩
    rw [h1]
    go_wp2_with fail
    go_ret
    exact ⟨rfl, rfl⟩
  | true =>
    cases h2 : amt b with
    | false =>
      go_enter Try.func42, Try.ntmps42
      go_wp2_with fail
      refine (amount_any a w ha).mono ?_
      rintro e w1 ⟨rfl, rfl⟩
      rw [h1]
      go_wp2_with fail
      refine (amount_any b w hb).mono ?_
      rintro e w1 ⟨rfl, rfl⟩
      rw [h2]
      go_wp2_with fail
      go_ret
      exact ⟨rfl, rfl⟩
    | true =>
      have k1 := amt_bd h1
      have k2 := amt_bd h2
      rw [if_pos (by rfl)]
      by_cases hle : b ≤ (a + 1) / 2
      case' pos => rw [Int.min_eq_left hle]
      case' neg => rw [Int.min_eq_right (by omega)]
      all_goals
        go_enter Try.func42, Try.ntmps42
        go_wp2_with fail
        refine (amount_any a w ha).mono ?_
        rintro e w1 ⟨rfl, rfl⟩
        rw [h1]
        go_wp2_with fail
        refine (amount_any b w hb).mono ?_
        rintro e w1 ⟨rfl, rfl⟩
        rw [h2]
        go_wp2_with fail
        go_ret
        exact ⟨rfl, rfl⟩
theorem whom_zero (w : World) : Calls Try.prog 63 #[.agg #[.bool false, .bool false, .bool false, .bool false, .bool false, .bool false, .bool false, .bool false, .bool false, .bool false, .bool false, .bool false, .int .u64 0, .int .u64 0, .int .u64 0, .int .u64 0, .int .u64 0, .int .u64 0, .slice none 0 0, .slice none 0 0], .int .i64 1, .int .u64 1] w fun e w' => e = .returned (.int .i64 0) ∧ Below w.heap.size w w' := by
  go_enter Try.func63, Try.ntmps63
  go_wp2_with fail
  refine wp_loop_rounds 1 ?_
  rw [rounds_succ]
  go_wp2
  go_ret
  exact ⟨rfl, by repeat (first | exact Below.refl _ _ | refine Below.alloc ?_ (by simp; try omega) _ | refine Below.drew ?_)⟩
theorem dworks_any (w : World) : Calls Try.prog 43 #[] w fun e w' => e = .returned (.bool true) ∧ Below w.heap.size w w' := by
  go_enter Try.func43, Try.ntmps43
  go_wp2_with fail
  refine (share_any 10 3 _ (by omega) (by omega)).mono ?_
  rintro e w1 ⟨rfl, rfl⟩
  rw [show shareN 10 3 = 3 by decide]
  go_wp2_with fail
  refine (share_any 10 100 _ (by omega) (by omega)).mono ?_
  rintro e w1 ⟨rfl, rfl⟩
  rw [show shareN 10 100 = 5 by decide]
  go_wp2_with fail
  refine (share_any 1 1 _ (by omega) (by omega)).mono ?_
  rintro e w1 ⟨rfl, rfl⟩
  rw [show shareN 1 1 = 1 by decide]
  go_wp2_with fail
  refine (share_any 0 1 _ (by omega) (by omega)).mono ?_
  rintro e w1 ⟨rfl, rfl⟩
  rw [show shareN 0 1 = 0 by decide]
  go_wp2_with fail
  refine (whom_zero _).mono ?_
  rintro e w1 ⟨rfl, hb⟩
  go_wp2_with fail
  go_ret
  exact ⟨rfl, hb⟩
end Go.Proofs.Ytdliklkfhakmhaa
