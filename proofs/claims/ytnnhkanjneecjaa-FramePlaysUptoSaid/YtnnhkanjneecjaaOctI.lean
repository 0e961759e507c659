import Derived.Test.YtnnhkanjneecjaaOctH
namespace Go.Proofs.Ytnnhkanjneecjaa
open Go.RowKit
set_option maxHeartbeats 400000 in
theorem rtake_size (z : Int) (h1 : ¬ z = 1) (h2 : ¬ z = 2) (h4 : ¬ z = 4) (h8 : ¬ z = 8) (v : Value) (a : Int) (w : World) :
    Calls Try.prog 16 #[v, .int .i64 a, .int .i64 z] w fun e w' => e = .returned (.tuple #[.int .u64 0, .int .i64 0, .int .i64 1]) ∧ w = w' := by
  go_enter Try.func16, Try.ntmps16
  go_wp2_with fail
  refine (rsize_no z h1 h2 h4 h8 _).mono ?_
  rintro e w1 ⟨rfl, rfl⟩
  go_wp2_with fail
  go_ret3
  exact ⟨rfl, rfl⟩
set_option maxHeartbeats 400000 in
theorem rtake_place (k : Nat) (hk : Size k) (A : Option Addr) (m c : Nat) (a : Int) (w : World) (ha : a < 0 ∨ (m : Int) < a) :
    Calls Try.prog 16 #[.slice A m c, .int .i64 a, .int .i64 (k : Int)] w fun e w' => e = .returned (.tuple #[.int .u64 0, .int .i64 0, .int .i64 1]) ∧ w = w' := by
  rcases ha with h | h
  · go_enter Try.func16, Try.ntmps16
    go_wp2_with fail
    refine (rsize_yes k hk _).mono ?_
    rintro e w1 ⟨rfl, rfl⟩
    go_wp2_with fail
    go_ret3
    exact ⟨rfl, rfl⟩
  · have h0 : ¬ a < 0 := by omega
    go_enter Try.func16, Try.ntmps16
    go_wp2_with fail
    refine (rsize_yes k hk _).mono ?_
    rintro e w1 ⟨rfl, rfl⟩
    go_wp2_with fail
    go_ret3
    exact ⟨rfl, rfl⟩
set_option maxHeartbeats 400000 in
theorem rtake_short (k : Nat) (hk : Size k) (A : Option Addr) (m c : Nat) (a : Nat) (w : World) (ha : a ≤ m) (hs : m < a + k) (hm : m ≤ maxLen) :
    Calls Try.prog 16 #[.slice A m c, .int .i64 (a : Int), .int .i64 (k : Int)] w fun e w' => e = .returned (.tuple #[.int .u64 0, .int .i64 0, .int .i64 5]) ∧ w = w' := by
  unfold maxLen at hm
  have h0 : ¬ (a : Int) < 0 := by omega
  have h1 : ¬ (m : Int) < (a : Int) := by omega
  have h2 : (m : Int) - (a : Int) < (k : Int) := by omega
  go_enter Try.func16, Try.ntmps16
  go_wp2_with fail
  refine (rsize_yes k hk _).mono ?_
  rintro e w1 ⟨rfl, rfl⟩
  go_wp2_with fail
  go_ret3
  exact ⟨rfl, rfl⟩
theorem mul_next (n j : Nat) (c : UInt8) (h : n < 256 ^ j) (hj : j < 8) :
    IntKind.u64.wrap (IntKind.u64.wrap (256 * (n : Int)) + IntKind.u64.wrap (c.toNat : Int)) = ((n * 256 + c.toNat : Nat) : Int) := by
  have hc : c.toNat < 256 := UInt8.toNat_lt c
  have hp := pow8 hj
  simp only [IntKind.wrap_u64]
  omega
set_option maxHeartbeats 1000000 in
theorem rtake_ok (k : Nat) (hk : Size k) (A : Option Addr) (m c : Nat) (bs : List UInt8) (a : Nat) (w : World) (hb : Bytes w w.heap.size A bs) (hm : m = bs.length) (hl : bs.length ≤ maxLen) (ha : a + k ≤ bs.length) :
    Calls Try.prog 16 #[.slice A m c, .int .i64 (a : Int), .int .i64 (k : Int)] w fun e w' => e = .returned (.tuple #[.int .u64 ((vl ((bs.drop a).take k) : Nat) : Int), .int .i64 ((a : Int) + (k : Int)), .int .i64 0]) ∧ w = w' := by
  unfold maxLen at hl
  have hk8 : k ≤ 8 ∧ 1 ≤ k := by rcases hk with rfl | rfl | rfl | rfl <;> omega
  subst hm
  have d1 : decide ((a : Int) < 0) = false := decide_eq_false (by omega)
  have d2 : decide (bs.length < a) = false := decide_eq_false (by omega)
  have d3 : decide ((bs.length : Int) - (a : Int) < (k : Int)) = false := decide_eq_false (by omega)
  go_enter Try.func16, Try.ntmps16
  go_wp2_with fail
  refine (rsize_yes k hk _).mono ?_
  rintro e w1 ⟨rfl, rfl⟩
  go_wp2_with fail
  clear d1 d2 d3
  go_loop [9, 10] (fun n i => ∃ j : Nat, j ≤ k ∧ i = .int .i64 j ∧ n = .int .u64 ((vl ((bs.drop a).take j) : Nat) : Int)) (fun _ i => k - (intOf i).toNat)
  case atStart => exact ⟨0, by omega, rfl, rfl⟩
  case round =>
    obtain ⟨j, hj, rfl, rfl⟩ := hrel
    by_cases hlt : j < k
    · obtain ⟨b, off, rfl, hB, hc⟩ := hb.at_ (k := a + j) (by omega)
      have hv := vl_lt ((bs.drop a).take j)
      rw [show ((bs.drop a).take j).length = j by simp; omega] at hv
      have hnx := vl_next bs a j (by omega)
      have hor := mul_next (vl ((bs.drop a).take j)) j bs[a + j] hv (by omega)
      rw [hnx] at hor
      have HO := Lib.hid hor
      clear hv hnx hor
      go_wp2_with fail
      go_round
      case rel => exact ⟨j + 1, by omega, by go_num, val_u64 HO.out⟩
      case measure => simp [intOf]; omega
    · obtain rfl : j = k := by omega
      go_wp2
      go_ret3
      exact ⟨rfl, rfl⟩
/-- Take and the document's Take answer the same, and turn nothing. -/
theorem takes_same (bs : List UInt8) (a z : Int) (hl : bs.length ≤ 1099511627776) : ∃ (N : Nat) (P E : Int),
    (∀ (A : Option Addr) (m c : Nat) (w : World), Bytes w w.heap.size A bs → m = bs.length → m ≤ c →
      Calls Try.prog 15 #[.slice A m c, .int .i64 a, .int .i64 z] w fun e w' => e = .returned (.tuple #[.int .u64 (N : Int), .int .i64 P, .int .i64 E]) ∧ w = w') ∧
    (∀ (A : Option Addr) (m c : Nat) (w : World), Bytes w w.heap.size A bs → m = bs.length →
      Calls Try.prog 16 #[.slice A m c, .int .i64 a, .int .i64 z] w fun e w' => e = .returned (.tuple #[.int .u64 (N : Int), .int .i64 P, .int .i64 E]) ∧ w = w') := by
  have hmax : bs.length ≤ maxLen := by unfold maxLen; omega
  cases hg : good z with
  | false =>
    obtain ⟨h1, h2, h4, h8⟩ := not_good hg
    exact ⟨0, 0, 1, fun A m c w _ _ _ => take_size z h1 h2 h4 h8 _ a w, fun A m c w _ _ => rtake_size z h1 h2 h4 h8 _ a w⟩
  | true =>
    obtain ⟨k, hk, rfl⟩ := good_size hg
    by_cases hp : a < 0 ∨ (bs.length : Int) < a
    · exact ⟨0, 0, 1, fun A m c w _ hm _ => take_place k hk A m c a w (by rw [hm]; exact hp), fun A m c w _ hm => rtake_place k hk A m c a w (by rw [hm]; exact hp)⟩
    · obtain ⟨q, rfl⟩ := Int.eq_ofNat_of_zero_le (show 0 ≤ a by omega)
      by_cases hs : bs.length < q + k
      · exact ⟨0, 0, 5, fun A m c w _ hm _ => take_short k hk A m c q w (by omega) (by omega) (by rw [hm]; exact hmax), fun A m c w _ hm => rtake_short k hk A m c q w (by omega) (by omega) (by rw [hm]; exact hmax)⟩
      · exact ⟨_, _, 0, fun A m c w hb hm hc => take_ok k hk A m c bs q w hb hm hc hmax (by omega), fun A m c w hb hm => rtake_ok k hk A m c bs q w hb hm hmax (by omega)⟩
/-- Put and the document's Put answer the same. -/
theorem rput_any (A : Option Addr) (c : Nat) (bs : List UInt8) (n : Nat) (z : Int) (w : World) (hb : Bytes w w.heap.size A bs) (hl : bs.length ≤ 1099511627776) (hn2 : n ≤ 18446744073709551615) :
    Calls Try.prog 14 #[.slice A bs.length c, .int .u64 (n : Int), .int .i64 z] w (Answer w (putB bs n z) (putE n z)) := by
  cases hg : good z with
  | false =>
    obtain ⟨h1, h2, h4, h8⟩ := not_good hg
    have hc : Calls Try.prog 14 #[.slice A bs.length c, .int .u64 (n : Int), .int .i64 z] w fun e w' => e = .returned (.tuple #[.slice none 0 0, .int .i64 1]) ∧ w = w' := by
      clear hg
      go_enter Try.func14, Try.ntmps14
      go_wp2_with fail
      refine (rsize_no z h1 h2 h4 h8 _).mono ?_
      rintro e w1 ⟨rfl, rfl⟩
      go_wp2_with fail
      go_ret2
      exact ⟨rfl, rfl⟩
    refine hc.mono ?_
    rintro e w' ⟨rfl, rfl⟩
    exact ⟨none, 0, 0, by simp [putE, hg], by simp [putB, hg], by simp [putB, hg]; exact no_bytes _ _ _, Below.refl _ _⟩
  | true =>
    obtain ⟨k, hk, rfl⟩ := good_size hg
    by_cases ht : top k < n
    · have hc : Calls Try.prog 14 #[.slice A bs.length c, .int .u64 (n : Int), .int .i64 (k : Int)] w fun e w' => e = .returned (.tuple #[.slice none 0 0, .int .i64 6]) ∧ w = w' := by
        rcases hk with rfl | rfl | rfl | rfl
        · exact rput_many1 _ n w ht
        · exact rput_many2 _ n w ht
        · exact rput_many4 _ n w ht
        · exfalso; unfold top at ht; omega
      refine hc.mono ?_
      rintro e w' ⟨rfl, rfl⟩
      exact ⟨none, 0, 0, by simp [putE, hg, ht], by simp [putB, hg, ht], by simp [putB, hg, ht]; exact no_bytes _ _ _, Below.refl _ _⟩
    · have hc : Calls Try.prog 14 #[.slice A bs.length c, .int .u64 (n : Int), .int .i64 (k : Int)] w fun e w' => ∃ A' m' c', e = .returned (.tuple #[.slice A' m' c', .int .i64 0]) ∧ m' = (bs ++ be k n).length ∧ OwnB w' w.heap.size 5 (.slice A' m' c') (bs ++ be k n) ∧ Below w.heap.size w w' := by
        rcases hk with rfl | rfl | rfl | rfl
        · exact rput_ok1 A c bs n w hb hl (by omega) hn2
        · exact rput_ok2 A c bs n w hb hl (by omega) hn2
        · exact rput_ok4 A c bs n w hb hl (by omega) hn2
        · exact rput_ok8 A c bs n w hb hl (by omega) hn2
      refine hc.mono ?_
      rintro e w' ⟨A', m', c', rfl, hm', hown, hbel⟩
      exact ⟨A', m', c', by simp [putE, hg, ht], by simp [putB, hg, ht]; simpa using hm', by simp [putB, hg, ht]; exact (own_open hown).1, hbel⟩
end Go.Proofs.Ytnnhkanjneecjaa
