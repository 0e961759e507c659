import Derived.Test.YtjihbjjekhncaaaOcB
namespace Go.Proofs.Ytjihbjjekhncaaa
open Go.RowKit

/-- the number whose bytes these are. -/
def vl (bs : List UInt8) : Nat := bs.foldl (fun n c => n * 256 + c.toNat) 0
theorem vl_snoc (bs : List UInt8) (c : UInt8) : vl (bs ++ [c]) = vl bs * 256 + c.toNat := by simp [vl]
theorem vl_acc (bs : List UInt8) : ∀ n, bs.foldl (fun n c => n * 256 + c.toNat) n < (n + 1) * 256 ^ bs.length := by
  induction bs with
  | nil => intro n; simp
  | cons c l ih =>
    intro n
    have h := ih (n * 256 + c.toNat)
    have hc : c.toNat < 256 := UInt8.toNat_lt c
    rw [List.foldl_cons, List.length_cons, Nat.pow_succ, ← Nat.mul_assoc, Nat.mul_right_comm]
    refine Nat.lt_of_lt_of_le h (Nat.mul_le_mul_right _ (by omega))
theorem vl_lt (bs : List UInt8) : vl bs < 256 ^ bs.length := by
  have := vl_acc bs 0
  simpa [vl] using this
theorem pow8 {j : Nat} (h : j < 8) : 256 ^ j * 256 ≤ 18446744073709551616 := by
  have h1 : 256 ^ j ≤ 256 ^ 7 := Nat.pow_le_pow_right (by omega) (by omega)
  have h2 : (256 : Nat) ^ 7 = 72057594037927936 := by decide
  omega
theorem or_next (n j : Nat) (c : UInt8) (h : n < 256 ^ j) (hj : j < 8) :
    bits .or .u64 (IntKind.u64.wrap ((n : Int) * 256)) (IntKind.u64.wrap (c.toNat : Int)) = ((n * 256 + c.toNat : Nat) : Int) := by
  have hc : c.toNat < 256 := UInt8.toNat_lt c
  have hp := pow8 hj
  have e1 : IntKind.u64.wrap ((n : Int) * 256) = ((n * 256 : Nat) : Int) := by rw [IntKind.wrap_u64]; omega
  have e2 : IntKind.u64.wrap (c.toNat : Int) = (c.toNat : Int) := by rw [IntKind.wrap_u64]; omega
  rw [e1, e2, u64_or_nat _ _ (by omega) (by omega)]
  congr 1
  have := Nat.two_pow_add_eq_or_of_lt (i := 8) (b := c.toNat) (by omega) n
  rw [Nat.mul_comm n 256]
  exact this.symm
theorem vl_next (bs : List UInt8) (a j : Nat) (h : a + j < bs.length) : vl ((bs.drop a).take j) * 256 + bs[a + j].toNat = vl ((bs.drop a).take (j + 1)) := by
  rw [List.take_succ_eq_append_getElem (by simp; omega), vl_snoc]; simp
theorem val_u64 {a b : Int} (h : a = b) : Value.int .u64 a = .int .u64 b := by rw [h]
set_option maxHeartbeats 400000 in
theorem take_size (z : Int) (h1 : ¬ z = 1) (h2 : ¬ z = 2) (h4 : ¬ z = 4) (h8 : ¬ z = 8) (v : Value) (a : Int) (w : World) :
    Calls Try.prog 91 #[v, .int .i64 a, .int .i64 z] w fun e w' => e = .returned (.tuple #[.int .u64 0, .int .i64 0, .int .i64 1]) ∧ w = w' := by
  go_enter Try.func91, Try.ntmps91
  go_wp2_with fail
  refine (greatest_no z h1 h2 h4 h8 _).mono ?_
  rintro e w1 ⟨rfl, rfl⟩
  go_wp2_with fail
  go_ret3
  exact ⟨rfl, rfl⟩
set_option maxHeartbeats 400000 in
theorem take_ok (k : Nat) (hk : Size k) (A : Option Addr) (m c : Nat) (bs : List UInt8) (a : Nat) (w : World) (hb : Bytes w w.heap.size A bs) (hm : m = bs.length) (hc : m ≤ c) (hl : bs.length ≤ maxLen) (ha : a + k ≤ bs.length) :
    Calls Try.prog 91 #[.slice A m c, .int .i64 (a : Int), .int .i64 (k : Int)] w fun e w' => e = .returned (.tuple #[.int .u64 ((vl ((bs.drop a).take k) : Nat) : Int), .int .i64 ((a : Int) + (k : Int)), .int .i64 0]) ∧ w = w' := by
  unfold maxLen at hl
  have hk8 : k ≤ 8 ∧ 1 ≤ k := by rcases hk with rfl | rfl | rfl | rfl <;> omega
  subst hm
  obtain ⟨b, off, rfl, hB, _⟩ := hb.at_ (k := a) (by omega)
  have hadd : (⟨b, off, none⟩ : Addr).add a = ⟨b, off + a, none⟩ := by unfold Addr.add; split <;> simp_all
  have hak : a + k - a = k := by omega
  have d1 : decide ((a : Int) < 0) = false := decide_eq_false (by omega)
  have d2 : decide (bs.length < a) = false := decide_eq_false (by omega)
  have d3 : decide ((bs.length : Int) - (a : Int) < (k : Int)) = false := decide_eq_false (by omega)
  go_enter Try.func91, Try.ntmps91
  go_wp2_with fail
  refine (greatest_yes k hk _).mono ?_
  rintro e w1 ⟨rfl, rfl⟩
  go_wp2_with fail
  clear hadd hak d1 d2 d3
  go_loop [6, 12, 43] (fun n _ i => ∃ j : Nat, j ≤ k ∧ i = .int .i64 j ∧ n = .int .u64 ((vl ((bs.drop a).take j) : Nat) : Int)) (fun _ _ i => k - (intOf i).toNat)
  case atStart => exact ⟨0, by omega, rfl, rfl⟩
  case round =>
    obtain ⟨j, hj, rfl, rfl⟩ := hrel
    by_cases hlt : j < k
    · obtain ⟨b', off', he, _, hc⟩ := hb.at_ (k := a + j) (by omega)
      injection he with he
      injection he with h1 h2
      subst h1 h2
      rw [← Nat.add_assoc] at hc
      have hv := vl_lt ((bs.drop a).take j)
      rw [show ((bs.drop a).take j).length = j by simp; omega] at hv
      have hnx := vl_next bs a j (by omega)
      have hor := or_next (vl ((bs.drop a).take j)) j bs[a + j] hv (by omega)
      rw [hnx] at hor
      have HO := Lib.hid hor
      clear hv hnx hor
      go_wp2_with fail
      go_round
      case rel => exact ⟨j + 1, by omega, by go_num, val_u64 HO.out⟩
      case measure => simp [intOf]; omega
    · obtain rfl : j = k := by omega
      go_wp2
      go_ret3
      exact ⟨rfl, rfl⟩
end Go.Proofs.Ytjihbjjekhncaaa
