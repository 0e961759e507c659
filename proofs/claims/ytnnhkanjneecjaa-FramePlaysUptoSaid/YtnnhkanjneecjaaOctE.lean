import Derived.Test.YtnnhkanjneecjaaOctD
namespace Go.Proofs.Ytnnhkanjneecjaa
open Go.RowKit
set_option maxHeartbeats 400000 in
theorem take_place (k : Nat) (hk : Size k) (A : Option Addr) (m c : Nat) (a : Int) (w : World) (ha : a < 0 ∨ (m : Int) < a) :
    Calls Try.prog 15 #[.slice A m c, .int .i64 a, .int .i64 (k : Int)] w fun e w' => e = .returned (.tuple #[.int .u64 0, .int .i64 0, .int .i64 1]) ∧ w = w' := by
  rcases ha with h | h
  · go_enter Try.func15, Try.ntmps15
    go_wp2_with fail
    refine (greatest_yes k hk _).mono ?_
    rintro e w1 ⟨rfl, rfl⟩
    go_wp2_with fail
    go_ret3
    exact ⟨rfl, rfl⟩
  · have h0 : ¬ a < 0 := by omega
    go_enter Try.func15, Try.ntmps15
    go_wp2_with fail
    refine (greatest_yes k hk _).mono ?_
    rintro e w1 ⟨rfl, rfl⟩
    go_wp2_with fail
    go_ret3
    exact ⟨rfl, rfl⟩
set_option maxHeartbeats 400000 in
theorem take_short (k : Nat) (hk : Size k) (A : Option Addr) (m c : Nat) (a : Nat) (w : World) (ha : a ≤ m) (hs : m < a + k) (hm : m ≤ maxLen) :
    Calls Try.prog 15 #[.slice A m c, .int .i64 (a : Int), .int .i64 (k : Int)] w fun e w' => e = .returned (.tuple #[.int .u64 0, .int .i64 0, .int .i64 5]) ∧ w = w' := by
  unfold maxLen at hm
  have h0 : ¬ (a : Int) < 0 := by omega
  have h1 : ¬ (m : Int) < (a : Int) := by omega
  have h2 : (m : Int) - (a : Int) < (k : Int) := by omega
  go_enter Try.func15, Try.ntmps15
  go_wp2_with fail
  refine (greatest_yes k hk _).mono ?_
  rintro e w1 ⟨rfl, rfl⟩
  go_wp2_with fail
  go_ret3
  exact ⟨rfl, rfl⟩
theorem size4 : Size 4 := .inr (.inr (.inl rfl))
set_option maxHeartbeats 400000 in
theorem takeString_place (A : Option Addr) (m c : Nat) (a most : Int) (w : World) (ha : a < 0 ∨ (m : Int) < a) :
    Calls Try.prog 24 #[.slice A m c, .int .i64 a, .int .i64 most] w fun e w' => e = .returned (.tuple #[.slice none 0 0, .int .i64 0, .int .i64 1]) ∧ w = w' := by
  go_enter Try.func24, Try.ntmps24
  go_wp2_with fail
  refine (take_place 4 size4 A m c a _ ha).mono ?_
  rintro e w1 ⟨rfl, rfl⟩
  go_wp2_with fail
  go_ret3
  exact ⟨rfl, rfl⟩
set_option maxHeartbeats 400000 in
theorem takeString_short (A : Option Addr) (m c a : Nat) (most : Int) (w : World) (ha : a ≤ m) (hs : m < a + 4) (hm : m ≤ maxLen) :
    Calls Try.prog 24 #[.slice A m c, .int .i64 (a : Int), .int .i64 most] w fun e w' => e = .returned (.tuple #[.slice none 0 0, .int .i64 0, .int .i64 5]) ∧ w = w' := by
  go_enter Try.func24, Try.ntmps24
  go_wp2_with fail
  refine (take_short 4 size4 A m c a _ ha hs hm).mono ?_
  rintro e w1 ⟨rfl, rfl⟩
  go_wp2_with fail
  go_ret3
  exact ⟨rfl, rfl⟩
/-- the length that stands at a place. -/
def long (bs : List UInt8) (a : Nat) : Nat := vl ((bs.drop a).take 4)
theorem long_lt (bs : List UInt8) (a : Nat) : long bs a ≤ 4294967295 := by
  have h := vl_lt ((bs.drop a).take 4)
  have h2 : 256 ^ ((bs.drop a).take 4).length ≤ 256 ^ 4 := Nat.pow_le_pow_right (by omega) (by rw [List.length_take]; omega)
  have h3 : (256 : Nat) ^ 4 = 4294967296 := by decide
  unfold long; omega
set_option maxHeartbeats 400000 in
theorem takeString_many (A : Option Addr) (m c : Nat) (bs : List UInt8) (a : Nat) (most : Int) (w : World) (hb : Bytes w w.heap.size A bs) (hm : m = bs.length) (hc : m ≤ c) (hl : bs.length ≤ maxLen) (ha : a + 4 ≤ bs.length)
    (hmost : most < ((long bs a : Nat) : Int)) (hlo : -9223372036854775808 ≤ most) :
    Calls Try.prog 24 #[.slice A m c, .int .i64 (a : Int), .int .i64 most] w fun e w' => e = .returned (.tuple #[.slice none 0 0, .int .i64 0, .int .i64 6]) ∧ w = w' := by
  have hln := long_lt bs a
  subst hm
  by_cases h0 : most < 0
  · go_enter Try.func24, Try.ntmps24
    go_wp2_with fail
    refine (take_ok 4 size4 A _ c bs a _ hb rfl hc hl ha).mono ?_
    rintro e w1 ⟨rfl, rfl⟩
    go_wp2_with fail
    go_ret3
    exact ⟨rfl, rfl⟩
  · obtain ⟨q, rfl⟩ := Int.eq_ofNat_of_zero_le (show 0 ≤ most by omega)
    go_enter Try.func24, Try.ntmps24
    go_wp2_with fail
    refine (take_ok 4 size4 A _ c bs a _ hb rfl hc hl ha).mono ?_
    rintro e w1 ⟨rfl, rfl⟩
    rw [show vl ((bs.drop a).take 4) = long bs a from rfl]
    generalize long bs a = n at hmost hln ⊢
    go_wp2_with fail
    go_ret3
    exact ⟨rfl, rfl⟩
set_option maxHeartbeats 400000 in
theorem takeString_bytes (A : Option Addr) (m c : Nat) (bs : List UInt8) (a q : Nat) (w : World) (hb : Bytes w w.heap.size A bs) (hm : m = bs.length) (hc : m ≤ c) (hl : bs.length ≤ maxLen) (ha : a + 4 ≤ bs.length)
    (hmost : long bs a ≤ q) (hq : q ≤ 9223372036854775807) (hsh : bs.length < a + 4 + long bs a) :
    Calls Try.prog 24 #[.slice A m c, .int .i64 (a : Int), .int .i64 (q : Int)] w fun e w' => e = .returned (.tuple #[.slice none 0 0, .int .i64 0, .int .i64 5]) ∧ w = w' := by
  have hln := long_lt bs a
  have hl' := hl
  unfold maxLen at hl'
  subst hm
  go_enter Try.func24, Try.ntmps24
  go_wp2_with fail
  refine (take_ok 4 size4 A _ c bs a _ hb rfl hc hl ha).mono ?_
  rintro e w1 ⟨rfl, rfl⟩
  rw [show vl ((bs.drop a).take 4) = long bs a from rfl]
  generalize long bs a = n at hmost hln hsh ⊢
  go_wp2_with fail
  go_ret3
  exact ⟨rfl, rfl⟩
end Go.Proofs.Ytnnhkanjneecjaa
