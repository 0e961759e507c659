import Derived.Test.YtjihbjjekhncaaaOcA
namespace Go.Proofs.Ytjihbjjekhncaaa
open Go.RowKit

/-- the byte j of a number, the lowest one is 0; its first k bytes, the highest ahead. -/
def nb (n j : Nat) : UInt8 := UInt8.ofNat (n / 256 ^ j)
def be (k n : Nat) : List UInt8 := (List.range k).reverse.map (nb n)
theorem be_len (k n : Nat) : (be k n).length = k := by simp [be]
theorem nb_nat (n j : Nat) : (nb n j).toNat = n / 256 ^ j % 256 := by simp [nb]
theorem nb0 (n : Nat) : (n : Int) % 256 = ((nb n 0).toNat : Int) := by rw [nb_nat]; simp
theorem nb1 (n : Nat) : (n : Int) / 256 % 256 = ((nb n 1).toNat : Int) := by rw [nb_nat]; simp
theorem nb2 (n : Nat) : (n : Int) / 65536 % 256 = ((nb n 2).toNat : Int) := by rw [nb_nat]; simp
theorem nb3 (n : Nat) : (n : Int) / 16777216 % 256 = ((nb n 3).toNat : Int) := by rw [nb_nat]; simp
theorem nb4 (n : Nat) : (n : Int) / 4294967296 % 256 = ((nb n 4).toNat : Int) := by rw [nb_nat]; simp
theorem nb5 (n : Nat) : (n : Int) / 1099511627776 % 256 = ((nb n 5).toNat : Int) := by rw [nb_nat]; simp
theorem nb6 (n : Nat) : (n : Int) / 281474976710656 % 256 = ((nb n 6).toNat : Int) := by rw [nb_nat]; simp
theorem nb7 (n : Nat) : (n : Int) / 72057594037927936 % 256 = ((nb n 7).toNat : Int) := by rw [nb_nat]; simp
attribute [local go_sem] nb0 nb1 nb2 nb3 nb4 nb5 nb6 nb7
set_option maxHeartbeats 1000000 in
theorem behind1 (A : Option Addr) (m c : Nat) (bs : List UInt8) (n base : Nat) (w : World) (h0 : OwnB w base 5 (.slice A m c) bs) (hb : base ≤ w.heap.size) (hl : bs.length ≤ 140737488355000) (hn : n ≤ 18446744073709551615) :
    Calls Try.prog 101 #[.slice A m c, .int .u64 (n : Int), .int .i64 1] w fun e w' => ∃ A' m' c', e = .returned (.slice A' m' c') ∧ OwnB w' base 5 (.slice A' m' c') (bs ++ be 1 n) ∧ m' = (bs ++ be 1 n).length ∧ Below base w w' ∧ base ≤ w'.heap.size := by
  go_enter Try.func101, Try.ntmps101
  go_wp2_with (first
    | (at_builtin; refine wpList_ap2 rfl _ _ rfl rfl base (.slice A m c) bs [nb n 0] (bs ++ [nb n 0]) (w.alloc (.cells (bv [nb n 0]).toArray 5)).heap.size (some ⟨w.heap.size, 0, none⟩) 1 1 rfl rfl rfl rfl (World.ownsRow.alloc h0 _) (bytes_const w [nb n 0] 5 (0, 0)) (by simp; omega) w (Below.alloc (Below.refl base w) hb _) (by simp; omega) ?_; intro A1 c1 n1 W1 e1 h1 hB1 hl1 hbel1 hs1 hg1; clear hB1 hg1))
  go_ret
  have e : bs ++ be 1 n = (bs ++ [nb n 0]) := by simp [be, List.range_succ, List.range_zero]
  rw [e]
  exact ⟨A1, n1, c1, rfl, h1, e1.out, hbel1, hs1⟩
set_option maxHeartbeats 1000000 in
theorem behind2 (A : Option Addr) (m c : Nat) (bs : List UInt8) (n base : Nat) (w : World) (h0 : OwnB w base 5 (.slice A m c) bs) (hb : base ≤ w.heap.size) (hl : bs.length ≤ 140737488355000) (hn : n ≤ 18446744073709551615) :
    Calls Try.prog 101 #[.slice A m c, .int .u64 (n : Int), .int .i64 2] w fun e w' => ∃ A' m' c', e = .returned (.slice A' m' c') ∧ OwnB w' base 5 (.slice A' m' c') (bs ++ be 2 n) ∧ m' = (bs ++ be 2 n).length ∧ Below base w w' ∧ base ≤ w'.heap.size := by
  go_enter Try.func101, Try.ntmps101
  go_wp2_with (first
    | (at_builtin; refine wpList_ap2 rfl _ _ rfl rfl base (.slice A m c) bs [nb n 1] (bs ++ [nb n 1]) (w.alloc (.cells (bv [nb n 1]).toArray 5)).heap.size (some ⟨w.heap.size, 0, none⟩) 1 1 rfl rfl rfl rfl (World.ownsRow.alloc h0 _) (bytes_const w [nb n 1] 5 (0, 0)) (by simp; omega) w (Below.alloc (Below.refl base w) hb _) (by simp; omega) ?_; intro A1 c1 n1 W1 e1 h1 hB1 hl1 hbel1 hs1 hg1; clear hB1 hg1)
    | (at_builtin; refine wpList_ap2 rfl _ _ rfl rfl base (.slice A1 n1 c1) (bs ++ [nb n 1]) [nb n 0] ((bs ++ [nb n 1]) ++ [nb n 0]) (W1.alloc (.cells (bv [nb n 0]).toArray 5)).heap.size (some ⟨W1.heap.size, 0, none⟩) 1 1 rfl rfl rfl rfl (World.ownsRow.alloc h1 _) (bytes_const W1 [nb n 0] 5 (0, 0)) (by simp; omega) w (Below.alloc hbel1 hs1 _) (by simp; omega) ?_; intro A2 c2 n2 W2 e2 h2 hB2 hl2 hbel2 hs2 hg2; clear hB2 hg2))
  go_ret
  have e : bs ++ be 2 n = ((bs ++ [nb n 1]) ++ [nb n 0]) := by simp [be, List.range_succ, List.range_zero]
  rw [e]
  exact ⟨A2, n2, c2, rfl, h2, e2.out, hbel2, hs2⟩
set_option maxHeartbeats 1000000 in
theorem behind4 (A : Option Addr) (m c : Nat) (bs : List UInt8) (n base : Nat) (w : World) (h0 : OwnB w base 5 (.slice A m c) bs) (hb : base ≤ w.heap.size) (hl : bs.length ≤ 140737488355000) (hn : n ≤ 18446744073709551615) :
    Calls Try.prog 101 #[.slice A m c, .int .u64 (n : Int), .int .i64 4] w fun e w' => ∃ A' m' c', e = .returned (.slice A' m' c') ∧ OwnB w' base 5 (.slice A' m' c') (bs ++ be 4 n) ∧ m' = (bs ++ be 4 n).length ∧ Below base w w' ∧ base ≤ w'.heap.size := by
  go_enter Try.func101, Try.ntmps101
  go_wp2_with (first
    | (at_builtin; refine wpList_ap2 rfl _ _ rfl rfl base (.slice A m c) bs [nb n 3, nb n 2] (bs ++ [nb n 3, nb n 2]) (w.alloc (.cells (bv [nb n 3, nb n 2]).toArray 5)).heap.size (some ⟨w.heap.size, 0, none⟩) 2 2 rfl rfl rfl rfl (World.ownsRow.alloc h0 _) (bytes_const w [nb n 3, nb n 2] 5 (0, 0)) (by simp; omega) w (Below.alloc (Below.refl base w) hb _) (by simp; omega) ?_; intro A1 c1 n1 W1 e1 h1 hB1 hl1 hbel1 hs1 hg1; clear hB1 hg1)
    | (at_builtin; refine wpList_ap2 rfl _ _ rfl rfl base (.slice A1 n1 c1) (bs ++ [nb n 3, nb n 2]) [nb n 1] ((bs ++ [nb n 3, nb n 2]) ++ [nb n 1]) (W1.alloc (.cells (bv [nb n 1]).toArray 5)).heap.size (some ⟨W1.heap.size, 0, none⟩) 1 1 rfl rfl rfl rfl (World.ownsRow.alloc h1 _) (bytes_const W1 [nb n 1] 5 (0, 0)) (by simp; omega) w (Below.alloc hbel1 hs1 _) (by simp; omega) ?_; intro A2 c2 n2 W2 e2 h2 hB2 hl2 hbel2 hs2 hg2; clear hB2 hg2)
    | (at_builtin; refine wpList_ap2 rfl _ _ rfl rfl base (.slice A2 n2 c2) ((bs ++ [nb n 3, nb n 2]) ++ [nb n 1]) [nb n 0] (((bs ++ [nb n 3, nb n 2]) ++ [nb n 1]) ++ [nb n 0]) (W2.alloc (.cells (bv [nb n 0]).toArray 5)).heap.size (some ⟨W2.heap.size, 0, none⟩) 1 1 rfl rfl rfl rfl (World.ownsRow.alloc h2 _) (bytes_const W2 [nb n 0] 5 (0, 0)) (by simp; omega) w (Below.alloc hbel2 hs2 _) (by simp; omega) ?_; intro A3 c3 n3 W3 e3 h3 hB3 hl3 hbel3 hs3 hg3; clear hB3 hg3))
  go_ret
  have e : bs ++ be 4 n = (((bs ++ [nb n 3, nb n 2]) ++ [nb n 1]) ++ [nb n 0]) := by simp [be, List.range_succ, List.range_zero]
  rw [e]
  exact ⟨A3, n3, c3, rfl, h3, e3.out, hbel3, hs3⟩
set_option maxHeartbeats 1000000 in
theorem behind8 (A : Option Addr) (m c : Nat) (bs : List UInt8) (n base : Nat) (w : World) (h0 : OwnB w base 5 (.slice A m c) bs) (hb : base ≤ w.heap.size) (hl : bs.length ≤ 140737488355000) (hn : n ≤ 18446744073709551615) :
    Calls Try.prog 101 #[.slice A m c, .int .u64 (n : Int), .int .i64 8] w fun e w' => ∃ A' m' c', e = .returned (.slice A' m' c') ∧ OwnB w' base 5 (.slice A' m' c') (bs ++ be 8 n) ∧ m' = (bs ++ be 8 n).length ∧ Below base w w' ∧ base ≤ w'.heap.size := by
  have h7 : (n : Int) / 72057594037927936 = ((nb n 7).toNat : Int) := by rw [← nb7]; omega
  go_enter Try.func101, Try.ntmps101
  go_wp2_with (first
    | (at_builtin; refine wpList_ap2 rfl _ _ rfl rfl base (.slice A m c) bs [nb n 7, nb n 6, nb n 5, nb n 4] (bs ++ [nb n 7, nb n 6, nb n 5, nb n 4]) (w.alloc (.cells (bv [nb n 7, nb n 6, nb n 5, nb n 4]).toArray 5)).heap.size (some ⟨w.heap.size, 0, none⟩) 4 4 rfl rfl rfl rfl (World.ownsRow.alloc h0 _) (bytes_const w [nb n 7, nb n 6, nb n 5, nb n 4] 5 (0, 0)) (by simp; omega) w (Below.alloc (Below.refl base w) hb _) (by simp; omega) ?_; intro A1 c1 n1 W1 e1 h1 hB1 hl1 hbel1 hs1 hg1; clear hB1 hg1)
    | (at_builtin; refine wpList_ap2 rfl _ _ rfl rfl base (.slice A1 n1 c1) (bs ++ [nb n 7, nb n 6, nb n 5, nb n 4]) [nb n 3, nb n 2] ((bs ++ [nb n 7, nb n 6, nb n 5, nb n 4]) ++ [nb n 3, nb n 2]) (W1.alloc (.cells (bv [nb n 3, nb n 2]).toArray 5)).heap.size (some ⟨W1.heap.size, 0, none⟩) 2 2 rfl rfl rfl rfl (World.ownsRow.alloc h1 _) (bytes_const W1 [nb n 3, nb n 2] 5 (0, 0)) (by simp; omega) w (Below.alloc hbel1 hs1 _) (by simp; omega) ?_; intro A2 c2 n2 W2 e2 h2 hB2 hl2 hbel2 hs2 hg2; clear hB2 hg2)
    | (at_builtin; refine wpList_ap2 rfl _ _ rfl rfl base (.slice A2 n2 c2) ((bs ++ [nb n 7, nb n 6, nb n 5, nb n 4]) ++ [nb n 3, nb n 2]) [nb n 1] (((bs ++ [nb n 7, nb n 6, nb n 5, nb n 4]) ++ [nb n 3, nb n 2]) ++ [nb n 1]) (W2.alloc (.cells (bv [nb n 1]).toArray 5)).heap.size (some ⟨W2.heap.size, 0, none⟩) 1 1 rfl rfl rfl rfl (World.ownsRow.alloc h2 _) (bytes_const W2 [nb n 1] 5 (0, 0)) (by simp; omega) w (Below.alloc hbel2 hs2 _) (by simp; omega) ?_; intro A3 c3 n3 W3 e3 h3 hB3 hl3 hbel3 hs3 hg3; clear hB3 hg3)
    | (at_builtin; refine wpList_ap2 rfl _ _ rfl rfl base (.slice A3 n3 c3) (((bs ++ [nb n 7, nb n 6, nb n 5, nb n 4]) ++ [nb n 3, nb n 2]) ++ [nb n 1]) [nb n 0] ((((bs ++ [nb n 7, nb n 6, nb n 5, nb n 4]) ++ [nb n 3, nb n 2]) ++ [nb n 1]) ++ [nb n 0]) (W3.alloc (.cells (bv [nb n 0]).toArray 5)).heap.size (some ⟨W3.heap.size, 0, none⟩) 1 1 rfl rfl rfl rfl (World.ownsRow.alloc h3 _) (bytes_const W3 [nb n 0] 5 (0, 0)) (by simp; omega) w (Below.alloc hbel3 hs3 _) (by simp; omega) ?_; intro A4 c4 n4 W4 e4 h4 hB4 hl4 hbel4 hs4 hg4; clear hB4 hg4))
  go_ret
  have e : bs ++ be 8 n = ((((bs ++ [nb n 7, nb n 6, nb n 5, nb n 4]) ++ [nb n 3, nb n 2]) ++ [nb n 1]) ++ [nb n 0]) := by simp [be, List.range_succ, List.range_zero]
  rw [e]
  exact ⟨A4, n4, c4, rfl, h4, e4.out, hbel4, hs4⟩

theorem behind_any (k : Nat) (hk : Size k) (A : Option Addr) (m c : Nat) (bs : List UInt8) (n base : Nat) (w : World) (h0 : OwnB w base 5 (.slice A m c) bs) (hb : base ≤ w.heap.size) (hl : bs.length ≤ 140737488355000) (hn : n ≤ 18446744073709551615) :
    Calls Try.prog 101 #[.slice A m c, .int .u64 (n : Int), .int .i64 (k : Int)] w fun e w' => ∃ A' m' c', e = .returned (.slice A' m' c') ∧ OwnB w' base 5 (.slice A' m' c') (bs ++ be k n) ∧ m' = (bs ++ be k n).length ∧ Below base w w' ∧ base ≤ w'.heap.size := by
  rcases hk with rfl | rfl | rfl | rfl
  · exact behind1 A m c bs n base w h0 hb hl hn
  · exact behind2 A m c bs n base w h0 hb hl hn
  · exact behind4 A m c bs n base w h0 hb hl hn
  · exact behind8 A m c bs n base w h0 hb hl hn
/-- what a call hands back: bytes of its own. -/
def Made (w : World) (bs : List UInt8) (v : Value) (w' : World) : Prop := ∃ A n c, v = .slice A n c ∧ n = bs.length ∧ OwnB w' w.heap.size 5 (.slice A n c) bs ∧ Bytes w' w'.heap.size A bs ∧ Below w.heap.size w w'
set_option maxHeartbeats 1000000 in
theorem put_ok (k : Nat) (hk : Size k) (A : Option Addr) (m c : Nat) (bs : List UInt8) (n : Nat) (w : World) (hb : Bytes w w.heap.size A bs) (hm : m = bs.length) (hl : bs.length ≤ 1099511627776) (hn : n ≤ top k) (hn2 : n ≤ 18446744073709551615) :
    Calls Try.prog 94 #[.slice A m c, .int .u64 (n : Int), .int .i64 (k : Int)] w fun e w' => ∃ A' m' c', e = .returned (.tuple #[.slice A' m' c', .int .i64 0]) ∧ m' = (bs ++ be k n).length ∧ OwnB w' w.heap.size 5 (.slice A' m' c') (bs ++ be k n) ∧ Below w.heap.size w w' := by
  have hk8 : k ≤ 8 := by rcases hk with rfl | rfl | rfl | rfl <;> omega
  have ht : ¬ ((top k : Nat) : Int) < (n : Int) := by omega
  subst hm
  go_enter Try.func94, Try.ntmps94
  go_wp2_with fail
  refine (greatest_yes k hk _).mono ?_
  rintro e w1 ⟨rfl, rfl⟩
  go_wp2_with fail
  refine (fresh_any A c bs k _ hb (by omega)).mono ?_
  rintro e w1 ⟨rfl, hown, hbel⟩
  have hs := hbel.size
  go_wp2_with fail
  refine (behind_any k hk _ _ _ bs n w.heap.size w1 hown hs (by omega) hn2).mono ?_
  rintro e w2 ⟨A', m', c', rfl, hown2, hm2, hbel2, hs2⟩
  have HM := Lib.hid hm2
  clear hm2
  go_wp2_with fail
  go_ret2
  exact ⟨A', m', c', rfl, HM.out, hown2, hbel.trans hbel2⟩
end Go.Proofs.Ytjihbjjekhncaaa
