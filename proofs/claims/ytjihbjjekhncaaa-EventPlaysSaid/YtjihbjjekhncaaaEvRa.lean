import Derived.Test.YtjihbjjekhncaaaPlanF
namespace Go.Proofs.Ytjihbjjekhncaaa
open Go.RowKit
/-! leatref08: a number's bytes, and bytes' number. -/
set_option maxHeartbeats 400000 in
theorem number_any (A : Option Addr) (m c : Nat) (bs : List UInt8) (a : Nat) (w : World) (hb : Bytes w w.heap.size A bs) (hm : m = bs.length) (hl : m ≤ 1099511627776) (ha : a + 8 ≤ bs.length) :
    Calls Try.prog 56 #[.slice A m c, .int .i64 (a : Int)] w fun e w' => e = .returned (.int .u64 ((vl ((bs.drop a).take 8) : Nat) : Int)) ∧ w = w' := by
  subst hm
  obtain ⟨b, off, rfl, hB, _⟩ := hb.at_ (k := a) (by omega)
  go_enter Try.func56, Try.ntmps56
  go_wp2_with fail
  go_loop [5, 6] (fun n i => ∃ j : Nat, j ≤ 8 ∧ i = .int .i64 j ∧ n = .int .u64 ((vl ((bs.drop a).take j) : Nat) : Int)) (fun _ i => 8 - (intOf i).toNat)
  case atStart => exact ⟨0, by omega, rfl, rfl⟩
  case round =>
    obtain ⟨j, hj, rfl, rfl⟩ := hrel
    by_cases hlt : j < 8
    · obtain ⟨b', off', he, _, hc⟩ := hb.at_ (k := a + j) (by omega)
      injection he with he
      injection he with h1 h2
      subst h1 h2
      have hv := vl_lt ((bs.drop a).take j)
      rw [show ((bs.drop a).take j).length = j by simp; omega] at hv
      have hnx := vl_next bs a j (by omega)
      have hor := or_next (vl ((bs.drop a).take j)) j bs[a + j] hv (by omega)
      rw [hnx] at hor
      have HO := Lib.hid hor
      clear hv hnx hor
      go_wp2_with fail
      go_round
      case rel => exact ⟨j + 1, by omega, by go_num, val_u64 HO.out⟩
      case measure => simp [intOf]; omega
    · obtain rfl : j = 8 := by omega
      go_wp2_with fail
      go_ret
      exact ⟨rfl, rfl⟩
set_option maxRecDepth 100000 in
theorem word_any (x : Nat) (hx : x ≤ 18446744073709551615) (w : World) :
    Calls Try.prog 64 #[.int .u64 (x : Int)] w fun e w' => ∃ A n c, e = .returned (.slice A n c) ∧ n = (be 8 x).length ∧ OwnB w' w.heap.size 5 (.slice A n c) (be 8 x) ∧ Below w.heap.size w w' := by
  rw [be8_eq]
  go_enter Try.func64, Try.ntmps64
  go_wp2_with fail
  go_loopw [3, 4] (fun v i wr => ∃ (j n : Nat) (z : Int) (A : Option Addr) (c : Nat), j ≤ 8 ∧ i = .int .i64 z ∧ z = 56 - 8 * (j : Int) ∧ v = .slice A n c ∧ OwnB wr w.heap.size 5 (.slice A n c) ((be8 x).take j) ∧ Hid (n = ((be8 x).take j).length) ∧ Below w.heap.size w wr) (fun _ i _ => (intOf i + 8).toNat)
  case atStart => exact ⟨0, 0, _, none, 0, by omega, rfl, rfl, rfl, OwnB.nil_ _ _ _, rfl, Below.refl _ _⟩
  case round =>
    obtain ⟨j, m, z, A', c', hj, rfl, hz, rfl, hown, hm, hbw⟩ := hrel
    have hsz := hbw.size
    by_cases hj8 : j < 8
    · obtain ⟨s, hs⟩ : ∃ s : Nat, s = 56 - 8 * j := ⟨_, rfl⟩
      obtain rfl : z = (s : Int) := by omega
      have BST := Lib.hid (be8_step x j hj8)
      rw [← hs] at BST
      have HZ := Lib.hid hz
      have hs0 : (0 : Int) ≤ (s : Int) := by omega
      have hmin : min s 64 = s := by omega
      have hs2 : (s : Int) < 9223372036854775808 := by omega
      clear hs hz
      have hby := byte_of x s
      have hpl : ((be8 x).take j).length ≤ 8 := by rw [List.length_take, be8_len]; omega
      generalize UInt8.ofNat (x / 2 ^ s % 256) = y at BST hby
      generalize (be8 x).take j = P at hown hm hpl BST
      go_wp2_with (at_builtin; refine wpList_apB rfl _ _ rfl rfl w.heap.size (.slice A' m c') P [y] (P ++ [y]) (wr.alloc (.cells (bv [y]).toArray 5)).heap.size (some ⟨wr.heap.size, 0, none⟩) 1 1 rfl rfl rfl rfl (World.ownsRow.alloc hown _) (bytes_const wr [y] 5 (0, 0)) (by simp; omega) w (Below.alloc hbw hsz _) (by simp; omega) ?_; intro A1 c1 n1 W1 e1 h1 hl1 hbel1 hs1 hg1; clear hl1 hg1)
      go_roundw
      case rel => exact ⟨j + 1, n1, _, A1, c1, by omega, rfl, by have := HZ.out; omega, rfl, by rw [BST.out]; exact h1, by show _ = _; rw [e1.out, BST.out], hbel1⟩
      case measure => simp [intOf]; omega
    · obtain rfl : j = 8 := by omega
      obtain rfl : z = -8 := by omega
      rw [show (be8 x).take 8 = be8 x from rfl] at hown hm
      have VF := Lib.hid hbw
      clear hz hj8 hbw
      go_wp2_with fail
      go_ret
      exact ⟨A', m, c', rfl, hm.out, hown, VF.out⟩
end Go.Proofs.Ytjihbjjekhncaaa
