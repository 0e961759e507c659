import Derived.Test.YtnnhkanjneecjaaOctG
namespace Go.Proofs.Ytnnhkanjneecjaa
open Go.RowKit
attribute [local go_sem] nb0 nb1 nb2 nb3 nb4 nb5 nb6 nb7
set_option maxHeartbeats 400000 in
theorem rsize_yes (k : Nat) (h : Size k) (w : World) : Calls Try.prog 48 #[.int .i64 (k : Int)] w fun e w' => e = .returned (.bool true) ∧ w = w' := by
  rcases h with rfl | rfl | rfl | rfl
  · go_enter Try.func48, Try.ntmps48
    go_wp2
    go_ret
    exact ⟨rfl, rfl⟩
  · go_enter Try.func48, Try.ntmps48
    go_wp2
    go_ret
    exact ⟨rfl, rfl⟩
  · go_enter Try.func48, Try.ntmps48
    go_wp2
    go_ret
    exact ⟨rfl, rfl⟩
  · go_enter Try.func48, Try.ntmps48
    go_wp2
    go_ret
    exact ⟨rfl, rfl⟩
set_option maxHeartbeats 400000 in
theorem rsize_no (z : Int) (h1 : ¬ z = 1) (h2 : ¬ z = 2) (h4 : ¬ z = 4) (h8 : ¬ z = 8) (w : World) : Calls Try.prog 48 #[.int .i64 z] w fun e w' => e = .returned (.bool false) ∧ w = w' := by
  have e1 : (z == 1) = false := by simpa using h1
  have e2 : (z == 2) = false := by simpa using h2
  have e4 : (z == 4) = false := by simpa using h4
  have e8 : (z == 8) = false := by simpa using h8
  clear h1 h2 h4 h8
  go_enter Try.func48, Try.ntmps48
  go_wp2
  go_ret
  exact ⟨rfl, rfl⟩
set_option maxHeartbeats 1000000 in
theorem rput_many1 (v : Value) (n : Nat) (w : World) (hn : top 1 < n) :
    Calls Try.prog 14 #[v, .int .u64 (n : Int), .int .i64 1] w fun e w' => e = .returned (.tuple #[.slice none 0 0, .int .i64 6]) ∧ w = w' := by
  have hs : 0 < (n : Int) / 256 := by unfold top at hn; omega
  go_enter Try.func14, Try.ntmps14
  go_wp2_with fail
  refine (rsize_yes 1 (.inl rfl) _).mono ?_
  rintro e w1 ⟨rfl, rfl⟩
  go_wp2_with fail
  go_ret2
  exact ⟨rfl, rfl⟩
set_option maxHeartbeats 1000000 in
theorem rput_many2 (v : Value) (n : Nat) (w : World) (hn : top 2 < n) :
    Calls Try.prog 14 #[v, .int .u64 (n : Int), .int .i64 2] w fun e w' => e = .returned (.tuple #[.slice none 0 0, .int .i64 6]) ∧ w = w' := by
  have hs : 0 < (n : Int) / 65536 := by unfold top at hn; omega
  go_enter Try.func14, Try.ntmps14
  go_wp2_with fail
  refine (rsize_yes 2 (.inr (.inl rfl)) _).mono ?_
  rintro e w1 ⟨rfl, rfl⟩
  go_wp2_with fail
  go_ret2
  exact ⟨rfl, rfl⟩
set_option maxHeartbeats 1000000 in
theorem rput_many4 (v : Value) (n : Nat) (w : World) (hn : top 4 < n) :
    Calls Try.prog 14 #[v, .int .u64 (n : Int), .int .i64 4] w fun e w' => e = .returned (.tuple #[.slice none 0 0, .int .i64 6]) ∧ w = w' := by
  have hs : 0 < (n : Int) / 4294967296 := by unfold top at hn; omega
  go_enter Try.func14, Try.ntmps14
  go_wp2_with fail
  refine (rsize_yes 4 (.inr (.inr (.inl rfl))) _).mono ?_
  rintro e w1 ⟨rfl, rfl⟩
  go_wp2_with fail
  go_ret2
  exact ⟨rfl, rfl⟩
set_option maxHeartbeats 1000000 in
theorem rput_ok1 (A : Option Addr) (c : Nat) (bs : List UInt8) (n : Nat) (w : World) (hb : Bytes w w.heap.size A bs) (hl : bs.length ≤ 1099511627776) (hn : n ≤ top 1) (hn2 : n ≤ 18446744073709551615) :
    Calls Try.prog 14 #[.slice A bs.length c, .int .u64 (n : Int), .int .i64 1] w fun e w' => ∃ A' m' c', e = .returned (.tuple #[.slice A' m' c', .int .i64 0]) ∧ m' = (bs ++ be 1 n).length ∧ OwnB w' w.heap.size 5 (.slice A' m' c') (bs ++ be 1 n) ∧ Below w.heap.size w w' := by
  have hs : decide (0 < (n : Int) / 256) = false := decide_eq_false (by unfold top at hn; omega)
  clear hn
  go_enter Try.func14, Try.ntmps14
  go_wp2_with fail
  refine (rsize_yes 1 (.inl rfl) _).mono ?_
  rintro e w1 ⟨rfl, rfl⟩
  go_wp2_with (at_builtin; refine wpList_ap2 rfl _ _ rfl rfl w.heap.size (.slice (some ⟨w.heap.size, 0, none⟩) 0 0) [] bs bs w.heap.size A bs.length c rfl rfl rfl rfl (OwnB.made w _ 5 (Nat.le_refl _)) (Reads.alloc hb (Nat.le_refl _) _) (by simp; omega) w ((Below.refl _ _).alloc (Nat.le_refl _) _) (by simp) ?_; intro A1 c1 n1 W1 e1 h1 hB1 hl1 hbel1 hs1 hg1; clear hB1 hg1 hl1)
  clear hs
  go_loopw [8, 9] (fun v i wr => ∃ j : Nat, j ≤ 1 ∧ i = .int .i64 (0 - (j : Int)) ∧ ∃ A' m' c', v = .slice A' m' c' ∧ Hid (m' = (bs ++ (be 1 n).take j).length) ∧ OwnB wr w.heap.size 5 (.slice A' m' c') (bs ++ (be 1 n).take j) ∧ Below w.heap.size w wr) (fun _ i _ => (intOf i + 1).toNat)
  case atStart => exact ⟨0, by omega, rfl, A1, n1, c1, rfl, by simpa using e1, by simpa using h1, hbel1⟩
  case round =>
    obtain ⟨j, hj, rfl, A2, m2, c2, rfl, e2, h2, hbw⟩ := hrel
    have hsz := hbw.size
    by_cases hlt : j < 1
    · have hcase : j = 0 := by omega
      rcases hcase with rfl
      · go_wp2_with (at_builtin; refine wpList_ap2 rfl _ _ rfl rfl w.heap.size (.slice A2 m2 c2) (bs ++ (be 1 n).take 0) [nb n 0] (bs ++ (be 1 n).take 1) (wr.alloc (.cells (bv [nb n 0]).toArray 5)).heap.size (some ⟨wr.heap.size, 0, none⟩) 1 1 rfl rfl rfl (by rw [List.append_assoc]; rfl) (World.ownsRow.alloc h2 _) (bytes_const wr [nb n 0] 5 (0, 0)) (by simp [be]; omega) w (Below.alloc hbw hsz _) (by simp; omega) ?_; intro A3 c3 n3 W3 e3 h3 hB3 hl3 hbel3 hs3 hg3; clear hB3 hl3 hg3)
        go_roundw
        case rel => exact ⟨1, by omega, by go_num, A3, n3, c3, rfl, e3, h3, hbel3⟩
        case measure => simp [intOf]
    · obtain rfl : j = 1 := by omega
      go_wp2_with fail
      go_ret2
      exact ⟨A2, m2, c2, rfl, e2.out, h2, hbw⟩
set_option maxHeartbeats 1000000 in
theorem rput_ok2 (A : Option Addr) (c : Nat) (bs : List UInt8) (n : Nat) (w : World) (hb : Bytes w w.heap.size A bs) (hl : bs.length ≤ 1099511627776) (hn : n ≤ top 2) (hn2 : n ≤ 18446744073709551615) :
    Calls Try.prog 14 #[.slice A bs.length c, .int .u64 (n : Int), .int .i64 2] w fun e w' => ∃ A' m' c', e = .returned (.tuple #[.slice A' m' c', .int .i64 0]) ∧ m' = (bs ++ be 2 n).length ∧ OwnB w' w.heap.size 5 (.slice A' m' c') (bs ++ be 2 n) ∧ Below w.heap.size w w' := by
  have hs : decide (0 < (n : Int) / 65536) = false := decide_eq_false (by unfold top at hn; omega)
  clear hn
  go_enter Try.func14, Try.ntmps14
  go_wp2_with fail
  refine (rsize_yes 2 (.inr (.inl rfl)) _).mono ?_
  rintro e w1 ⟨rfl, rfl⟩
  go_wp2_with (at_builtin; refine wpList_ap2 rfl _ _ rfl rfl w.heap.size (.slice (some ⟨w.heap.size, 0, none⟩) 0 0) [] bs bs w.heap.size A bs.length c rfl rfl rfl rfl (OwnB.made w _ 5 (Nat.le_refl _)) (Reads.alloc hb (Nat.le_refl _) _) (by simp; omega) w ((Below.refl _ _).alloc (Nat.le_refl _) _) (by simp) ?_; intro A1 c1 n1 W1 e1 h1 hB1 hl1 hbel1 hs1 hg1; clear hB1 hg1 hl1)
  clear hs
  go_loopw [8, 9] (fun v i wr => ∃ j : Nat, j ≤ 2 ∧ i = .int .i64 (1 - (j : Int)) ∧ ∃ A' m' c', v = .slice A' m' c' ∧ Hid (m' = (bs ++ (be 2 n).take j).length) ∧ OwnB wr w.heap.size 5 (.slice A' m' c') (bs ++ (be 2 n).take j) ∧ Below w.heap.size w wr) (fun _ i _ => (intOf i + 1).toNat)
  case atStart => exact ⟨0, by omega, rfl, A1, n1, c1, rfl, by simpa using e1, by simpa using h1, hbel1⟩
  case round =>
    obtain ⟨j, hj, rfl, A2, m2, c2, rfl, e2, h2, hbw⟩ := hrel
    have hsz := hbw.size
    by_cases hlt : j < 2
    · have hcase : j = 0 ∨ j = 1 := by omega
      rcases hcase with rfl | rfl
      · go_wp2_with (at_builtin; refine wpList_ap2 rfl _ _ rfl rfl w.heap.size (.slice A2 m2 c2) (bs ++ (be 2 n).take 0) [nb n 1] (bs ++ (be 2 n).take 1) (wr.alloc (.cells (bv [nb n 1]).toArray 5)).heap.size (some ⟨wr.heap.size, 0, none⟩) 1 1 rfl rfl rfl (by rw [List.append_assoc]; rfl) (World.ownsRow.alloc h2 _) (bytes_const wr [nb n 1] 5 (0, 0)) (by simp [be]; omega) w (Below.alloc hbw hsz _) (by simp; omega) ?_; intro A3 c3 n3 W3 e3 h3 hB3 hl3 hbel3 hs3 hg3; clear hB3 hl3 hg3)
        go_roundw
        case rel => exact ⟨1, by omega, by go_num, A3, n3, c3, rfl, e3, h3, hbel3⟩
        case measure => simp [intOf]
      · go_wp2_with (at_builtin; refine wpList_ap2 rfl _ _ rfl rfl w.heap.size (.slice A2 m2 c2) (bs ++ (be 2 n).take 1) [nb n 0] (bs ++ (be 2 n).take 2) (wr.alloc (.cells (bv [nb n 0]).toArray 5)).heap.size (some ⟨wr.heap.size, 0, none⟩) 1 1 rfl rfl rfl (by rw [List.append_assoc]; rfl) (World.ownsRow.alloc h2 _) (bytes_const wr [nb n 0] 5 (0, 0)) (by simp [be]; omega) w (Below.alloc hbw hsz _) (by simp; omega) ?_; intro A3 c3 n3 W3 e3 h3 hB3 hl3 hbel3 hs3 hg3; clear hB3 hl3 hg3)
        go_roundw
        case rel => exact ⟨2, by omega, by go_num, A3, n3, c3, rfl, e3, h3, hbel3⟩
        case measure => simp [intOf]
    · obtain rfl : j = 2 := by omega
      go_wp2_with fail
      go_ret2
      exact ⟨A2, m2, c2, rfl, e2.out, h2, hbw⟩
set_option maxHeartbeats 1000000 in
theorem rput_ok4 (A : Option Addr) (c : Nat) (bs : List UInt8) (n : Nat) (w : World) (hb : Bytes w w.heap.size A bs) (hl : bs.length ≤ 1099511627776) (hn : n ≤ top 4) (hn2 : n ≤ 18446744073709551615) :
    Calls Try.prog 14 #[.slice A bs.length c, .int .u64 (n : Int), .int .i64 4] w fun e w' => ∃ A' m' c', e = .returned (.tuple #[.slice A' m' c', .int .i64 0]) ∧ m' = (bs ++ be 4 n).length ∧ OwnB w' w.heap.size 5 (.slice A' m' c') (bs ++ be 4 n) ∧ Below w.heap.size w w' := by
  have hs : decide (0 < (n : Int) / 4294967296) = false := decide_eq_false (by unfold top at hn; omega)
  clear hn
  go_enter Try.func14, Try.ntmps14
  go_wp2_with fail
  refine (rsize_yes 4 (.inr (.inr (.inl rfl))) _).mono ?_
  rintro e w1 ⟨rfl, rfl⟩
  go_wp2_with (at_builtin; refine wpList_ap2 rfl _ _ rfl rfl w.heap.size (.slice (some ⟨w.heap.size, 0, none⟩) 0 0) [] bs bs w.heap.size A bs.length c rfl rfl rfl rfl (OwnB.made w _ 5 (Nat.le_refl _)) (Reads.alloc hb (Nat.le_refl _) _) (by simp; omega) w ((Below.refl _ _).alloc (Nat.le_refl _) _) (by simp) ?_; intro A1 c1 n1 W1 e1 h1 hB1 hl1 hbel1 hs1 hg1; clear hB1 hg1 hl1)
  clear hs
  go_loopw [8, 9] (fun v i wr => ∃ j : Nat, j ≤ 4 ∧ i = .int .i64 (3 - (j : Int)) ∧ ∃ A' m' c', v = .slice A' m' c' ∧ Hid (m' = (bs ++ (be 4 n).take j).length) ∧ OwnB wr w.heap.size 5 (.slice A' m' c') (bs ++ (be 4 n).take j) ∧ Below w.heap.size w wr) (fun _ i _ => (intOf i + 1).toNat)
  case atStart => exact ⟨0, by omega, rfl, A1, n1, c1, rfl, by simpa using e1, by simpa using h1, hbel1⟩
  case round =>
    obtain ⟨j, hj, rfl, A2, m2, c2, rfl, e2, h2, hbw⟩ := hrel
    have hsz := hbw.size
    by_cases hlt : j < 4
    · have hcase : j = 0 ∨ j = 1 ∨ j = 2 ∨ j = 3 := by omega
      rcases hcase with rfl | rfl | rfl | rfl
      · go_wp2_with (at_builtin; refine wpList_ap2 rfl _ _ rfl rfl w.heap.size (.slice A2 m2 c2) (bs ++ (be 4 n).take 0) [nb n 3] (bs ++ (be 4 n).take 1) (wr.alloc (.cells (bv [nb n 3]).toArray 5)).heap.size (some ⟨wr.heap.size, 0, none⟩) 1 1 rfl rfl rfl (by rw [List.append_assoc]; rfl) (World.ownsRow.alloc h2 _) (bytes_const wr [nb n 3] 5 (0, 0)) (by simp [be]; omega) w (Below.alloc hbw hsz _) (by simp; omega) ?_; intro A3 c3 n3 W3 e3 h3 hB3 hl3 hbel3 hs3 hg3; clear hB3 hl3 hg3)
        go_roundw
        case rel => exact ⟨1, by omega, by go_num, A3, n3, c3, rfl, e3, h3, hbel3⟩
        case measure => simp [intOf]
      · go_wp2_with (at_builtin; refine wpList_ap2 rfl _ _ rfl rfl w.heap.size (.slice A2 m2 c2) (bs ++ (be 4 n).take 1) [nb n 2] (bs ++ (be 4 n).take 2) (wr.alloc (.cells (bv [nb n 2]).toArray 5)).heap.size (some ⟨wr.heap.size, 0, none⟩) 1 1 rfl rfl rfl (by rw [List.append_assoc]; rfl) (World.ownsRow.alloc h2 _) (bytes_const wr [nb n 2] 5 (0, 0)) (by simp [be]; omega) w (Below.alloc hbw hsz _) (by simp; omega) ?_; intro A3 c3 n3 W3 e3 h3 hB3 hl3 hbel3 hs3 hg3; clear hB3 hl3 hg3)
        go_roundw
        case rel => exact ⟨2, by omega, by go_num, A3, n3, c3, rfl, e3, h3, hbel3⟩
        case measure => simp [intOf]
      · go_wp2_with (at_builtin; refine wpList_ap2 rfl _ _ rfl rfl w.heap.size (.slice A2 m2 c2) (bs ++ (be 4 n).take 2) [nb n 1] (bs ++ (be 4 n).take 3) (wr.alloc (.cells (bv [nb n 1]).toArray 5)).heap.size (some ⟨wr.heap.size, 0, none⟩) 1 1 rfl rfl rfl (by rw [List.append_assoc]; rfl) (World.ownsRow.alloc h2 _) (bytes_const wr [nb n 1] 5 (0, 0)) (by simp [be]; omega) w (Below.alloc hbw hsz _) (by simp; omega) ?_; intro A3 c3 n3 W3 e3 h3 hB3 hl3 hbel3 hs3 hg3; clear hB3 hl3 hg3)
        go_roundw
        case rel => exact ⟨3, by omega, by go_num, A3, n3, c3, rfl, e3, h3, hbel3⟩
        case measure => simp [intOf]
      · go_wp2_with (at_builtin; refine wpList_ap2 rfl _ _ rfl rfl w.heap.size (.slice A2 m2 c2) (bs ++ (be 4 n).take 3) [nb n 0] (bs ++ (be 4 n).take 4) (wr.alloc (.cells (bv [nb n 0]).toArray 5)).heap.size (some ⟨wr.heap.size, 0, none⟩) 1 1 rfl rfl rfl (by rw [List.append_assoc]; rfl) (World.ownsRow.alloc h2 _) (bytes_const wr [nb n 0] 5 (0, 0)) (by simp [be]; omega) w (Below.alloc hbw hsz _) (by simp; omega) ?_; intro A3 c3 n3 W3 e3 h3 hB3 hl3 hbel3 hs3 hg3; clear hB3 hl3 hg3)
        go_roundw
        case rel => exact ⟨4, by omega, by go_num, A3, n3, c3, rfl, e3, h3, hbel3⟩
        case measure => simp [intOf]
    · obtain rfl : j = 4 := by omega
      go_wp2_with fail
      go_ret2
      exact ⟨A2, m2, c2, rfl, e2.out, h2, hbw⟩
set_option maxHeartbeats 1000000 in
theorem rput_ok8 (A : Option Addr) (c : Nat) (bs : List UInt8) (n : Nat) (w : World) (hb : Bytes w w.heap.size A bs) (hl : bs.length ≤ 1099511627776) (hn : n ≤ top 8) (hn2 : n ≤ 18446744073709551615) :
    Calls Try.prog 14 #[.slice A bs.length c, .int .u64 (n : Int), .int .i64 8] w fun e w' => ∃ A' m' c', e = .returned (.tuple #[.slice A' m' c', .int .i64 0]) ∧ m' = (bs ++ be 8 n).length ∧ OwnB w' w.heap.size 5 (.slice A' m' c') (bs ++ be 8 n) ∧ Below w.heap.size w w' := by
  go_enter Try.func14, Try.ntmps14
  go_wp2_with fail
  refine (rsize_yes 8 (.inr (.inr (.inr rfl))) _).mono ?_
  rintro e w1 ⟨rfl, rfl⟩
  go_wp2_with (at_builtin; refine wpList_ap2 rfl _ _ rfl rfl w.heap.size (.slice (some ⟨w.heap.size, 0, none⟩) 0 0) [] bs bs w.heap.size A bs.length c rfl rfl rfl rfl (OwnB.made w _ 5 (Nat.le_refl _)) (Reads.alloc hb (Nat.le_refl _) _) (by simp; omega) w ((Below.refl _ _).alloc (Nat.le_refl _) _) (by simp) ?_; intro A1 c1 n1 W1 e1 h1 hB1 hl1 hbel1 hs1 hg1; clear hB1 hg1 hl1)
  clear hn
  go_loopw [8, 9] (fun v i wr => ∃ j : Nat, j ≤ 8 ∧ i = .int .i64 (7 - (j : Int)) ∧ ∃ A' m' c', v = .slice A' m' c' ∧ Hid (m' = (bs ++ (be 8 n).take j).length) ∧ OwnB wr w.heap.size 5 (.slice A' m' c') (bs ++ (be 8 n).take j) ∧ Below w.heap.size w wr) (fun _ i _ => (intOf i + 1).toNat)
  case atStart => exact ⟨0, by omega, rfl, A1, n1, c1, rfl, by simpa using e1, by simpa using h1, hbel1⟩
  case round =>
    obtain ⟨j, hj, rfl, A2, m2, c2, rfl, e2, h2, hbw⟩ := hrel
    have hsz := hbw.size
    by_cases hlt : j < 8
    · have hcase : j = 0 ∨ j = 1 ∨ j = 2 ∨ j = 3 ∨ j = 4 ∨ j = 5 ∨ j = 6 ∨ j = 7 := by omega
      rcases hcase with rfl | rfl | rfl | rfl | rfl | rfl | rfl | rfl
      · have h7 : (n : Int) / 72057594037927936 = ((nb n 7).toNat : Int) := by rw [← nb7]; omega
        go_wp2_with (at_builtin; refine wpList_ap2 rfl _ _ rfl rfl w.heap.size (.slice A2 m2 c2) (bs ++ (be 8 n).take 0) [nb n 7] (bs ++ (be 8 n).take 1) (wr.alloc (.cells (bv [nb n 7]).toArray 5)).heap.size (some ⟨wr.heap.size, 0, none⟩) 1 1 rfl rfl rfl (by rw [List.append_assoc]; rfl) (World.ownsRow.alloc h2 _) (bytes_const wr [nb n 7] 5 (0, 0)) (by simp [be]; omega) w (Below.alloc hbw hsz _) (by simp; omega) ?_; intro A3 c3 n3 W3 e3 h3 hB3 hl3 hbel3 hs3 hg3; clear hB3 hl3 hg3)
        go_roundw
        case rel => exact ⟨1, by omega, by go_num, A3, n3, c3, rfl, e3, h3, hbel3⟩
        case measure => simp [intOf]
      · go_wp2_with (at_builtin; refine wpList_ap2 rfl _ _ rfl rfl w.heap.size (.slice A2 m2 c2) (bs ++ (be 8 n).take 1) [nb n 6] (bs ++ (be 8 n).take 2) (wr.alloc (.cells (bv [nb n 6]).toArray 5)).heap.size (some ⟨wr.heap.size, 0, none⟩) 1 1 rfl rfl rfl (by rw [List.append_assoc]; rfl) (World.ownsRow.alloc h2 _) (bytes_const wr [nb n 6] 5 (0, 0)) (by simp [be]; omega) w (Below.alloc hbw hsz _) (by simp; omega) ?_; intro A3 c3 n3 W3 e3 h3 hB3 hl3 hbel3 hs3 hg3; clear hB3 hl3 hg3)
        go_roundw
        case rel => exact ⟨2, by omega, by go_num, A3, n3, c3, rfl, e3, h3, hbel3⟩
        case measure => simp [intOf]
      · go_wp2_with (at_builtin; refine wpList_ap2 rfl _ _ rfl rfl w.heap.size (.slice A2 m2 c2) (bs ++ (be 8 n).take 2) [nb n 5] (bs ++ (be 8 n).take 3) (wr.alloc (.cells (bv [nb n 5]).toArray 5)).heap.size (some ⟨wr.heap.size, 0, none⟩) 1 1 rfl rfl rfl (by rw [List.append_assoc]; rfl) (World.ownsRow.alloc h2 _) (bytes_const wr [nb n 5] 5 (0, 0)) (by simp [be]; omega) w (Below.alloc hbw hsz _) (by simp; omega) ?_; intro A3 c3 n3 W3 e3 h3 hB3 hl3 hbel3 hs3 hg3; clear hB3 hl3 hg3)
        go_roundw
        case rel => exact ⟨3, by omega, by go_num, A3, n3, c3, rfl, e3, h3, hbel3⟩
        case measure => simp [intOf]
      · go_wp2_with (at_builtin; refine wpList_ap2 rfl _ _ rfl rfl w.heap.size (.slice A2 m2 c2) (bs ++ (be 8 n).take 3) [nb n 4] (bs ++ (be 8 n).take 4) (wr.alloc (.cells (bv [nb n 4]).toArray 5)).heap.size (some ⟨wr.heap.size, 0, none⟩) 1 1 rfl rfl rfl (by rw [List.append_assoc]; rfl) (World.ownsRow.alloc h2 _) (bytes_const wr [nb n 4] 5 (0, 0)) (by simp [be]; omega) w (Below.alloc hbw hsz _) (by simp; omega) ?_; intro A3 c3 n3 W3 e3 h3 hB3 hl3 hbel3 hs3 hg3; clear hB3 hl3 hg3)
        go_roundw
        case rel => exact ⟨4, by omega, by go_num, A3, n3, c3, rfl, e3, h3, hbel3⟩
        case measure => simp [intOf]
      · go_wp2_with (at_builtin; refine wpList_ap2 rfl _ _ rfl rfl w.heap.size (.slice A2 m2 c2) (bs ++ (be 8 n).take 4) [nb n 3] (bs ++ (be 8 n).take 5) (wr.alloc (.cells (bv [nb n 3]).toArray 5)).heap.size (some ⟨wr.heap.size, 0, none⟩) 1 1 rfl rfl rfl (by rw [List.append_assoc]; rfl) (World.ownsRow.alloc h2 _) (bytes_const wr [nb n 3] 5 (0, 0)) (by simp [be]; omega) w (Below.alloc hbw hsz _) (by simp; omega) ?_; intro A3 c3 n3 W3 e3 h3 hB3 hl3 hbel3 hs3 hg3; clear hB3 hl3 hg3)
        go_roundw
        case rel => exact ⟨5, by omega, by go_num, A3, n3, c3, rfl, e3, h3, hbel3⟩
        case measure => simp [intOf]
      · go_wp2_with (at_builtin; refine wpList_ap2 rfl _ _ rfl rfl w.heap.size (.slice A2 m2 c2) (bs ++ (be 8 n).take 5) [nb n 2] (bs ++ (be 8 n).take 6) (wr.alloc (.cells (bv [nb n 2]).toArray 5)).heap.size (some ⟨wr.heap.size, 0, none⟩) 1 1 rfl rfl rfl (by rw [List.append_assoc]; rfl) (World.ownsRow.alloc h2 _) (bytes_const wr [nb n 2] 5 (0, 0)) (by simp [be]; omega) w (Below.alloc hbw hsz _) (by simp; omega) ?_; intro A3 c3 n3 W3 e3 h3 hB3 hl3 hbel3 hs3 hg3; clear hB3 hl3 hg3)
        go_roundw
        case rel => exact ⟨6, by omega, by go_num, A3, n3, c3, rfl, e3, h3, hbel3⟩
        case measure => simp [intOf]
      · go_wp2_with (at_builtin; refine wpList_ap2 rfl _ _ rfl rfl w.heap.size (.slice A2 m2 c2) (bs ++ (be 8 n).take 6) [nb n 1] (bs ++ (be 8 n).take 7) (wr.alloc (.cells (bv [nb n 1]).toArray 5)).heap.size (some ⟨wr.heap.size, 0, none⟩) 1 1 rfl rfl rfl (by rw [List.append_assoc]; rfl) (World.ownsRow.alloc h2 _) (bytes_const wr [nb n 1] 5 (0, 0)) (by simp [be]; omega) w (Below.alloc hbw hsz _) (by simp; omega) ?_; intro A3 c3 n3 W3 e3 h3 hB3 hl3 hbel3 hs3 hg3; clear hB3 hl3 hg3)
        go_roundw
        case rel => exact ⟨7, by omega, by go_num, A3, n3, c3, rfl, e3, h3, hbel3⟩
        case measure => simp [intOf]
      · go_wp2_with (at_builtin; refine wpList_ap2 rfl _ _ rfl rfl w.heap.size (.slice A2 m2 c2) (bs ++ (be 8 n).take 7) [nb n 0] (bs ++ (be 8 n).take 8) (wr.alloc (.cells (bv [nb n 0]).toArray 5)).heap.size (some ⟨wr.heap.size, 0, none⟩) 1 1 rfl rfl rfl (by rw [List.append_assoc]; rfl) (World.ownsRow.alloc h2 _) (bytes_const wr [nb n 0] 5 (0, 0)) (by simp [be]; omega) w (Below.alloc hbw hsz _) (by simp; omega) ?_; intro A3 c3 n3 W3 e3 h3 hB3 hl3 hbel3 hs3 hg3; clear hB3 hl3 hg3)
        go_roundw
        case rel => exact ⟨8, by omega, by go_num, A3, n3, c3, rfl, e3, h3, hbel3⟩
        case measure => simp [intOf]
    · obtain rfl : j = 8 := by omega
      go_wp2_with fail
      go_ret2
      exact ⟨A2, m2, c2, rfl, e2.out, h2, hbw⟩
end Go.Proofs.Ytnnhkanjneecjaa
