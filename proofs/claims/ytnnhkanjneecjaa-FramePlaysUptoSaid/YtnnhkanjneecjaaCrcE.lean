import Derived.Test.YtnnhkanjneecjaaCrcS
import Derived.Deep.WholeRow
import Derived.Laws.Tables
import Derived.Test.YtnnhkanjneecjaaKitB
namespace Go.Proofs.Ytnnhkanjneecjaa
open Go.RowKit
/-! the document's answer for the sum: bit by bit. -/
theorem u32_and1 (x : BitVec 32) : bits .and .u32 (U x) 1 = U (x &&& 1#32) := u32_and_bv x 1#32
theorem u32_is1 (a y : BitVec 32) : (U (a &&& 1#32 ^^^ y &&& 1#32) == 1) = bitB (a ^^^ (y &&& 1#32)) 0 := by
  have e : (a &&& 1#32 ^^^ y &&& 1#32) = (a ^^^ (y &&& 1#32)) &&& 1#32 := by
    apply BitVec.eq_of_getLsbD_eq
    intro i hi
    simp only [BitVec.getLsbD_xor, BitVec.getLsbD_and]
    cases (1#32).getLsbD i <;> simp
  rw [e, low_one]
  unfold bitB
  cases (a ^^^ (y &&& 1#32)).getLsbD 0 <;> rfl
theorem shr_and1 (a y : BitVec 32) : (a ^^^ (y &&& 1#32)) >>> 1 = a >>> 1 := by
  apply BitVec.eq_of_getLsbD_eq
  intro i hi
  simp only [BitVec.getLsbD_ushiftRight, BitVec.getLsbD_xor, BitVec.getLsbD_and]
  have : (1#32).getLsbD (1 + i) = false := by
    show Nat.testBit (1 % 2 ^ 32) (1 + i) = false
    rw [show (1 % 2 ^ 32 : Nat) = 1 from rfl, Nat.add_comm, Nat.testBit_succ]; simp
  rw [this]; simp
theorem rstep_yes (a y : BitVec 32) (h : bitB (a ^^^ (y &&& 1#32)) 0 = true) : a >>> 1 ^^^ Cm.poly = Cm.step (a ^^^ (y &&& 1#32)) := by
  rw [← step_yes _ h, shr_and1]
theorem rstep_no (a y : BitVec 32) (h : bitB (a ^^^ (y &&& 1#32)) 0 = false) : a >>> 1 = Cm.step (a ^^^ (y &&& 1#32)) := by
  rw [← step_no _ h, shr_and1]
attribute [local go_sem] u32_and1 u32_is1
set_option maxHeartbeats 400000 in
theorem rstep_any (a y : BitVec 32) (w : World) :
    Calls Try.prog 52 #[.int .u32 (U a), .int .u32 (U (y &&& 1#32))] w fun e w' => e = .returned (.int .u32 (U (Cm.step (a ^^^ (y &&& 1#32))))) ∧ w = w' := by
  go_enter Try.func52, Try.ntmps52
  go_wp2
  · go_ret
    exact ⟨ret_U (rstep_yes a y ‹_›), rfl⟩
  · go_ret
    exact ⟨ret_U (rstep_no a y ‹_›), rfl⟩
theorem byte_bit (c : UInt8) (k : Nat) : bits .and .u32 ((c.toNat : Int) / (2 : Int) ^ k % 4294967296) 1 = U (BitVec.ofNat 32 c.toNat >>> k &&& 1#32) := by
  have hc : c.toNat < 256 := UInt8.toNat_lt c
  have h : (c.toNat : Int) / (2 : Int) ^ k = U (BitVec.ofNat 32 c.toNat >>> k) := by rw [← u32_shr, U_lit _ (by omega)]
  have hb := U_bd (BitVec.ofNat 32 c.toNat >>> k)
  rw [h, show U (BitVec.ofNat 32 c.toNat >>> k) % 4294967296 = U (BitVec.ofNat 32 c.toNat >>> k) by omega, u32_and1]
theorem bits_done (x : BitVec 32) (z : UInt8) (y : BitVec 32) (h : Cm.steps (8 - 8) (y ^^^ (BitVec.ofNat 32 z.toNat >>> 8)) = Cm.steps 8 (x ^^^ BitVec.ofNat 32 z.toNat)) : y = Cm.steps 8 (x ^^^ BitVec.ofNat 32 z.toNat) := by
  have hc : z.toNat < 256 := UInt8.toNat_lt z
  have e : BitVec.ofNat 32 z.toNat >>> 8 = 0#32 := by
    apply BitVec.eq_of_toNat_eq
    rw [BitVec.toNat_ushiftRight, Nat.shiftRight_eq_div_pow, BitVec.toNat_ofNat, Nat.mod_eq_of_lt (by omega)]
    show z.toNat / 256 = 0
    omega
  rw [e] at h
  rw [← h]; simp [Cm.steps]
attribute [local go_sem] byte_bit
set_option maxHeartbeats 400000 in
theorem rmore_any (s : BitVec 32) (A : Option Addr) (c : Nat) (bs : List UInt8) (w : World) (hb : Bytes w w.heap.size A bs) (hl : bs.length ≤ maxLen) :
    Calls Try.prog 34 #[.int .u32 (U s), .slice A bs.length c] w fun e w' => e = .returned (.int .u32 (U (~~~ Cm.more (~~~ s) (wide bs)))) ∧ w = w' := by
  unfold maxLen at hl
  go_enter Try.func34, Try.ntmps34
  go_wp2
  go_loop [5, 6, 7] (fun t i _ => ∃ k : Nat, ∃ x : BitVec 32, k ≤ bs.length ∧ i = .int .i64 k ∧ t = .int .u32 (U x) ∧ Cm.more x (wide (bs.drop k)) = Cm.more (~~~ s) (wide bs)) (fun _ i _ => bs.length - (intOf i).toNat)
  case atStart => exact ⟨0, _, by omega, rfl, rfl, rfl⟩
  case round =>
    obtain ⟨k, x, hk, rfl, rfl, hx⟩ := hrel
    have H := Lib.hid hx
    clear hx
    by_cases hlt : k < bs.length
    · obtain ⟨b, off, rfl, hB, hc⟩ := hb.at_ hlt
      have hu : bs[k].toNat < 256 := UInt8.toNat_lt _
      have H2 : Hid (Cm.more (Cm.steps 8 (x ^^^ BitVec.ofNat 32 bs[k].toNat)) (wide (bs.drop (k + 1))) = Cm.more (~~~ s) (wide bs)) := by
        have e := H.out
        rw [List.drop_eq_getElem_cons hlt] at e
        exact e
      clear H
      generalize bs[k] = z at hc hu H2
      go_wp2_with fail
      go_loop [5, 7] (fun t i => ∃ j : Nat, ∃ y : BitVec 32, j ≤ 8 ∧ i = .int .i64 j ∧ t = .int .u32 (U y) ∧ Cm.steps (8 - j) (y ^^^ (BitVec.ofNat 32 z.toNat >>> j)) = Cm.steps 8 (x ^^^ BitVec.ofNat 32 z.toNat)) (fun _ i => 8 - (intOf i).toNat)
      case atStart => exact ⟨0, _, by omega, rfl, rfl, by simp⟩
      case round =>
        obtain ⟨j, y, hj, rfl, rfl, hy⟩ := hrel
        have HY := Lib.hid hy
        clear hy
        by_cases hj8 : j < 8
        · go_wp2_with (go_at_call 52; refine (rstep_any _ _ _).mono ?_; rintro e w' ⟨rfl, rfl⟩)
          go_round
          case rel => exact ⟨j + 1, _, by omega, by go_num, rfl, Cm.bits_left _ _ j _ HY.out hj8⟩
          case measure => simp [intOf]; omega
        · obtain rfl : j = 8 := by omega
          go_wp2_with fail
          go_round
          case rel => exact ⟨k + 1, _, by omega, by go_num, rfl, by rw [bits_done x z y HY.out]; exact H2.out⟩
          case measure => simp [intOf]; omega
    · go_wp2
      go_ret
      refine ⟨ret_U ?_, rfl⟩
      have e := H.out
      rw [List.drop_of_length_le (by omega)] at e
      rw [← e]; rfl
set_option maxHeartbeats 400000 in
theorem rsum_any (A : Option Addr) (c : Nat) (bs : List UInt8) (w : World) (hb : Bytes w w.heap.size A bs) (hl : bs.length ≤ maxLen) :
    Calls Try.prog 32 #[.slice A bs.length c] w fun e w' => e = .returned (.int .u32 (U (~~~ Cm.more (~~~ 0#32) (wide bs)))) ∧ w = w' := by
  go_enter Try.func32, Try.ntmps32
  go_wp2_with fail
  refine (rmore_any 0#32 A c bs _ hb hl).mono ?_
  rintro e w1 ⟨rfl, rfl⟩
  go_wp2_with fail
  go_ret
  exact ⟨rfl, rfl⟩
theorem info5 : (Try.prog.info? 5).map (fun i => (i.zero, i.size, i.bytes)) = some (some (.int .u8 0), 1, 1) := by kernel_rfl
/-- append of bytes, at the program's types. -/
theorem app_any (w : World) (base : Nat) (v : Value) (xs ys : List UInt8) (hown : OwnB w base 5 v xs) (B : Nat) (A : Option Addr) (c : Nat) (hr : Bytes w B A ys)
    (hlen : xs.length + ys.length ≤ 140737488355328) (hbase : base ≤ w.heap.size) :
    ∃ v' w', (Builtin.append_ #[22, 22] 22 #[v, .slice A ys.length c]).run Try.prog w = .ok v' w' ∧ OwnB w' base 5 v' (xs ++ ys) ∧ w.grownBy w' v.ownBlock ∧ (v'.ownBlock = v.ownBlock ∨ v'.ownBlock = some w.heap.size) := by
  obtain ⟨i, hi, hz, hs, hby⟩ := info_parts info5
  exact run_app w base 22 22 5 i Try.underlying22 hi hz hs hby v xs ys hown B A c hr hlen hbase
theorem str_any (w : World) (B : Nat) (A : Option Addr) (c : Nat) (bs : List UInt8) (hr : Bytes w B A bs) : (convert 22 9 (.slice A bs.length c)).run Try.prog w = .ok (.string (strB bs)) w :=
  run_str w 22 9 5 Try.underlying22 Try.underlying5 Try.underlying9 B A c bs hr
theorem make_any (w : World) (k : Nat) (hk : k ≤ 281474976710656) : (Instr.makeSlice 22 (.int .i64 (k : Int)) (.int .i64 (k : Int))).run Try.prog w = .ok (.slice (some ⟨w.heap.size, 0, none⟩) k k) (w.alloc (.cells (bv (List.replicate k 0)).toArray 5)) := by
  obtain ⟨i, hi, hz, hs, hby⟩ := info_parts info5
  exact run_make_zero w 22 5 i Try.underlying22 hi hz hs hby k hk
theorem rmore_zero (s : BitVec 32) (A : Option Addr) (k : Nat) (w : World) (hb : Bytes w w.heap.size A (List.replicate k 0)) (hl : k ≤ maxLen) :
    Calls Try.prog 34 #[.int .u32 (U s), .slice A k k] w fun e w' => e = .returned (.int .u32 (U (~~~ Cm.steps (8 * k) (~~~ s)))) ∧ w = w' := by
  have h := rmore_any s A k (List.replicate k 0) w hb (by simpa using hl)
  rw [List.length_replicate, show wide (List.replicate k 0) = List.replicate k 0#32 by simp [wide], Cm.more_noughts] at h
  exact h
/-- 'vast', both ways. -/
theorem vast_any (A : Option Addr) (n c : Nat) (w : World) : Calls Try.prog 29 #[.slice A n c] w fun e w' => e = .returned (.bool (decide (4096 < n))) ∧ w = w' := by
  go_enter Try.func29, Try.ntmps29
  by_cases h : 4096 < n
  · have h' : (4096 : Int) < (n : Int) := by omega
    go_wp2
    go_ret
    exact ⟨by simp [h], rfl⟩
  · have h' : ¬ (4096 : Int) < (n : Int) := by omega
    go_wp2
    go_ret
    exact ⟨by simp [h], rfl⟩
theorem vast_yes (A : Option Addr) (n c : Nat) (w : World) (h : 4096 < n) : Calls Try.prog 29 #[.slice A n c] w fun e w' => e = .returned (.bool true) ∧ w = w' := by
  refine (vast_any A n c w).mono ?_
  rintro e w' ⟨he, hw⟩
  exact ⟨by rw [he, decide_eq_true h], hw⟩
theorem vast_no (A : Option Addr) (n c : Nat) (w : World) (h : ¬ 4096 < n) : Calls Try.prog 29 #[.slice A n c] w fun e w' => e = .returned (.bool false) ∧ w = w' := by
  refine (vast_any A n c w).mono ?_
  rintro e w' ⟨he, hw⟩
  exact ⟨by rw [he, decide_eq_false h], hw⟩
end Go.Proofs.Ytnnhkanjneecjaa
