import Derived.Test.YtnnhkanjneecjaaKit
import Derived.Test.YtnnhkanjneecjaaCrcMath
namespace Go.Proofs.Ytnnhkanjneecjaa
open Go.RowKit
@[go_sem] theorem u32_poly (x : BitVec 32) : bits .xor .u32 (U x) 3988292384 = U (x ^^^ Cm.poly) := u32_xor_bv x Cm.poly
theorem step_yes (x : BitVec 32) (h : bitB x 0 = true) : x >>> 1 ^^^ Cm.poly = Cm.step x := by
  unfold bitB at h; unfold Cm.step; rw [if_pos h]
theorem step_no (x : BitVec 32) (h : bitB x 0 = false) : x >>> 1 = Cm.step x := by
  unfold bitB at h; unfold Cm.step; rw [if_neg (by rw [h]; simp)]
set_option maxHeartbeats 400000 in
theorem byByte_any (s : BitVec 32) (w : World) :
    Calls Try.prog 51 #[.int .u32 (U s)] w fun e w' => e = .returned (.int .u32 (U (Cm.steps 8 s))) ∧ w = w' := by
  go_enter Try.func51, Try.ntmps51
  go_wp2
  go_loop [0, 3, 4] (fun t _ i => ∃ k : Nat, ∃ x : BitVec 32, k ≤ 8 ∧ i = .int .i64 k ∧ t = .int .u32 (U x) ∧ Cm.steps (8 - k) x = Cm.steps 8 s) (fun _ _ i => 8 - (intOf i).toNat)
  case atStart => exact ⟨0, s, by omega, rfl, rfl, rfl⟩
  case round =>
    obtain ⟨k, x, hk, rfl, rfl, hx⟩ := hrel
    have H := Lib.hid hx
    clear hx
    have H2 : k < 8 → Hid (Cm.steps (8 - (k + 1)) (Cm.step x) = Cm.steps 8 s) := fun h => by
      have e := H.out
      rw [show 8 - k = (8 - (k + 1)) + 1 by omega] at e
      exact e
    go_wp2
    · go_round
      case rel => exact ⟨k + 1, Cm.step x, by omega, by go_num, val_U (step_yes x ‹_›), (H2 (by omega)).out⟩
      case measure => simp [intOf]; omega
    · go_round
      case rel => exact ⟨k + 1, Cm.step x, by omega, by go_num, val_U (step_no x ‹_›), (H2 (by omega)).out⟩
      case measure => simp [intOf]; omega
    · go_ret
      refine ⟨ret_U ?_, rfl⟩
      have e := H.out
      rw [show 8 - k = 0 by omega] at e
      rw [← e]; rfl
/-- a state's bytes, each as 32 bits. -/
def wide (bs : List UInt8) : List (BitVec 32) := bs.map fun c => BitVec.ofNat 32 c.toNat
set_option maxHeartbeats 400000 in
theorem more_any (s : BitVec 32) (A : Option Addr) (c : Nat) (bs : List UInt8) (w : World) (hb : Bytes w w.heap.size A bs) (hl : bs.length ≤ maxLen) :
    Calls Try.prog 33 #[.int .u32 (U s), .slice A bs.length c] w fun e w' => e = .returned (.int .u32 (U (~~~ Cm.more (~~~ s) (wide bs)))) ∧ w = w' := by
  unfold maxLen at hl
  go_enter Try.func33, Try.ntmps33
  go_wp2
  go_loop [5, 7, 12] (fun t _ i => ∃ k : Nat, ∃ x : BitVec 32, k ≤ bs.length ∧ i = .int .i64 k ∧ t = .int .u32 (U x) ∧ Cm.more x (wide (bs.drop k)) = Cm.more (~~~ s) (wide bs)) (fun _ _ i => bs.length - (intOf i).toNat)
  case atStart => exact ⟨0, _, by omega, rfl, rfl, rfl⟩
  case round =>
    obtain ⟨k, x, hk, rfl, rfl, hx⟩ := hrel
    have H := Lib.hid hx
    clear hx
    by_cases hlt : k < bs.length
    · obtain ⟨b, off, rfl, hB, hc⟩ := hb.at_ hlt
      have hu : bs[k].toNat < 256 := UInt8.toNat_lt _
      have H2 : Hid (Cm.more (Cm.steps 8 (x ^^^ BitVec.ofNat 32 bs[k].toNat)) (wide (bs.drop (k + 1))) = Cm.more (~~~ s) (wide bs)) := by
        have e := H.out
        rw [List.drop_eq_getElem_cons hlt] at e
        exact e
      go_wp2_with (go_at_call 51; refine (byByte_any _ _).mono ?_; rintro e w' ⟨rfl, rfl⟩)
      go_outline
      go_round
      case rel => exact ⟨k + 1, _, by omega, by go_num, rfl, H2.out⟩
      case measure => simp [intOf]; omega
    · go_wp2
      go_ret
      refine ⟨ret_U ?_, rfl⟩
      have e := H.out
      rw [List.drop_of_length_le (by omega)] at e
      rw [← e]; rfl
end Go.Proofs.Ytnnhkanjneecjaa
