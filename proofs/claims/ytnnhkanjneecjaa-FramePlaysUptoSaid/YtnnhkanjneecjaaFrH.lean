import Derived.Test.YtnnhkanjneecjaaFrG
namespace Go.Proofs.Ytnnhkanjneecjaa
open Go.RowKit
/-! both Takes answer the same; the guard at any limit. -/
theorem ftakes_same (bs : List UInt8) (z : Int) (hl : bs.length ≤ 1099511627776) : ∃ (S : List UInt8) (N E : Int),
    (∀ (A : Option Addr) (n c : Nat) (w : World), Bytes w w.heap.size A bs → n = bs.length → n ≤ c → c ≤ maxLen → Calls Try.prog 38 #[.slice A n c, .int .i64 z] w (TakenS w S N E)) ∧
    (∀ (A : Option Addr) (n c : Nat) (w : World), Bytes w w.heap.size A bs → n = bs.length → n ≤ c → c ≤ maxLen → Calls Try.prog 39 #[.slice A n c, .int .i64 z] w (TakenS w S N E)) := by
  have hmx : bs.length ≤ maxLen := by unfold maxLen; omega
  by_cases hz : z < 0 ∨ (bs.length : Int) < z
  · refine ⟨[], 0, 1, fun A n c w hb hn hc hm => ?_, fun A n c w hb hn hc hm => ?_⟩
    · subst hn; exact (ftake_place A _ c z w hz).mono fun e w' h => taken_none h
    · subst hn; exact (rftake_place A _ c z w hz).mono fun e w' h => taken_none h
  · obtain ⟨a, rfl⟩ := Int.eq_ofNat_of_zero_le (show 0 ≤ z by omega)
    have ha : a ≤ bs.length := by omega
    by_cases hok : fok bs a
    · refine ⟨recAt bs a, ((fnx bs a : Nat) : Int), 0, fun A n c w hb hn hc hm => ?_, fun A n c w hb hn hc hm => ?_⟩
      · subst hn; exact ftake_yes A c a bs w hb hc hmx hm hok
      · exact rftake_yes A n c a bs w hb hn hc hmx hm hok
    · refine ⟨[], 0, 5, fun A n c w hb hn hc hm => ?_, fun A n c w hb hn hc hm => ?_⟩
      · subst hn
        refine (ftake_no A c a bs w hb hc hmx hm ha hok).mono ?_
        rintro e w' ⟨rfl, h⟩
        exact ⟨none, 0, 0, rfl, rfl, OwnB.nil_ _ _ _, h⟩
      · refine (rftake_no A n c a bs w hb hn hc hmx hm ha hok).mono ?_
        rintro e w' ⟨rfl, h⟩
        exact ⟨none, 0, 0, rfl, rfl, OwnB.nil_ _ _ _, h⟩
set_option maxHeartbeats 1000000 in
theorem ovastq_any (q : Nat) (hq : q ≤ 1048576) (A : Option Addr) (n c : Nat) (l : List (List UInt8)) (w : World) (hb : Strs w w.heap.size A l) (hn : n = l.length) (hm : mass l ≤ 1048576) :
    Calls Try.prog 18 #[.slice A n c, .int .i64 (q : Int)] w fun e w' => e = .returned (.bool (decide (q < mass l))) ∧ w = w' := by
  have hl := mass_len l
  subst hn
  go_enter Try.func18, Try.ntmps18
  go_wp2_with fail
  go_loop [5, 6] (fun t i => ∃ k : Nat, k ≤ l.length ∧ i = .int .i64 k ∧ ∃ s : Nat, s + k = mass (l.take k) ∧ t = .int .i64 ((l.length + s : Nat) : Int)) (fun _ i => l.length - (intOf i).toNat)
  case atStart => exact ⟨0, by omega, rfl, 0, by simp [mass], rfl⟩
  case round =>
    obtain ⟨k, hk, rfl, s, hs, rfl⟩ := hrel
    have hml := mass_le l k
    by_cases hlt : k < l.length
    · obtain ⟨b, off, Ai, ci, rfl, hB, hc, hBi, hli, hmi⟩ := hb.at_ hlt
      have hz := mass_take l k hlt
      have hz2 := mass_le l (k + 1)
      generalize l[k] = z at hc hBi hli hz
      have HZ := Lib.hid hz
      have HS := Lib.hid hs
      have hzl : z.length ≤ 1048576 := by omega
      have hsl : s ≤ 1048576 := by omega
      clear hz hs hz2
      go_wp2_with fail
      go_round
      case rel => exact ⟨k + 1, by omega, by go_num, s + z.length, by rw [HZ.out, ← HS.out]; omega, by go_num⟩
      case measure => simp [intOf]; omega
    · obtain rfl : k = l.length := by omega
      rw [List.take_length] at hs
      have hd : decide ((q : Int) < (l.length : Int) + (s : Int)) = decide (q < mass l) := by rw [← hs]; exact decide_eq_decide.2 (by omega)
      have HD := Lib.hid hd
      clear hd hs
      go_wp2_with fail
      go_ret
      exact ⟨by rw [HD.out]; rfl, rfl⟩
theorem encF_mass (l : List (List UInt8)) : (encF l).length ≤ 8 * mass l := by
  induction l with
  | nil => simp [encF]
  | cons s l ih =>
    have e2 : mass (s :: l) = s.length + 1 + mass l := by simp [mass]
    rw [encF_cons, List.length_append, fr_len, e2]
    omega
end Go.Proofs.Ytnnhkanjneecjaa
