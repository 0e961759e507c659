import Derived.Test.YtnnhkanjneecjaaOctN
import Derived.Test.YtnnhkanjneecjaaKitU
import Derived.RegionTactic
namespace Go.Proofs.Ytnnhkanjneecjaa
open Go.RowKit
/-! The law's Vast and Copy. -/
theorem mass_take (l : List (List UInt8)) (k : Nat) (h : k < l.length) : mass (l.take (k + 1)) = mass (l.take k) + l[k].length + 1 := by
  unfold mass; rw [List.take_succ_eq_append_getElem h, List.map_append, List.sum_append]; simp; omega
theorem mass_le (l : List (List UInt8)) (k : Nat) : mass (l.take k) ≤ mass l := by
  have e : mass l = mass (l.take k) + mass (l.drop k) := by unfold mass; rw [← List.sum_append, ← List.map_append, List.take_append_drop]
  omega
theorem mass_len (l : List (List UInt8)) : l.length ≤ mass l := by
  induction l with
  | nil => simp
  | cons s l ih => have e : mass (s :: l) = s.length + 1 + mass l := by simp [mass]
                   rw [e, List.length_cons]; omega
theorem mass_mem (l : List (List UInt8)) : ∀ s ∈ l, s.length < mass l := by
  induction l with
  | nil => intro s hs; cases hs
  | cons t l ih =>
    intro s hs
    have e : mass (t :: l) = t.length + 1 + mass l := by simp [mass]
    rcases List.mem_cons.1 hs with rfl | h
    · omega
    · have := ih s h; omega
set_option maxHeartbeats 1000000 in
theorem ovast_any (A : Option Addr) (n c : Nat) (l : List (List UInt8)) (w : World) (hb : Strs w w.heap.size A l) (hn : n = l.length) (hm : mass l ≤ 1048576) :
    Calls Try.prog 18 #[.slice A n c, .int .i64 4096] w fun e w' => e = .returned (.bool (decide (4096 < mass l))) ∧ w = w' := by
  have hl := mass_len l
  subst hn
  go_enter Try.func18, Try.ntmps18
  go_wp2_with fail
  go_loop [5, 6] (fun t i => ∃ k : Nat, k ≤ l.length ∧ i = .int .i64 k ∧ ∃ s : Nat, s + k = mass (l.take k) ∧ t = .int .i64 ((l.length + s : Nat) : Int)) (fun _ i => l.length - (intOf i).toNat)
  case atStart => exact ⟨0, by omega, rfl, 0, by simp [mass], rfl⟩
  case round =>
    obtain ⟨k, hk, rfl, s, hs, rfl⟩ := hrel
    have hml := mass_le l k
    by_cases hlt : k < l.length
    · obtain ⟨b, off, Ai, ci, rfl, hB, hc, hBi, hli, hmi⟩ := hb.at_ hlt
      have hz := mass_take l k hlt
      have hz2 := mass_le l (k + 1)
      generalize l[k] = z at hc hBi hli hz
      have HZ := Lib.hid hz
      have HS := Lib.hid hs
      have hzl : z.length ≤ 1048576 := by omega
      have hsl : s ≤ 1048576 := by omega
      clear hz hs hz2
      go_wp2_with fail
      go_round
      case rel => exact ⟨k + 1, by omega, by go_num, s + z.length, by rw [HZ.out, ← HS.out]; omega, by go_num⟩
      case measure => simp [intOf]; omega
    · obtain rfl : k = l.length := by omega
      rw [List.take_length] at hs
      have hd : decide ((4096 : Int) < (l.length : Int) + (s : Int)) = decide (4096 < mass l) := by rw [← hs]; exact decide_eq_decide.2 (by omega)
      have HD := Lib.hid hd
      clear hd hs
      go_wp2_with fail
      go_ret
      exact ⟨by rw [HD.out]; rfl, rfl⟩
set_option maxHeartbeats 1000000 in
theorem copy_any (A : Option Addr) (n c : Nat) (l : List (List UInt8)) (w : World) (hb : Strs w w.heap.size A l) (hn : n = l.length) (hm : mass l ≤ 1048576) :
    Calls Try.prog 19 #[.slice A n c] w fun e w' => ∃ A' n' c', e = .returned (.slice A' n' c') ∧ n' = l.length ∧ OwnS w' w.heap.size (.slice A' n' c') l ∧ Below w.heap.size w w' := by
  have hl := mass_len l
  subst hn
  go_enter Try.func19, Try.ntmps19
  go_wp2_with fail
  go_loopw [3, 4] (fun v i wr => ∃ k : Nat, k ≤ l.length ∧ i = .int .i64 k ∧ ∃ A' n' c', v = .slice A' n' c' ∧ Hid (n' = (l.take k).length) ∧ OwnS wr w.heap.size (.slice A' n' c') (l.take k) ∧ Below w.heap.size w wr) (fun _ i _ => l.length - (intOf i).toNat)
  case atStart => exact ⟨0, by omega, rfl, none, 0, 0, rfl, rfl, OwnS.nil_ _ _, Below.refl _ _⟩
  case round =>
    obtain ⟨k, hk, rfl, A1, n1, c1, rfl, e1, hown, hbw⟩ := hrel
    have hsz := hbw.size
    by_cases hlt : k < l.length
    · obtain ⟨b, off, Ai, ci, rfl, hB, hc, hBi, hli, hmi⟩ := ((hb.below hbw).more hsz).at_ hlt
      have hzl := mass_mem l l[k] (List.getElem_mem hlt)
      have htk : l.take (k + 1) = l.take k ++ [l[k]] := by rw [List.take_succ_eq_append_getElem hlt]
      generalize l[k] = z at hc hBi hli hzl htk
      have hlk : (l.take k).length = k := by rw [List.length_take]; omega
      generalize l.take k = lk at e1 hown htk hlk
      have HTK := Lib.hid htk
      clear htk
      have hll : lk.length ≤ 1048576 := by omega
      go_wp2_with (first
        | (at_builtin; refine wpList_ap2 rfl _ _ rfl rfl wr.heap.size (.slice (some ⟨wr.heap.size, 0, none⟩) 0 0) [] z z wr.heap.size Ai z.length ci rfl rfl rfl rfl (OwnB.made wr _ 5 (Nat.le_refl _)) (Reads.alloc hBi (Nat.le_refl _) _) (by simp; omega) wr ((Below.refl _ _).alloc (Nat.le_refl _) _) (by simp) ?_; intro A3 c3 n3 W3 e3 h3 hB3 hl3 hbel3 hs3 hg3; clear hB3 hg3 hl3)
        | (at_builtin; refine wpList_aps rfl _ _ rfl rfl w.heap.size (.slice A1 n1 c1) lk W3.heap.size 1 A3 n3 c3 z rfl rfl (by simp) ((hown.below hbel3).below ((Below.refl _ _).alloc (Nat.le_refl _) _)) (World.ownsRow.alloc (own_less h3 hsz) _) e3.out (by omega) w ((hbw.trans (hbel3.mono hsz)).alloc (Nat.le_trans hsz hs3) _) (by simp; omega) ?_; intro A4 c4 n4 W4 e4 h4 hbel4 hs4))
      go_roundw
      case rel => exact ⟨k + 1, by omega, by go_num, A4, n4, c4, rfl, by rw [HTK.out]; exact e4, by rw [HTK.out]; exact h4, hbel4⟩
      case measure => simp [intOf]; omega
    · obtain rfl : k = l.length := by omega
      rw [List.take_length] at e1 hown
      go_wp2_with fail
      go_ret
      exact ⟨A1, n1, c1, rfl, e1.out, hown, hbw⟩
end Go.Proofs.Ytnnhkanjneecjaa
