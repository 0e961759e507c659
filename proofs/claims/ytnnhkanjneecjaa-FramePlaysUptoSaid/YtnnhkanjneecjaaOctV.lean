import Derived.Test.YtnnhkanjneecjaaOctU
import Derived.Test.YtnnhkanjneecjaaOctI
import Derived.RegionTactic
namespace Go.Proofs.Ytnnhkanjneecjaa
open Go.RowKit
/-! The document's PutString, Strings, TakeString. -/
set_option maxHeartbeats 1000000 in
theorem rputString_ok (A B : Option Addr) (m c l d : Nat) (bs ss : List UInt8) (w : World) (hb : Bytes w w.heap.size A bs) (hm : m = bs.length) (hs : Bytes w w.heap.size B ss) (hls : l = ss.length) (hl : bs.length ≤ 1099511627776) (hl2 : ss.length ≤ 4194304) :
    Calls Try.prog 21 #[.slice A m c, .slice B l d] w (Answer w (bs ++ be 4 ss.length ++ ss) 0) := by
  subst hm hls
  go_enter Try.func21, Try.ntmps21
  go_wp2_with fail
  refine (rput_ok4 A c bs ss.length _ hb hl (by unfold top; omega) (by omega)).mono ?_
  rintro e w1 ⟨A', m', c', rfl, hm', hown, hbel⟩
  have hs1 := hbel.size
  have hss := (Reads.below hs hbel)
  have HM := Lib.hid hm'
  clear hm'
  go_wp2_with (at_builtin; refine wpList_ap2 rfl _ _ rfl rfl w.heap.size (.slice A' m' c') (bs ++ be 4 ss.length) ss (bs ++ be 4 ss.length ++ ss) w.heap.size B ss.length d rfl rfl rfl rfl hown hss (by simp [be_len]; omega) w hbel hs1 ?_; intro A1 c1 n1 W1 e1 h1 hB1 hl1 hbel1 hs1 hg1; clear hg1)
  go_ret2
  exact ⟨A1, n1, c1, rfl, e1.out, hB1, hbel1⟩
set_option maxHeartbeats 1000000 in
theorem rstrings_ok (A : Option Addr) (m c : Nat) (l : List (List UInt8)) (w : World) (hb : Strs w w.heap.size A l) (hm : m = l.length) (hmax : l.length ≤ maxLen) (hl : ∀ s ∈ l, s.length ≤ 4194304) (hsum : (enc l).length ≤ 137438953472) :
    Calls Try.prog 23 #[.slice A m c] w (Answer w (enc l) 0) := by
  subst hm
  unfold maxLen at hmax
  go_enter Try.func23, Try.ntmps23
  go_wp2_with fail
  go_loopw [4, 5] (fun v i wr => ∃ k : Nat, k ≤ l.length ∧ i = .int .i64 k ∧ ∃ A n c, v = .slice A n c ∧ Hid (n = (enc (l.take k)).length) ∧ Bytes wr wr.heap.size A (enc (l.take k)) ∧ Below w.heap.size w wr) (fun _ i _ => l.length - (intOf i).toNat)
  case atStart => exact ⟨0, by omega, rfl, none, 0, 0, rfl, rfl, no_bytes _ _ _, Below.refl _ _⟩
  case round =>
    obtain ⟨k, hk, rfl, A1, n1, c1, rfl, HN, hby, hbw⟩ := hrel
    have hsz := hbw.size
    by_cases hlt : k < l.length
    · obtain ⟨b, off, Ai, ci, rfl, hB, hcw, hBw, hli, hmi⟩ := hb.at_ hlt
      have hc := (hbw.cell (p := ⟨b, off + k, none⟩) hB).trans hcw
      have hBi := Reads.more (Reads.below hBw hbw) hsz
      have hz := hl l[k] (List.getElem_mem hlt)
      have hen := enc_take l k hlt
      have hpre := enc_prefix l k
      generalize l[k] = z at hc hBi hli hz hen hcw hBw
      have HE := Lib.hid hen
      clear hen hcw
      go_wp2_with fail
      refine (rputString_ok A1 Ai n1 c1 z.length ci (enc (l.take k)) z wr hby HN.out hBi rfl (by omega) hz).mono ?_
      rintro e w2 ⟨A', m', c', rfl, hm2, hB2, hbel2⟩
      rw [HE.out] at hB2 hm2
      have HM := Lib.hid hm2
      clear hm2
      go_wp2_with fail
      go_roundw
      case rel => exact ⟨k + 1, by omega, by go_num, A', m', c', rfl, HM.out, hB2, hbw.trans (hbel2.mono hsz)⟩
      case measure => simp [intOf]; omega
    · obtain rfl : k = l.length := by omega
      rw [List.take_length] at hby
      have hn2 := HN.out
      rw [List.take_length] at hn2
      have HN2 := Lib.hid hn2
      clear HN hn2
      go_wp2_with fail
      go_ret2
      exact ⟨A1, n1, c1, rfl, HN2.out, hby, hbw⟩
set_option maxHeartbeats 400000 in
theorem rtakeString_place (A : Option Addr) (m c : Nat) (a most : Int) (w : World) (ha : a < 0 ∨ (m : Int) < a) :
    Calls Try.prog 25 #[.slice A m c, .int .i64 a, .int .i64 most] w fun e w' => e = .returned (.tuple #[.slice none 0 0, .int .i64 0, .int .i64 1]) ∧ w = w' := by
  go_enter Try.func25, Try.ntmps25
  go_wp2_with fail
  refine (rtake_place 4 size4 A m c a _ ha).mono ?_
  rintro e w1 ⟨rfl, rfl⟩
  go_wp2_with fail
  go_ret3
  exact ⟨rfl, rfl⟩
set_option maxHeartbeats 400000 in
theorem rtakeString_short (A : Option Addr) (m c a : Nat) (most : Int) (w : World) (ha : a ≤ m) (hs : m < a + 4) (hm : m ≤ maxLen) :
    Calls Try.prog 25 #[.slice A m c, .int .i64 (a : Int), .int .i64 most] w fun e w' => e = .returned (.tuple #[.slice none 0 0, .int .i64 0, .int .i64 5]) ∧ w = w' := by
  go_enter Try.func25, Try.ntmps25
  go_wp2_with fail
  refine (rtake_short 4 size4 A m c a _ ha hs hm).mono ?_
  rintro e w1 ⟨rfl, rfl⟩
  go_wp2_with fail
  go_ret3
  exact ⟨rfl, rfl⟩
set_option maxHeartbeats 400000 in
theorem rtakeString_many (A : Option Addr) (m c : Nat) (bs : List UInt8) (a : Nat) (most : Int) (w : World) (hb : Bytes w w.heap.size A bs) (hm : m = bs.length) (hl : bs.length ≤ maxLen) (ha : a + 4 ≤ bs.length)
    (hmost : most < ((long bs a : Nat) : Int)) (hlo : -9223372036854775808 ≤ most) :
    Calls Try.prog 25 #[.slice A m c, .int .i64 (a : Int), .int .i64 most] w fun e w' => e = .returned (.tuple #[.slice none 0 0, .int .i64 0, .int .i64 6]) ∧ w = w' := by
  have hln := long_lt bs a
  subst hm
  go_enter Try.func25, Try.ntmps25
  go_wp2_with fail
  refine (rtake_ok 4 size4 A _ c bs a _ hb rfl hl ha).mono ?_
  rintro e w1 ⟨rfl, rfl⟩
  rw [show vl ((bs.drop a).take 4) = long bs a from rfl]
  generalize long bs a = n at hmost hln ⊢
  go_wp2_with fail
  go_ret3
  exact ⟨rfl, rfl⟩
set_option maxHeartbeats 400000 in
theorem rtakeString_bytes (A : Option Addr) (m c : Nat) (bs : List UInt8) (a q : Nat) (w : World) (hb : Bytes w w.heap.size A bs) (hm : m = bs.length) (hl : bs.length ≤ maxLen) (ha : a + 4 ≤ bs.length)
    (hmost : long bs a ≤ q) (hq : q ≤ 9223372036854775807) (hsh : bs.length < a + 4 + long bs a) :
    Calls Try.prog 25 #[.slice A m c, .int .i64 (a : Int), .int .i64 (q : Int)] w fun e w' => e = .returned (.tuple #[.slice none 0 0, .int .i64 0, .int .i64 5]) ∧ w = w' := by
  have hln := long_lt bs a
  have hl' := hl
  unfold maxLen at hl'
  subst hm
  go_enter Try.func25, Try.ntmps25
  go_wp2_with fail
  refine (rtake_ok 4 size4 A _ c bs a _ hb rfl hl ha).mono ?_
  rintro e w1 ⟨rfl, rfl⟩
  rw [show vl ((bs.drop a).take 4) = long bs a from rfl]
  generalize long bs a = n at hmost hln hsh ⊢
  go_wp2_with fail
  go_ret3
  exact ⟨rfl, rfl⟩
set_option maxHeartbeats 1000000 in
theorem rtakeString_cut (A : Option Addr) (c : Nat) (bs s : List UInt8) (a q n : Nat) (w : World) (hb : Bytes w w.heap.size A bs) (hc : bs.length ≤ c) (hl : bs.length ≤ 1099511627776) (hcm : c ≤ maxLen)
    (HN : Hid (long bs a = n)) (HS : Hid (strAt bs a = s)) (hmost : n ≤ q) (hq : q ≤ 9223372036854775807) (hsh : a + 4 + n ≤ bs.length) :
    Calls Try.prog 25 #[.slice A bs.length c, .int .i64 (a : Int), .int .i64 (q : Int)] w fun e w' => ∃ A' n' c', e = .returned (.tuple #[.slice A' n' c', .int .i64 (((a + 4 + n : Nat)) : Int), .int .i64 0]) ∧ n' = s.length ∧
      OwnB w' w.heap.size 5 (.slice A' n' c') s ∧ Below w.heap.size w w' := by
  have hmax : bs.length ≤ maxLen := by unfold maxLen; omega
  have hln : n ≤ 4294967295 := by rw [← HN.out]; exact long_lt bs a
  unfold maxLen at hcm
  obtain ⟨b, off, rfl, hB, _⟩ := hb.at_ (k := 0) (by omega)
  have hcut : Bytes w w.heap.size (some ⟨b, off + (a + 4), none⟩) s := by
    have := cut_bytes hb (a + 4) n hsh
    rw [show (bs.drop (a + 4)).take n = s from by rw [← HS.out, ← HN.out]; rfl] at this
    exact this
  have HSL : Hid (s.length = n) := by rw [← HS.out, ← HN.out]; exact strAt_len bs a (by rw [HN.out]; exact hsh)
  have hadd : (⟨b, off, none⟩ : Addr).add (a + 4) = ⟨b, off + (a + 4), none⟩ := by unfold Addr.add; split <;> simp_all
  have hak : a + 4 + n - (a + 4) = n := by omega
  by_cases hcap : c = a + 4
  · have hn0 : n = 0 := by omega
    have hs0 : s = [] := List.eq_nil_of_length_eq_zero (by rw [HSL.out]; exact hn0)
    subst hn0 hs0 hcap
    clear hak hadd
    go_enter Try.func25, Try.ntmps25
    go_wp2_with fail
    refine (rtake_ok 4 size4 (some ⟨b, off, none⟩) _ _ bs a _ hb rfl hmax (by omega)).mono ?_
    rintro e w1 ⟨rfl, rfl⟩
    rw [show vl ((bs.drop a).take 4) = 0 from HN.out]
    go_wp2_with (at_builtin; refine wpList_ap2 rfl _ _ rfl rfl w.heap.size (.slice (some ⟨w.heap.size, 0, none⟩) 0 0) [] [] [] w.heap.size _ 0 _ rfl rfl rfl rfl (OwnB.made w _ 5 (Nat.le_refl _)) (no_bytes _ _ _) (by simp) w ((Below.refl _ _).alloc (Nat.le_refl _) _) (by simp) ?_; intro A3 c3 n3 W3 e3 h3 hB3 hl3 hbel3 hs3 hg3; clear hB3 hg3 hl3)
    go_ret3
    rw [show ((a + 4 + 0 : Nat) : Int) = (a : Int) + 4 by omega]
    exact ⟨_, _, _, rfl, e3.out, h3, hbel3⟩
  · go_enter Try.func25, Try.ntmps25
    go_wp2_with fail
    refine (rtake_ok 4 size4 (some ⟨b, off, none⟩) _ c bs a _ hb rfl hmax (by omega)).mono ?_
    rintro e w1 ⟨rfl, rfl⟩
    rw [show vl ((bs.drop a).take 4) = n from HN.out]
    go_wp2_with (at_builtin; refine wpList_ap2 rfl _ _ rfl rfl w.heap.size (.slice (some ⟨w.heap.size, 0, none⟩) 0 0) [] s s w.heap.size (some ⟨b, off + (a + 4), none⟩) (a + 4 + n - (a + 4)) _ rfl rfl (by rw [hak]; exact HSL.out.symm) rfl (OwnB.made w _ 5 (Nat.le_refl _)) (Reads.alloc hcut (Nat.le_refl _) _) (by have := HSL.out; simp; omega) w ((Below.refl _ _).alloc (Nat.le_refl _) _) (by simp) ?_; intro A3 c3 n3 W3 e3 h3 hB3 hl3 hbel3 hs3 hg3; clear hB3 hg3 hl3)
    go_ret3
    rw [show ((a + 4 + n : Nat) : Int) = (a : Int) + 4 + (n : Int) by omega]
    exact ⟨_, _, _, rfl, e3.out, h3, hbel3⟩
end Go.Proofs.Ytnnhkanjneecjaa
