import Derived.Test.YtnnhkanjneecjaaOctE
namespace Go.Proofs.Ytnnhkanjneecjaa
open Go.RowKit
theorem fresh_n (A : Option Addr) (l c : Nat) (bs : List UInt8) (m : Nat) (w : World) (hb : Bytes w w.heap.size A bs) (hl : l = bs.length) (hs : bs.length + m ≤ 281474976710656) :
    Calls Try.prog 47 #[.slice A l c, .int .i64 (m : Int)] w fun e w' => ∃ c', e = .returned (.slice (some ⟨w.heap.size, 0, none⟩) l c') ∧ OwnB w' w.heap.size 5 (.slice (some ⟨w.heap.size, 0, none⟩) l c') bs ∧ Below w.heap.size w w' := by
  subst hl
  refine (fresh_any A c bs m w hb hs).mono ?_
  rintro e w' ⟨rfl, h1, h2⟩
  exact ⟨_, rfl, h1, h2⟩
/-- a cut of bytes. -/
theorem cut_bytes {w : World} {B b off : Nat} {bs : List UInt8} (h : Bytes w B (some ⟨b, off, none⟩) bs) (a n : Nat) (hn : a + n ≤ bs.length) : Bytes w B (some ⟨b, off + a, none⟩) ((bs.drop a).take n) := by
  have hlen : ((bs.drop a).take n).length = n := by simp; omega
  refine ⟨by rw [bv_len, Nat.mul_one], fun h0 => ?_⟩
  obtain ⟨ad, he, hB, hc⟩ := h.2 (by omega)
  injection he with he
  subst he
  refine ⟨_, rfl, hB, fun j u hu => ?_⟩
  have hj : j < n := by
    rcases Nat.lt_or_ge j n with h' | h'
    · exact h'
    · rw [List.getElem?_eq_none (by rw [bv_len]; omega)] at hu; cases hu
  have hadd : ∀ (o k : Nat), (⟨b, o, none⟩ : Addr).add k = ⟨b, o + k, none⟩ := by intro o k; unfold Addr.add; split <;> simp_all
  have hc' := hc (a + j) (.int .u8 (bs[a + j].toNat : Int)) (bv_at bs (a + j) (by omega))
  rw [hadd, ← Nat.add_assoc] at hc'
  rw [hadd, hc', ← hu]
  have e := bv_at ((bs.drop a).take n) j (by omega)
  rw [e]
  simp
theorem no_bytes (w : World) (B : Nat) (A : Option Addr) : Bytes w B A [] := ⟨by simp [bv], fun h => absurd h (by simp)⟩
/-- the string that stands at a place. -/
def strAt (bs : List UInt8) (a : Nat) : List UInt8 := (bs.drop (a + 4)).take (long bs a)
theorem strAt_len (bs : List UInt8) (a : Nat) (h : a + 4 + long bs a ≤ bs.length) : (strAt bs a).length = long bs a := by
  unfold strAt; simp; omega
set_option maxHeartbeats 1000000 in
theorem takeString_cut (A : Option Addr) (c : Nat) (bs s : List UInt8) (a q n : Nat) (w : World) (hb : Bytes w w.heap.size A bs) (hc : bs.length ≤ c) (hl : bs.length ≤ maxLen) (hcm : c ≤ maxLen)
    (HN : Hid (long bs a = n)) (HS : Hid (strAt bs a = s)) (hmost : n ≤ q) (hq : q ≤ 9223372036854775807) (hsh : a + 4 + n ≤ bs.length) :
    Calls Try.prog 24 #[.slice A bs.length c, .int .i64 (a : Int), .int .i64 (q : Int)] w fun e w' => ∃ A' n' c', e = .returned (.tuple #[.slice A' n' c', .int .i64 (((a + 4 + n : Nat)) : Int), .int .i64 0]) ∧ n' = s.length ∧
      OwnB w' w.heap.size 5 (.slice A' n' c') s ∧ Below w.heap.size w w' := by
  have hln : n ≤ 4294967295 := by rw [← HN.out]; exact long_lt bs a
  have hl' := hl
  unfold maxLen at hl' hcm
  obtain ⟨b, off, rfl, hB, _⟩ := hb.at_ (k := 0) (by omega)
  have hcut : Bytes w w.heap.size (some ⟨b, off + (a + 4), none⟩) s := by
    have := cut_bytes hb (a + 4) n hsh
    rw [show (bs.drop (a + 4)).take n = s from by rw [← HS.out, ← HN.out]; rfl] at this
    exact this
  have HSL : Hid (s.length = n) := by rw [← HS.out, ← HN.out]; exact strAt_len bs a (by rw [HN.out]; exact hsh)
  have hadd : (⟨b, off, none⟩ : Addr).add (a + 4) = ⟨b, off + (a + 4), none⟩ := by unfold Addr.add; split <;> simp_all
  have hak : a + 4 + n - (a + 4) = n := by omega
  by_cases hcap : c = a + 4
  · have hn0 : n = 0 := by omega
    have hs0 : s = [] := List.eq_nil_of_length_eq_zero (by rw [HSL.out]; exact hn0)
    subst hn0 hs0 hcap
    clear hak hadd
    go_enter Try.func24, Try.ntmps24
    go_wp2_with fail
    refine (take_ok 4 size4 (some ⟨b, off, none⟩) _ _ bs a _ hb rfl hc hl (by omega)).mono ?_
    rintro e w1 ⟨rfl, rfl⟩
    rw [show vl ((bs.drop a).take 4) = 0 from HN.out]
    go_wp2_with fail
    refine (fresh_n (some ⟨b, off, none⟩) 0 _ [] 0 _ (no_bytes _ _ _) rfl (by simp)).mono ?_
    rintro e w2 ⟨c', rfl, hown, hbel⟩
    go_wp2_with fail
    go_ret3
    rw [show ((a + 4 + 0 : Nat) : Int) = (a : Int) + 4 by omega]
    exact ⟨_, _, _, rfl, rfl, hown, hbel⟩
  · go_enter Try.func24, Try.ntmps24
    go_wp2_with fail
    refine (take_ok 4 size4 (some ⟨b, off, none⟩) _ c bs a _ hb rfl hc hl (by omega)).mono ?_
    rintro e w1 ⟨rfl, rfl⟩
    rw [show vl ((bs.drop a).take 4) = n from HN.out]
    go_wp2_with fail
    refine (fresh_n (some ⟨b, off + (a + 4), none⟩) n _ s 0 _ hcut HSL.out.symm (by have := HSL.out; omega)).mono ?_
    rintro e w2 ⟨c', rfl, hown, hbel⟩
    go_wp2_with fail
    go_ret3
    rw [show ((a + 4 + n : Nat) : Int) = (a : Int) + 4 + (n : Int) by omega]
    exact ⟨_, _, _, rfl, HSL.out.symm, hown, hbel⟩
theorem takeString_ok (A : Option Addr) (m c : Nat) (bs : List UInt8) (a q : Nat) (w : World) (hb : Bytes w w.heap.size A bs) (hm : m = bs.length) (hc : m ≤ c) (hl : bs.length ≤ maxLen) (hcm : c ≤ maxLen)
    (hmost : long bs a ≤ q) (hq : q ≤ 9223372036854775807) (hsh : a + 4 + long bs a ≤ bs.length) :
    Calls Try.prog 24 #[.slice A m c, .int .i64 (a : Int), .int .i64 (q : Int)] w fun e w' => ∃ A' n' c', e = .returned (.tuple #[.slice A' n' c', .int .i64 (((a + 4 + long bs a : Nat)) : Int), .int .i64 0]) ∧ n' = (strAt bs a).length ∧
      OwnB w' w.heap.size 5 (.slice A' n' c') (strAt bs a) ∧ Below w.heap.size w w' := by
  subst hm
  exact takeString_cut A c bs _ a q _ w hb hc hl hcm (show _ = _ from rfl) (show _ = _ from rfl) hmost hq hsh
end Go.Proofs.Ytnnhkanjneecjaa
