import Derived.Test.YtnnhkanjneecjaaFrE
namespace Go.Proofs.Ytnnhkanjneecjaa
open Go.RowKit
/-! frame: the document's All. -/
theorem rftake_yes (A : Option Addr) (n c a : Nat) (bs : List UInt8) (w : World) (hb : Bytes w w.heap.size A bs) (hn : n = bs.length) (hc : n ≤ c) (hl : bs.length ≤ maxLen) (hcm : c ≤ maxLen) (h : fok bs a) :
    Calls Try.prog 39 #[.slice A n c, .int .i64 (a : Int)] w fun e w' =>
      ∃ A' n' c', e = .returned (.tuple #[.slice A' n' c', .int .i64 ((fnx bs a : Nat) : Int), .int .i64 0]) ∧ n' = (recAt bs a).length ∧ OwnB w' w.heap.size 5 (.slice A' n' c') (recAt bs a) ∧ Below w.heap.size w w' := by
  subst hn
  refine (rftake_sum A c a (long bs a) bs (recAt bs a) w hb hc hl hcm h.1 h.2.1 (show _ = _ from rfl) (show _ = _ from rfl)).mono ?_
  rintro e w' (⟨_, h'⟩ | ⟨h', _⟩)
  · exact h'
  · exact absurd (fr_at bs a h) h'
theorem rftake_no (A : Option Addr) (n c a : Nat) (bs : List UInt8) (w : World) (hb : Bytes w w.heap.size A bs) (hn : n = bs.length) (hc : n ≤ c) (hl : bs.length ≤ maxLen) (hcm : c ≤ maxLen) (ha : a ≤ bs.length) (h : ¬ fok bs a) :
    Calls Try.prog 39 #[.slice A n c, .int .i64 (a : Int)] w fun e w' => e = .returned (.tuple #[.slice none 0 0, .int .i64 0, .int .i64 5]) ∧ Below w.heap.size w w' := by
  subst hn
  by_cases h8 : bs.length < a + 8
  · refine (rftake_short A c a bs w hl ha h8).mono ?_
    rintro e w' ⟨rfl, rfl⟩
    exact ⟨rfl, Below.refl _ _⟩
  · by_cases hf : 4096 < long bs a ∨ bs.length < a + 8 + long bs a
    · refine (rftake_far A c a bs w hb hl (by omega) hf).mono ?_
      rintro e w' ⟨rfl, rfl⟩
      exact ⟨rfl, Below.refl _ _⟩
    · refine (rftake_sum A c a (long bs a) bs (recAt bs a) w hb hc hl hcm (by omega) (by omega) (show _ = _ from rfl) (show _ = _ from rfl)).mono ?_
      rintro e w' (⟨hx, _⟩ | ⟨_, h'⟩)
      · exact absurd ((rfok_iff bs a (by omega) (by omega)).2 hx) h
      · exact h'
def FalAt (bs : List UInt8) (a : Nat) (acc : List (List UInt8)) : Prop := ∃ f, fal bs f a acc = falR bs ∧ bs.length < f + a
set_option maxHeartbeats 2000000 in
theorem rfall_any (A : Option Addr) (n c : Nat) (bs : List UInt8) (w : World) (hb : Bytes w w.heap.size A bs) (hn : n = bs.length) (hc : n ≤ c) (hcm : c ≤ maxLen) (hl : bs.length ≤ 1099511627776) :
    Calls Try.prog 42 #[.slice A n c] w fun e w' => ∃ A' n' c', e = .returned (.tuple #[.slice A' n' c', .int .i64 (((falR bs).2 : Nat) : Int)]) ∧ n' = (falR bs).1.length ∧ OwnS w' w.heap.size (.slice A' n' c') (falR bs).1 ∧ Below w.heap.size w w' := by
  have hmx : bs.length ≤ maxLen := by unfold maxLen; omega
  have N0 := Lib.hid hn
  clear hn
  go_enter Try.func42, Try.ntmps42
  go_wp2_with fail
  go_loopw [4, 5] (fun v i wr => ∃ a acc A3 n3 c3, a ≤ bs.length ∧ i = .int .i64 ((a : Nat) : Int) ∧ v = .slice A3 n3 c3 ∧ Hid (n3 = acc.length) ∧ OwnS wr w.heap.size (.slice A3 n3 c3) acc ∧ FalAt bs a acc ∧ acc.length ≤ a ∧ Below w.heap.size w wr) (fun _ i _ => bs.length - (intOf i).toNat)
  case atStart => exact ⟨0, [], none, 0, 0, by omega, rfl, rfl, rfl, OwnS.nil_ _ _, ⟨bs.length + 1, rfl, by omega⟩, by simp, Below.refl _ _⟩
  case round =>
    obtain ⟨a, acc, A3, n3, c3, ha, rfl, rfl, e3, hS, ⟨f, hfal, hf⟩, hac, hbw⟩ := hrel
    have hsz := hbw.size
    have y := Reads.more (Reads.below hb hbw) hsz
    obtain ⟨f, rfl⟩ : ∃ k, f = k + 1 := ⟨f - 1, by omega⟩
    by_cases hok : fok bs a
    · have hn1 : fnx bs a ≤ bs.length := hok.1
      have hn8 : a + 8 ≤ fnx bs a := by unfold fnx; omega
      have hnext : FalAt bs (fnx bs a) (acc ++ [recAt bs a]) := ⟨f, by rw [← hfal, fal, if_pos hok], by omega⟩
      have t1 := rftake_yes A n c a bs wr y N0.out hc hmx hcm hok
      generalize fnx bs a = b at hn1 hn8 hnext t1
      generalize recAt bs a = r at hnext t1
      have T1 := Lib.hid t1
      clear t1 hok hfal
      go_wp2_with fail
      refine T1.out.mono ?_
      rintro e w2 ⟨A5, n5, c5, rfl, hn5, hown5, hb5⟩
      have N5 := Lib.hid hn5
      have hS2 := hS.below hb5
      have hbw2 := hbw.trans (hb5.mono hsz)
      have hsz2 := hbw2.size
      clear hn5 hS hbw y
      go_wp2_with (at_builtin; refine wpList_aps rfl _ _ rfl rfl w.heap.size (.slice A3 n3 c3) acc w2.heap.size 1 A5 n5 c5 r rfl rfl (by simp) (hS2.below ((Below.refl _ _).alloc (Nat.le_refl _) _)) (World.ownsRow.alloc (own_less hown5 hsz) _) N5.out (by omega) w (hbw2.alloc hsz2 _) (by simp; omega) ?_; intro A6 c6 n6 W6 e6 h6 hbel6 hs6)
      go_roundw
      case rel => exact ⟨b, acc ++ [r], A6, n6, c6, hn1, rfl, rfl, e6, h6, hnext, by rw [List.length_append]; show acc.length + 1 ≤ b; omega, hbel6⟩
      case measure => simp [intOf]; omega
    · have t1 := rftake_no A n c a bs wr y N0.out hc hmx hcm ha hok
      have hR : falR bs = (acc, a) := by rw [← hfal, fal, if_neg hok]
      have T1 := Lib.hid t1
      have HR := Lib.hid hR
      clear t1 hR hok hfal
      go_wp2_with fail
      refine T1.out.mono ?_
      rintro e w2 ⟨rfl, hb5⟩
      go_wp2_with fail
      go_ret2
      rw [HR.out]
      exact ⟨A3, n3, c3, rfl, e3.out, hS.below hb5, hbw.trans (hb5.mono hsz)⟩
end Go.Proofs.Ytnnhkanjneecjaa
