import Derived.Test.YtnnhkanjneecjaaOctV
import Derived.RegionTactic
namespace Go.Proofs.Ytnnhkanjneecjaa
open Go.RowKit
/-! The document's Split. -/
/-- one step, as TakeString makes it. -/
theorem rtakeString_err (A : Option Addr) (c : Nat) (bs : List UInt8) (a : Nat) (q : Int) (w : World) (hb : Bytes w w.heap.size A bs) (hc : bs.length ≤ c) (hl : bs.length ≤ maxLen) (ha : a ≤ bs.length) (hq : -9223372036854775808 ≤ q ∧ q ≤ 9223372036854775807) (he : ¬ nxE bs q a = 0) :
    Calls Try.prog 25 #[.slice A bs.length c, .int .i64 (a : Int), .int .i64 q] w fun e w' => e = .returned (.tuple #[.slice none 0 0, .int .i64 0, .int .i64 ((nxE bs q a : Nat) : Int)]) ∧ w = w' := by
  unfold nxE at he ⊢
  split
  · rename_i h
    exact rtakeString_short A _ c a q w ha (by omega) hl
  · rename_i h
    rw [if_neg h] at he
    split
    · rename_i h2
      exact rtakeString_many A _ c bs a q w hb rfl hl (by omega) h2 hq.1
    · rename_i h2
      rw [if_neg h2] at he
      split
      · rename_i h3
        obtain ⟨p, rfl⟩ := Int.eq_ofNat_of_zero_le (show 0 ≤ q by omega)
        exact rtakeString_bytes A _ c bs a p w hb rfl hl (by omega) (by omega) (by omega) h3
      · rename_i h3
        rw [if_neg h3] at he
        exact absurd rfl he
theorem rtakeString_yes (A : Option Addr) (c : Nat) (bs : List UInt8) (a : Nat) (q : Int) (w : World) (hb : Bytes w w.heap.size A bs) (hc : bs.length ≤ c) (hl : bs.length ≤ 1099511627776) (hcm : c ≤ maxLen) (hq : q ≤ 9223372036854775807) (he : nxE bs q a = 0) :
    Calls Try.prog 25 #[.slice A bs.length c, .int .i64 (a : Int), .int .i64 q] w fun e w' => ∃ A' n' c', e = .returned (.tuple #[.slice A' n' c', .int .i64 ((nxN bs a : Nat) : Int), .int .i64 0]) ∧ n' = (strAt bs a).length ∧
      OwnB w' w.heap.size 5 (.slice A' n' c') (strAt bs a) ∧ Below w.heap.size w w' := by
  obtain ⟨h1, h2, h3, _⟩ := nx_ok he
  obtain ⟨p, rfl⟩ := Int.eq_ofNat_of_zero_le (show 0 ≤ q by omega)
  exact rtakeString_cut A c bs _ a p _ w hb hc hl hcm (show _ = _ from rfl) (show _ = _ from rfl) (by omega) (by omega) h3
set_option maxHeartbeats 1000000 in
theorem rsplit_any (A : Option Addr) (c : Nat) (bs : List UInt8) (q : Int) (w : World) (hb : Bytes w w.heap.size A bs) (hc : bs.length ≤ c) (hl : bs.length ≤ 1099511627776) (hcm : c ≤ maxLen) (hq : -9223372036854775808 ≤ q ∧ q ≤ 9223372036854775807) :
    Calls Try.prog 27 #[.slice A bs.length c, .int .i64 q] w (AnswerS w (splR bs q)) := by
  have hmax : bs.length ≤ maxLen := by unfold maxLen; omega
  go_enter Try.func27, Try.ntmps27
  go_wp2_with fail
  go_loopw [6, 7] (fun v i wr => ∃ a : Nat, a ≤ bs.length ∧ i = .int .i64 a ∧ Sp w bs q a v wr) (fun _ i _ => bs.length - (intOf i).toNat)
  case atStart => exact ⟨0, by omega, rfl, bs.length + 1, [], none, 0, 0, rfl, rfl, OwnS.nil_ _ _, by simp, by omega, rfl, Below.refl _ _⟩
  case round =>
    obtain ⟨a, ha, rfl, f, acc, A1, n1, c1, rfl, e1, hown, hacc, hf, hR, hbw⟩ := hrel
    have hsz := hbw.size
    have y := Reads.more (Reads.below hb hbw) hsz
    obtain ⟨f, rfl⟩ : ∃ g, f = g + 1 := ⟨f - 1, by omega⟩
    by_cases hlt : a < bs.length
    · by_cases hn : nxE bs q a = 0
      · obtain ⟨hx1, hx2, hx3, hx4⟩ := nx_ok hn
        have hR2 : Hid (spl bs q f (nxN bs a) (acc ++ [strAt bs a]) = splR bs q) := by
          rw [← hR.out]
          show _ = _
          rw [spl, if_pos hlt, if_pos hn]
        have HN := Lib.hid hn
        clear hn
        go_wp2_with fail
        refine (rtakeString_yes A c bs a q wr y hc hl hcm hq.2 HN.out).mono ?_
        rintro e w2 ⟨A5, n5, c5, rfl, hn5, hown5, hb5⟩
        have N5 := Lib.hid hn5
        clear hn5
        have hown2 := hown.below hb5
        have hbw2 := hbw.trans (hb5.mono hsz)
        have hsz2 := hbw2.size
        generalize nxN bs a = nx at hx3 hx4 hR2 ⊢
        go_wp2_with (at_builtin; refine wpList_aps rfl _ _ rfl rfl w.heap.size (.slice A1 n1 c1) acc w2.heap.size 1 A5 n5 c5 (strAt bs a) rfl rfl (by simp) (hown2.below ((Below.refl _ _).alloc (Nat.le_refl _) _)) (World.ownsRow.alloc (own_less hown5 hsz) _) N5.out (by omega) w (hbw2.alloc hsz2 _) (by simp; omega) ?_; intro A3 c3 n3 W3 e3 h3 hbel3 hs3)
        go_roundw
        case rel => exact ⟨nx, hx3, rfl, f, _, A3, n3, c3, rfl, e3, h3, by rw [List.length_append]; show acc.length + 1 ≤ nx; omega, by omega, hR2, hbel3⟩
        case measure => simp [intOf]; omega
      · have hR2 : splR bs q = (nxE bs q a, []) := by
          rw [← hR.out, spl, if_pos hlt, if_neg hn]
        have HR2 := Lib.hid hR2
        clear hR hR2
        have he : Hid ((nxE bs q a : Nat) ≠ 0) := hn
        have hne : (((nxE bs q a : Nat) : Int) == 0) = false := by simp; exact hn
        have HN := Lib.hid hn
        clear hn
        have hte := rtakeString_err A c bs a q wr y hc hmax ha hq HN.out
        generalize hee : nxE bs q a = en at hne hte
        have HE := Lib.hid hee
        clear hee
        have HT := Lib.hid hte
        clear hte
        go_wp2_with fail
        refine HT.out.mono ?_
        rintro e w2 ⟨rfl, rfl⟩
        have hne2 : (((en : Nat) : Int) != 0) = true := by simp [bne, hne]
        go_wp2_with fail
        go_ret2
        exact ⟨none, 0, 0, by rw [HR2.out, HE.out]; rfl, by rw [HR2.out]; rfl, by rw [HR2.out]; exact OwnS.nil_ _ _, hbw⟩
    · have hR2 : splR bs q = (0, acc) := by rw [← hR.out, spl, if_neg hlt]
      have HR2 := Lib.hid hR2
      clear hR2 hR
      go_wp2_with fail
      go_ret2
      exact ⟨A1, n1, c1, by rw [HR2.out]; rfl, by rw [HR2.out]; exact e1.out, by rw [HR2.out]; exact hown, hbw⟩
end Go.Proofs.Ytnnhkanjneecjaa
