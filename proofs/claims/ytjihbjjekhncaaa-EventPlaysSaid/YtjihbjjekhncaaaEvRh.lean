import Derived.Test.YtjihbjjekhncaaaEvRg
import Derived.Test.YtjihbjjekhncaaaEvL
namespace Go.Proofs.Ytjihbjjekhncaaa
open Go.RowKit
/-! leatref08: All. -/
attribute [local go_sem ↓] exec_loadE exec_storeE exec_allocE exec_buildE exec_buildSlE
set_option maxRecDepth 100000 in
set_option maxHeartbeats 1000000 in
theorem erall_any (A : Option Addr) (m c : Nat) (bs : List UInt8) (w : World) (hb : Bytes w w.heap.size A bs) (hm : m = bs.length) (hmc : m ≤ c) (hc : c ≤ maxLen) (hmx : m ≤ 1099511627000) : Calls Try.prog 19 #[.slice A m c] w fun x w' =>
    ∃ A' n' c', x = .returned (.tuple #[.slice A' n' c', .int .i64 (errA bs)]) ∧ n' = (evsA bs).length ∧ Evs w' w'.heap.size A' (evsA bs) ∧ n' ≤ c' ∧ c' ≤ maxLen ∧ Below w.heap.size w w' := by
  have HB := Lib.hid hb
  have HM := Lib.hid hm
  have HC := Lib.hid (And.intro hmc hc)
  have aE := run_allocE
  have b1 : ∀ (e : Ev) (W : World), e.d.length = 6 → (buildSlE #[(0, .agg (evA e))]).run Try.prog W = .ok (.slice (some ⟨W.heap.size, 0, none⟩) 1 1) (W.alloc (.cells (evA e) 26)) := fun e W h => run_buildSlE1 h
  have B1 := Lib.hid b1
  clear b1 hb hm hmc hc
  go_enter Try.func19, Try.ntmps19
  go_wp2_with fail
  go_loopw [4, 5] (fun v i wr => ∃ (j : Nat) (l : List Ev) (A' : Option Addr) (c' : Nat), 91 * j ≤ m ∧ l.length = j ∧ i = .int .i64 ((91 * j : Nat) : Int) ∧ v = .slice A' j c' ∧ OwnE wr w.heap.size (.slice A' j c') l ∧ (∀ e ∈ l, e.d.length = 6) ∧ Below w.heap.size w wr ∧ allE bs = (allE (bs.drop (91 * j))).map (l ++ ·)) (fun _ i _ => m - (intOf i).toNat)
  case atStart => exact ⟨0, [], none, 0, by omega, rfl, rfl, rfl, OwnE.nil_ _ _, (fun e he => by cases he), Below.refl _ _, by simp⟩
  case round =>
    obtain ⟨j, l, A', c', hj, hlj, rfl, rfl, hown, hall, hbw, heq⟩ := hrel
    by_cases hlt : 91 * j < m
    · have hbr := (HB.out.below hbw).more hbw.size
      have TK := Lib.hid (ertake_any A m c bs ((91 * j : Nat) : Int) wr hbr HM.out HC.out.1 HC.out.2)
      obtain ⟨E, hE⟩ : ∃ E, takeE bs ((91 * j : Nat) : Int) = E := ⟨_, rfl⟩
      rw [hE] at TK
      obtain ⟨q, hq⟩ : ∃ q, q = 91 * j := ⟨_, rfl⟩
      rw [← hq] at hlt hj heq hE TK ⊢
      have hq0 : (0 : Int) ≤ (q : Int) := by omega
      have hqm : (q : Int) < (m : Int) := by omega
      have CASES : (E = (E0, 0, 5) ∧ allE bs = none) ∨ (∃ e : Ev, e.ok ∧ E = (e, (q : Int) + 91, 0) ∧ q + 91 ≤ m ∧ allE bs = (allE (bs.drop (q + 91))).map ((l ++ [e]) ++ ·)) := by
        have hm := HM.out
        by_cases h91 : q + 91 ≤ m
        · cases hmy : mayE (ofB ((bs.drop q).take 91))
          · refine .inl ⟨by rw [← hE]; exact takeE_no (by omega) hmy, ?_⟩
            rw [heq, allE_no (by simp; omega) hmy]; rfl
          · refine .inr ⟨ofB ((bs.drop q).take 91), ofB_ok _ (by rw [List.length_take, List.length_drop]; omega), by rw [← hE]; exact takeE_ok (by omega) hmy, h91, ?_⟩
            rw [heq, allE_yes (by simp; omega) hmy, List.drop_drop, Option.map_map]
            congr 1
            funext r
            simp
        · refine .inl ⟨by rw [← hE]; exact takeE_short (by omega) (by omega), ?_⟩
          rw [heq, allE_short (by simp; omega) (by simp; omega)]; rfl
      have OWN := Lib.hid hown
      have ALL := Lib.hid hall
      have HBW := Lib.hid hbw
      have HLJ := Lib.hid hlj
      have HQ := Lib.hid hq
      clear heq hE hown hall hbw hlj hq hbr
      rcases CASES with ⟨rfl, hno⟩ | ⟨e, hok, rfl, h91, hyes⟩
      · have HNO := Lib.hid hno
        have s0 := run_storeE_new E0_ok.d6
        clear hno
        go_wp2_with fail
        refine TK.out.mono ?_
        rintro _ w2 ⟨rfl, hb⟩
        have s0' := s0 w2
        have VF := HBW.out.trans ((hb.mono HBW.out.size).trans ((Below.refl _ _).alloc (Nat.le_trans HBW.out.size hb.size) (.cells (evA E0) 26)))
        clear hb s0
        go_wp2_with fail
        go_ret2
        exact ⟨none, 0, 0, by unfold errA; rw [HNO.out]; rfl, by unfold evsA; rw [HNO.out]; rfl, by unfold evsA; rw [HNO.out]; exact fun h => absurd h (by simp), by omega, by decide, VF⟩
      · have HYES := Lib.hid hyes
        have HOK := Lib.hid hok
        have s0 := run_storeE_new hok.d6
        clear hyes hok
        go_wp2_with fail
        refine TK.out.mono ?_
        rintro _ w2 ⟨rfl, hb⟩
        have s0' := s0 w2
        have hbw2 := HBW.out.trans (hb.mono HBW.out.size)
        have own2 := OWN.out.below hb
        have l2 := (EB.new w2 HOK.out.d6).load
        have bS := B1.out e (w2.alloc (.cells (evA e) 26)) HOK.out.d6
        have own3 : OwnE ((w2.alloc (.cells (evA e) 26)).alloc (.cells (evA e) 26)) w.heap.size (.slice A' j c') l := own2.below (((Below.refl _ _).alloc (Nat.le_refl _) _).alloc (by simp) _)
        have hbw3 := (hbw2.alloc hbw2.size (.cells (evA e) 26)).alloc (by have := hbw2.size; simp; omega) (.cells (evA e) 26)
        have hlt3 : l.length + 1 ≤ 1099511627776 := by have := HLJ.out; have := HQ.out; omega
        have hsz : w.heap.size ≤ ((w2.alloc (.cells (evA e) 26)).alloc (.cells (evA e) 26)).heap.size := hbw3.size
        rw [show (w2.alloc (.cells (evA e) 26)).heap.size = w2.heap.size + 1 by simp] at bS
        have bk : Blk ((w2.alloc (.cells (evA e) 26)).alloc (.cells (evA e) 26)) (w2.heap.size + 1) 26 (evA e) := by
          have := Blk.new (w2.alloc (.cells (evA e) 26)) 26 (evA e)
          rwa [show (w2.alloc (.cells (evA e) 26)).heap.size = w2.heap.size + 1 by simp] at this
        clear hb s0 own2 hbw2
        go_wp2_with (refine wpList_appE rfl _ _ rfl w.heap.size _ l e HOK.out.d6 (w2.heap.size + 1) 1 rfl rfl bk own3 ALL.out hlt3 w hbw3 hsz (j + 1) (by rw [HLJ.out]) ?_; intro A2 c2 w4 own4 hbw4 hsz4; clear own3 hbw3 hlt3 bk l2 bS s0' hsz)
        go_roundw
        case rel =>
          refine ⟨j + 1, l ++ [e], A2, c2, by have := HQ.out; omega, by rw [List.length_append, HLJ.out]; rfl, ?_, rfl, own4, fun x hx => ?_, hbw4, ?_⟩
          · have := HQ.out
            congr 1; omega
          · rcases List.mem_append.1 hx with h | h
            · exact ALL.out x h
            · rw [List.mem_singleton.1 h]; exact HOK.out.d6
          · have := HQ.out
            rw [show 91 * (j + 1) = q + 91 by omega]; exact HYES.out
        case measure => simp [intOf]; omega
    · have hjm : 91 * j = m := by omega
      have hE : allE bs = some l := by rw [heq, hjm, HM.out, List.drop_length, allE_nil]; simp
      obtain ⟨A2, c2, hv, hev, hlc, hcm⟩ := hown.open_ hall
      injection hv with hv1 hv2 hv3
      subst hv1 hv3
      have HE := Lib.hid hE
      have VF := Lib.hid hbw
      have EV := Lib.hid hev
      have HLJ := Lib.hid hlj
      have LC := Lib.hid (And.intro hlc hcm)
      clear heq hE hown hall hbw hev hlj hv2 hlc hcm
      rw [hjm]
      go_wp2_with fail
      go_ret2
      exact ⟨A', j, c', by unfold errA; rw [HE.out]; simp, by unfold evsA; rw [HE.out]; exact HLJ.out.symm, by unfold evsA; rw [HE.out]; exact EV.out, by rw [← HLJ.out]; exact LC.out.1, LC.out.2, VF.out⟩
end Go.Proofs.Ytjihbjjekhncaaa
