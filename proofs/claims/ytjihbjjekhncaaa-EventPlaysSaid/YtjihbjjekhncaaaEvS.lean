import Derived.Test.YtjihbjjekhncaaaEvL
namespace Go.Proofs.Ytjihbjjekhncaaa
open Go.RowKit
/-! leatref08: the same events? -/
attribute [local go_sem ↓] exec_loadE exec_storeE exec_allocE exec_buildE exec_buildSlE
theorem Evs.at_ {w : World} {B : Nat} {A : Option Addr} {l : List Ev} (h : Evs w B A l) {i : Nat} (hi : i < l.length) : ∃ b off, A = some ⟨b, off, none⟩ ∧ b < B ∧ w.rangeAt b (off + i * 14) (evL l[i]) := by
  obtain ⟨b, off, hA, hB, hr⟩ := h (by omega)
  exact ⟨b, off, hA, hB, hr i _ (List.getElem?_eq_getElem hi)⟩
set_option maxRecDepth 100000 in
set_option maxHeartbeats 1000000 in
theorem esame_any (A1 A2 : Option Addr) (n1 n2 c1 c2 : Nat) (l1 l2 : List Ev) (w : World) (h1 : Evs w w.heap.size A1 l1) (h2 : Evs w w.heap.size A2 l2) (o1 : ∀ e ∈ l1, e.ok) (o2 : ∀ e ∈ l2, e.ok) (hn1 : n1 = l1.length) (hn2 : n2 = l2.length) (hmx : n1 ≤ 1099511627776) (r : Bool) (hr : r = true ↔ l1 = l2) :
    Calls Try.prog 20 #[.slice A1 n1 c1, .slice A2 n2 c2] w fun x w' => x = .returned (.bool r) ∧ Below w.heap.size w w' := by
  have HR := Lib.hid hr
  have N1 := Lib.hid hn1
  have N2 := Lib.hid hn2
  have H1 := Lib.hid h1
  have H2 := Lib.hid h2
  have K1 := Lib.hid o1
  have K2 := Lib.hid o2
  clear hr hn1 hn2 h1 h2 o1 o2
  by_cases hl : n1 = n2
  case neg =>
    have hq : ((n1 : Int) != (n2 : Int)) = true := by
      have : ¬ (n1 : Int) = (n2 : Int) := by omega
      simpa using this
    have hf : Hid (r = false) := by
      cases r
      · rfl
      · exfalso; apply hl; rw [N1.out, N2.out, HR.out.1 rfl]
    clear hl
    go_enter Try.func20, Try.ntmps20
    go_wp2_with fail
    go_ret
    exact ⟨by rw [hf.out]; rfl, Below.refl _ _⟩
  case pos =>
    subst hl
    go_enter Try.func20, Try.ntmps20
    go_wp2_with fail
    go_loopw [5] (fun v wr => ∃ i : Nat, i ≤ n1 ∧ v = .int .i64 (i : Int) ∧ l1.take i = l2.take i ∧ Below w.heap.size w wr) (fun v _ => n1 - (intOf v).toNat)
    case atStart => exact ⟨0, by omega, rfl, rfl, Below.refl _ _⟩
    case round =>
      obtain ⟨i, hi, rfl, heq, hbw⟩ := hrel
      have HEQ := Lib.hid heq
      clear heq
      by_cases hlt : i < n1
      · have i1 : i < l1.length := by rw [← N1.out]; exact hlt
        have i2 : i < l2.length := by rw [← N2.out]; exact hlt
        obtain ⟨b1, f1, rfl, hB1, r1⟩ := H1.out.at_ i1
        obtain ⟨b2, f2, rfl, hB2, r2⟩ := H2.out.at_ i2
        have k1 := K1.out _ (List.getElem_mem i1)
        have k2 := K2.out _ (List.getElem_mem i2)
        have STEP : Hid (l1[i] = l2[i] → l1.take (i + 1) = l2.take (i + 1)) := fun h => by
          rw [List.take_succ_eq_append_getElem i1, List.take_succ_eq_append_getElem i2, HEQ.out, h]
        have DIFF : Hid (¬ l1[i] = l2[i] → ¬ l1 = l2) := fun h hh => h (by subst hh; rfl)
        generalize l1[i] = x at r1 k1 STEP DIFF
        generalize l2[i] = y at r2 k2 STEP DIFF
        have R1 : Hid (∀ W, Below w.heap.size w W → W.rangeAt b1 (f1 + i * 14) (evL x)) := fun W hb => rg_below r1 hb hB1
        have R2 : Hid (∀ W, Below w.heap.size w W → W.rangeAt b2 (f2 + i * 14) (evL y)) := fun W hb => rg_below r2 hb hB2
        have X := Lib.hid k1
        have Y := Lib.hid k2
        have hi0 : (0 : Int) ≤ (i : Int) := by omega
        have hin : (i : Int) < (n1 : Int) := by omega
        clear r1 r2 k1 k2 i1 i2
        by_cases hxy : x = y
        case pos =>
          subst hxy
          have NX := Lib.hid (STEP.out rfl)
          clear STEP DIFF
          have qd : ∀ W, (Op.equalIn 10000 26 (.agg (evA x)) (.agg (evA x))).run Try.prog W = .ok true W := ev_same X.out
          go_wp2_with fail
          refine wp_region_plan (fun W => Below w.heap.size w W) Grows [IsV (.slice (some ⟨b1, f1, none⟩) n1 c1), IsV (.int .i64 (i : Int)), IsV (.pointer (some ⟨b1, f1 + i * 14, none⟩)), IsV (.agg (evA x)), IsV (.slice (some ⟨b2, f2, none⟩) n1 c2), IsV (.int .i64 (i : Int)), IsV (.pointer (some ⟨b2, f2 + i * 14, none⟩)), IsV (.agg (evA x)), IsV (.bool false)] ([(0, .slice (some ⟨b1, f1, none⟩) n1 c1), (1, .slice (some ⟨b2, f2, none⟩) n1 c2), (5, .int .i64 (i : Int))] : List (Nat × Value)) (⟨rfl, rfl, rfl, trivial⟩) (n := 26) (by kernel_rfl) rfl (by kernel_rfl) hbw.drew Grows.refl (StabAll.get ?_) ?_ ?_
          · repeat (first | exact trivial | refine ⟨stab_c _, ?_⟩ | refine ⟨stab_two _ _, ?_⟩ | refine ⟨fun _ _ _ _ _ _ _ => trivial, ?_⟩)
          · refine ⟨?_, ⟨?_, ⟨?_, ⟨?_, ⟨?_, ⟨?_, ⟨?_, ⟨?_, ⟨?_, trivial⟩⟩⟩⟩⟩⟩⟩⟩⟩
            · intro a W hS hE hD
              obtain ⟨x0, _, _, _⟩ := hE
              have e0 := x0 (by kernel_rfl)
              refine plan_free rfl ?_
              refine plan_value ex_move ⟨_, rfl, hS, Grows.refl _, ?_⟩
              exact e0
            · intro a W hS hE hD
              obtain ⟨_, _, x5, _⟩ := hE
              have e5 := x5 (by kernel_rfl)
              refine plan_free rfl ?_
              refine plan_value ex_move ⟨_, rfl, hS, Grows.refl _, ?_⟩
              exact e5
            · intro a W hS hE hD
              have k17 : a.tmps.getD 17 undef = .slice (some ⟨b1, f1, none⟩) n1 c1 := hD 0 17 (by kernel_rfl)
              have k18 : a.tmps.getD 18 undef = .int .i64 (i : Int) := hD 1 18 (by kernel_rfl)
              refine plan_free rfl ?_
              refine plan_value (v := .pointer (some ⟨b1, f1 + i * 14, none⟩)) (w' := W) (by go_simp) ⟨_, rfl, hS, Grows.refl _, rfl⟩
            · intro a W hS hE hD
              have k19 : a.tmps.getD 19 undef = .pointer (some ⟨b1, f1 + i * 14, none⟩) := hD 2 19 (by kernel_rfl)
              refine plan_free rfl ?_
              refine plan_value (ex_loadE k19 X.out.d6 (R1.out W hS)) ⟨_, rfl, hS, Grows.refl _, rfl⟩
            · intro a W hS hE hD
              obtain ⟨_, x1, _, _⟩ := hE
              have e1 := x1 (by kernel_rfl)
              refine plan_free rfl ?_
              refine plan_value ex_move ⟨_, rfl, hS, Grows.refl _, ?_⟩
              exact e1
            · intro a W hS hE hD
              obtain ⟨_, _, x5, _⟩ := hE
              have e5 := x5 (by kernel_rfl)
              refine plan_free rfl ?_
              refine plan_value ex_move ⟨_, rfl, hS, Grows.refl _, ?_⟩
              exact e5
            · intro a W hS hE hD
              have k21 : a.tmps.getD 21 undef = .slice (some ⟨b2, f2, none⟩) n1 c2 := hD 4 21 (by kernel_rfl)
              have k22 : a.tmps.getD 22 undef = .int .i64 (i : Int) := hD 5 22 (by kernel_rfl)
              refine plan_free rfl ?_
              refine plan_value (v := .pointer (some ⟨b2, f2 + i * 14, none⟩)) (w' := W) (by go_simp) ⟨_, rfl, hS, Grows.refl _, rfl⟩
            · intro a W hS hE hD
              have k23 : a.tmps.getD 23 undef = .pointer (some ⟨b2, f2 + i * 14, none⟩) := hD 6 23 (by kernel_rfl)
              refine plan_free rfl ?_
              refine plan_value (ex_loadE k23 X.out.d6 (R2.out W hS)) ⟨_, rfl, hS, Grows.refl _, rfl⟩
            · intro a W hS hE hD
              have k20 : a.tmps.getD 20 undef = .agg (evA x) := hD 3 20 (by kernel_rfl)
              have k24 : a.tmps.getD 24 undef = .agg (evA x) := hD 7 24 (by kernel_rfl)
              refine plan_free rfl ?_
              refine plan_value (v := .bool false) (w' := W) (by go_simp) ⟨_, rfl, hS, Grows.refl _, rfl⟩
          · intro f w9 V9 hE
            have f25 : f 25 = .bool false := Ends.get hE 8 _ rfl 25 rfl
            clear hE
            simp only [setAll, List.setIfInBounds_toArray, List.set_cons_zero, List.set_cons_succ]
            rw [f25]; clear f25
            have hbh := Lib.hid V9
            clear V9 hbw
            go_wp2_with fail
            go_roundw
            case rel => exact ⟨i + 1, by omega, by go_num, NX.out, hbh.out⟩
            case measure => simp [intOf]; omega
        case neg =>
          have qd : ∀ W, (Op.equalIn 10000 26 (.agg (evA x)) (.agg (evA y))).run Try.prog W = .ok false W := ev_diff X.out Y.out hxy
          have hf : Hid (r = false) := by
            cases r
            · rfl
            · exact absurd (HR.out.1 rfl) (DIFF.out hxy)
          clear hxy
          go_wp2_with fail
          refine wp_region_plan (fun W => Below w.heap.size w W) Grows [IsV (.slice (some ⟨b1, f1, none⟩) n1 c1), IsV (.int .i64 (i : Int)), IsV (.pointer (some ⟨b1, f1 + i * 14, none⟩)), IsV (.agg (evA x)), IsV (.slice (some ⟨b2, f2, none⟩) n1 c2), IsV (.int .i64 (i : Int)), IsV (.pointer (some ⟨b2, f2 + i * 14, none⟩)), IsV (.agg (evA y)), IsV (.bool true)] ([(0, .slice (some ⟨b1, f1, none⟩) n1 c1), (1, .slice (some ⟨b2, f2, none⟩) n1 c2), (5, .int .i64 (i : Int))] : List (Nat × Value)) (⟨rfl, rfl, rfl, trivial⟩) (n := 26) (by kernel_rfl) rfl (by kernel_rfl) hbw.drew Grows.refl (StabAll.get ?_) ?_ ?_
          · repeat (first | exact trivial | refine ⟨stab_c _, ?_⟩ | refine ⟨stab_two _ _, ?_⟩ | refine ⟨fun _ _ _ _ _ _ _ => trivial, ?_⟩)
          · refine ⟨?_, ⟨?_, ⟨?_, ⟨?_, ⟨?_, ⟨?_, ⟨?_, ⟨?_, ⟨?_, trivial⟩⟩⟩⟩⟩⟩⟩⟩⟩
            · intro a W hS hE hD
              obtain ⟨x0, _, _, _⟩ := hE
              have e0 := x0 (by kernel_rfl)
              refine plan_free rfl ?_
              refine plan_value ex_move ⟨_, rfl, hS, Grows.refl _, ?_⟩
              exact e0
            · intro a W hS hE hD
              obtain ⟨_, _, x5, _⟩ := hE
              have e5 := x5 (by kernel_rfl)
              refine plan_free rfl ?_
              refine plan_value ex_move ⟨_, rfl, hS, Grows.refl _, ?_⟩
              exact e5
            · intro a W hS hE hD
              have k17 : a.tmps.getD 17 undef = .slice (some ⟨b1, f1, none⟩) n1 c1 := hD 0 17 (by kernel_rfl)
              have k18 : a.tmps.getD 18 undef = .int .i64 (i : Int) := hD 1 18 (by kernel_rfl)
              refine plan_free rfl ?_
              refine plan_value (v := .pointer (some ⟨b1, f1 + i * 14, none⟩)) (w' := W) (by go_simp) ⟨_, rfl, hS, Grows.refl _, rfl⟩
            · intro a W hS hE hD
              have k19 : a.tmps.getD 19 undef = .pointer (some ⟨b1, f1 + i * 14, none⟩) := hD 2 19 (by kernel_rfl)
              refine plan_free rfl ?_
              refine plan_value (ex_loadE k19 X.out.d6 (R1.out W hS)) ⟨_, rfl, hS, Grows.refl _, rfl⟩
            · intro a W hS hE hD
              obtain ⟨_, x1, _, _⟩ := hE
              have e1 := x1 (by kernel_rfl)
              refine plan_free rfl ?_
              refine plan_value ex_move ⟨_, rfl, hS, Grows.refl _, ?_⟩
              exact e1
            · intro a W hS hE hD
              obtain ⟨_, _, x5, _⟩ := hE
              have e5 := x5 (by kernel_rfl)
              refine plan_free rfl ?_
              refine plan_value ex_move ⟨_, rfl, hS, Grows.refl _, ?_⟩
              exact e5
            · intro a W hS hE hD
              have k21 : a.tmps.getD 21 undef = .slice (some ⟨b2, f2, none⟩) n1 c2 := hD 4 21 (by kernel_rfl)
              have k22 : a.tmps.getD 22 undef = .int .i64 (i : Int) := hD 5 22 (by kernel_rfl)
              refine plan_free rfl ?_
              refine plan_value (v := .pointer (some ⟨b2, f2 + i * 14, none⟩)) (w' := W) (by go_simp) ⟨_, rfl, hS, Grows.refl _, rfl⟩
            · intro a W hS hE hD
              have k23 : a.tmps.getD 23 undef = .pointer (some ⟨b2, f2 + i * 14, none⟩) := hD 6 23 (by kernel_rfl)
              refine plan_free rfl ?_
              refine plan_value (ex_loadE k23 Y.out.d6 (R2.out W hS)) ⟨_, rfl, hS, Grows.refl _, rfl⟩
            · intro a W hS hE hD
              have k20 : a.tmps.getD 20 undef = .agg (evA x) := hD 3 20 (by kernel_rfl)
              have k24 : a.tmps.getD 24 undef = .agg (evA y) := hD 7 24 (by kernel_rfl)
              refine plan_free rfl ?_
              refine plan_value (v := .bool true) (w' := W) (by go_simp) ⟨_, rfl, hS, Grows.refl _, rfl⟩
          · intro f w9 V9 hE
            have f25 : f 25 = .bool true := Ends.get hE 8 _ rfl 25 rfl
            clear hE
            simp only [setAll, List.setIfInBounds_toArray, List.set_cons_zero, List.set_cons_succ]
            rw [f25]; clear f25
            have hbh := Lib.hid V9
            clear V9 hbw
            go_wp2_with fail
            go_ret
            exact ⟨by rw [hf.out]; rfl, hbh.out⟩
      · have hge : ¬ (i : Int) < (n1 : Int) := by omega
        have hf : Hid (r = true) := by
          apply HR.out.2
          have h := HEQ.out
          rwa [List.take_of_length_le (by rw [← N1.out]; omega), List.take_of_length_le (by rw [← N2.out]; omega)] at h
        have hbh := Lib.hid hbw
        clear hbw
        go_wp2_with fail
        go_ret
        exact ⟨by rw [hf.out]; rfl, hbh.out⟩
end Go.Proofs.Ytjihbjjekhncaaa
