/-
  For all rights, every three regions and every amount: of rights that may be, what is moved to another region is there and not here, the sums stay, moved back all is where it was, and moved on to a third region all is as if it had been moved there at once; no further conditions.
-/
import Derived.Test.YtdliklkfhakmhaaRows
import Derived.WalkKit
import Derived.ProofKit
import Derived.OpenShut
import Derived.ShutString
import Derived.ChangeOld
import Derived.Below
import Derived.Test.YtdliklkfhakmhaaRgT
import Derived.Deep.DeepCutAuto
namespace Go.Proofs.Ytdliklkfhakmhaa.rightsBack
open Go.ChangeShapes Go.WideShapes Go.ChangeAt Go.RowKit
open Go.ChangeMaps (open_string shut_string)
set_option linter.unusedVariables false

theorem own : ownKnob Try.prog.godebug = none := by kernel_rfl
theorem laidOut : laidOutB Try.prog = true := by kernel_rfl

attribute [local go_sem ↓] exec_loadR exec_storeR exec_allocR exec_buildR

set_option maxRecDepth 100000 in
set_option maxHeartbeats 2000000 in
theorem walk (L0 : List Int) (a1 : Int) (a2 : Int) (a3 : Int) (a4 : Int) (w : World) (w0 : L0.length = 54) (u0 : WfR L0) (w1 : (Lit.int .i64 a1).wf = true) (w2 : (Lit.int .i64 a2).wf = true) (w3 : (Lit.int .i64 a3).wf = true) (w4 : (Lit.int .i64 a4).wf = true) :
    Calls Try.prog 13 #[.agg (rgtA L0), .int .i64 a1, .int .i64 a2, .int .i64 a3, .int .i64 a4] w fun e w' => e = .returned (.bool true) ∧ Below w.heap.size w w' := by
  have W0 := Lib.hid w0
  have bR := run_buildR
  have aR := run_allocR
  have V1 : Rs w (w.alloc (.cells (rgtA L0) 66)) [(w.heap.size, L0)] := (Rs.nil w).new w0 _ rfl
  have MAY := Lib.hid (mayR_any L0 w0)
  have qZ : ∀ W, (Op.equalIn 10000 66 (.agg (rgtA Z54)) (.agg (rgtA Z54))).run Try.prog W = .ok true W := rgt_same rfl wf_z54 rfl
  have l0 := Rs.load (w := w) (l := [(w.heap.size, L0)]) 0 rfl
  clear u0
  cases hm : mayR L0
  case false =>
    rw [hm] at MAY
    clear hm
    go_enter Try.func13, Try.ntmps13
    go_wp2_with fail
    refine (MAY.out _).mono ?_
    rintro e w2 ⟨rfl, hb⟩
    have V2 := V1.next hb
    clear hb V1
    go_wp2_with fail
    refine (rgworks_any _).mono ?_
    rintro e w3 ⟨rfl, hb⟩
    have V3 := (V2.next hb).bel
    clear hb V2
    go_wp2_with fail
    go_ret
    exact ⟨rfl, V3⟩
  case true =>
    rw [hm] at MAY
    obtain ⟨A, e0, hE⟩ : ∃ M e, moveR L0 a1 a2 a4 = (M, e) := ⟨_, _, rfl⟩
    have HA := Lib.hid (moveR_len w0 hE)
    have MV : Hid (∀ W, Calls Try.prog 50 #[.agg (rgtA L0), .int .i64 a1, .int .i64 a2, .int .i64 a4] W fun e w' => e = .returned (.tuple #[.agg (rgtA A), .int .i64 e0]) ∧ Below W.heap.size W w') := by
      intro W; have := move_any L0 w0 a1 a2 a4 W; rwa [hE] at this
    have S0 : Hid (∀ W, Calls Try.prog 48 #[.agg (rgtA L0)] W fun e w' => e = .returned (.tuple #[.int .i64 (limitR L0), .int .i64 (usedR L0)]) ∧ Below W.heap.size W w') := by
      intro W; have := sums_any L0 w0 W; rwa [sums_may hm] at this
    by_cases he : e0 = 0
    case neg =>
      obtain rfl := moveR_no hE he
      have HB0 : Hid ((e0 != 0) = true) := by show _ = _; simpa using he
      have hb0 : (e0 != 0) = true := HB0.out
      have sZ := run_storeR_new (L := Z54) rfl
      generalize limitR L0 = lm at S0
      generalize usedR L0 = us at S0
      clear hE hm
      go_enter Try.func13, Try.ntmps13
      go_wp2_with fail
      refine (MAY.out _).mono ?_
      rintro e w2 ⟨rfl, hb⟩
      have V2 := V1.next hb
      clear hb V1
      go_wp2_with fail
      refine (S0.out _).mono ?_
      rintro e w3 ⟨rfl, hb⟩
      have V3 := V2.next hb
      clear hb V2
      go_wp2_with fail
      refine (MV.out _).mono ?_
      rintro e w4 ⟨rfl, hb⟩
      have V4 : Rs w (w4.alloc (.cells (rgtA Z54) 66)) [(w.heap.size, L0), (w4.heap.size, Z54)] := (V3.next hb).new rfl _ rfl
      have l1 := Rs.load (w := w) (l := [(w.heap.size, L0), (w4.heap.size, Z54)]) 1 rfl
      clear hb V3
      go_wp2_with fail
      refine (rgworks_any _).mono ?_
      rintro e w5 ⟨rfl, hb⟩
      have V5 := (V4.next hb).bel
      clear hb V4
      go_wp2_with fail
      go_ret
      exact ⟨rfl, V5⟩
    case pos =>
      subst he
      obtain ⟨g1, gl, gu, gx, gij, _⟩ := moveR_goes w0 hm hE
      obtain ⟨B, f0, hF⟩ : ∃ M e, moveR A a2 a1 a4 = (M, e) := ⟨_, _, rfl⟩
      obtain ⟨CC, g0, hG⟩ : ∃ M e, moveR A a2 a3 a4 = (M, e) := ⟨_, _, rfl⟩
      obtain ⟨D, h0, hH⟩ : ∃ M e, moveR L0 a1 a3 a4 = (M, e) := ⟨_, _, rfl⟩
      have HB := Lib.hid (moveR_len HA.out hF)
      have HC := Lib.hid (moveR_len HA.out hG)
      have HD := Lib.hid (moveR_len w0 hH)
      have MVB : Hid (∀ W, Calls Try.prog 50 #[.agg (rgtA A), .int .i64 a2, .int .i64 a1, .int .i64 a4] W fun e w' => e = .returned (.tuple #[.agg (rgtA B), .int .i64 f0]) ∧ Below W.heap.size W w') := by
        intro W; have := move_any A HA.out a2 a1 a4 W; rwa [hF] at this
      have MVC : Hid (∀ W, Calls Try.prog 50 #[.agg (rgtA A), .int .i64 a2, .int .i64 a3, .int .i64 a4] W fun e w' => e = .returned (.tuple #[.agg (rgtA CC), .int .i64 g0]) ∧ Below W.heap.size W w') := by
        intro W; have := move_any A HA.out a2 a3 a4 W; rwa [hG] at this
      have MVD : Hid (∀ W, Calls Try.prog 50 #[.agg (rgtA L0), .int .i64 a1, .int .i64 a3, .int .i64 a4] W fun e w' => e = .returned (.tuple #[.agg (rgtA D), .int .i64 h0]) ∧ Below W.heap.size W w') := by
        intro W; have := move_any L0 w0 a1 a3 a4 W; rwa [hH] at this
      have SA : Hid (∀ W, Calls Try.prog 48 #[.agg (rgtA A)] W fun e w' => e = .returned (.tuple #[.int .i64 (limitR L0), .int .i64 (usedR L0)]) ∧ Below W.heap.size W w') := by
        intro W; have := sums_any A HA.out W; rwa [sums_may g1.may, gu, g1.lim, Int.add_zero] at this
      have MAYA : Hid (∀ W, Calls Try.prog 47 #[.agg (rgtA A)] W fun e w' => e = .returned (.bool true) ∧ Below W.heap.size W w') := by
        intro W; have := mayR_any A HA.out W; rwa [g1.may] at this
      have QB : Hid (f0 = 0 → ∀ z, 1 ≤ z → z ≤ 6 → localR B z = localR L0 z) := by
        intro h z h1 h2
        subst h
        obtain ⟨_, k1, _⟩ := moveR_goes HA.out g1.may hF
        rw [k1 z h1 h2, gl z h1 h2]; omega
      have QC : Hid (g0 = 0 → h0 = 0 → ∀ z, 1 ≤ z → z ≤ 6 → localR CC z = localR D z) := by
        intro h h' z h1 h2
        subst h h'
        obtain ⟨_, k1, _⟩ := moveR_goes HA.out g1.may hG
        obtain ⟨_, k2, _⟩ := moveR_goes w0 hm hH
        rw [k1 z h1 h2, k2 z h1 h2, gl z h1 h2]; omega
      have QA : Hid (∀ z, 1 ≤ z → z ≤ 6 → (0 ≤ localR L0 z ∧ localR L0 z ≤ 9007199254740992) ∧ localR A z = localR L0 z + dI a2 a4 z - dI a1 a4 z) := fun z h1 h2 => ⟨local_bd hm z h1 h2, gl z h1 h2⟩
      have LL := Lib.hid (local_any L0 w0)
      have LA := Lib.hid (local_any A HA.out)
      have LB := Lib.hid (local_any B HB.out)
      have LC := Lib.hid (local_any CC HC.out)
      have LD := Lib.hid (local_any D HD.out)
      have sA := run_storeR_new HA.out
      have sB := run_storeR_new HB.out
      have sC := run_storeR_new HC.out
      have sD := run_storeR_new HD.out
      obtain ⟨gx1, gx2⟩ := gx
      generalize limitR L0 = lm at S0 SA
      generalize usedR L0 = us at S0 SA
      have GIJ := Lib.hid gij
      clear hE hF hG hH g1 gl gu hm gij w0
      go_enter Try.func13, Try.ntmps13
      go_wp2_with fail
      refine (MAY.out _).mono ?_
      rintro e w2 ⟨rfl, hb⟩
      have V2 := V1.next hb
      clear hb V1
      go_wp2_with fail
      refine (S0.out _).mono ?_
      rintro e w3 ⟨rfl, hb⟩
      have V3 := V2.next hb
      clear hb V2
      go_wp2_with fail
      refine (MV.out _).mono ?_
      rintro e w4 ⟨rfl, hb⟩
      have V4 : Rs w (w4.alloc (.cells (rgtA A) 66)) [(w.heap.size, L0), (w4.heap.size, A)] := (V3.next hb).new HA.out _ rfl
      have l0 := Rs.load (w := w) (l := [(w.heap.size, L0), (w4.heap.size, A)]) 0 rfl
      have l1 := Rs.load (w := w) (l := [(w.heap.size, L0), (w4.heap.size, A)]) 1 rfl
      clear hb V3
      go_wp2_with fail
      go_loopw [15, 16] (fun v _ wr => ∃ z : Int, 1 ≤ z ∧ z ≤ 7 ∧ v = .int .i64 z ∧ Rs w wr [(w.heap.size, L0), (w4.heap.size, A)]) (fun v _ _ => (7 - intOf v).toNat)
      case atStart => exact ⟨1, by omega, by omega, rfl, V4⟩
      case round =>
        clear V4
        obtain ⟨z, hz1, hz7, rfl, V⟩ := hrel
        by_cases hlt : z ≤ 6
        · obtain ⟨⟨b1, b2⟩, qa⟩ := QA.out z hz1 hlt
          have CL := Lib.hid (LL.out z)
          have CA := Lib.hid (LA.out z)
          rw [qa] at CA
          clear qa
          generalize localR L0 z = X at CL CA b1 b2
          have hcase : (z = a1 ∧ (a1 == a2) = false ∧ X + dI a2 a4 z - dI a1 a4 z = X - a4) ∨ ((z == a1) = false ∧ z = a2 ∧ X + dI a2 a4 z - dI a1 a4 z = X + a4) ∨ ((z == a1) = false ∧ (z == a2) = false ∧ X + dI a2 a4 z - dI a1 a4 z = X) := by
            have hne := GIJ.out
            unfold dI
            by_cases h1 : z = a1
            · exact .inl ⟨h1, by simpa using hne, by rw [if_neg (by omega), if_pos h1]; omega⟩
            by_cases h2 : z = a2
            · exact .inr (.inl ⟨by simpa using h1, h2, by rw [if_pos h2, if_neg h1]; omega⟩)
            · exact .inr (.inr ⟨by simpa using h1, by simpa using h2, by rw [if_neg h1, if_neg h2]; omega⟩)
          rcases hcase with ⟨h1, h2, h3⟩ | ⟨h1, h2, h3⟩ | ⟨h1, h2, h3⟩
          case' inl => subst h1
          case' inr.inl => subst h2
          all_goals
            rw [h3] at CA
            clear h3
            go_wp2_with fail
            refine (CL.out _).mono ?_
            rintro e w5 ⟨rfl, hb⟩
            have V5 := V.next hb
            clear hb V
            go_wp2_with fail
            refine (CA.out _).mono ?_
            rintro e w6 ⟨rfl, hb⟩
            have V6 := V5.next hb
            clear hb V5
            go_wp2_with fail
            go_roundw
            case rel => exact ⟨_, by omega, by omega, rfl, V6⟩
            case measure => simp [intOf]; omega
        · obtain rfl : z = 7 := by omega
          clear hlt
          go_wp2_with fail
          refine (SA.out _).mono ?_
          rintro e w5 ⟨rfl, hb⟩
          have V5 := V.next hb
          clear hb V
          go_wp2_with fail
          refine (MAYA.out _).mono ?_
          rintro e w6 ⟨rfl, hb⟩
          have V6 := V5.next hb
          clear hb V5
          go_wp2_with fail
          refine (MVB.out _).mono ?_
          rintro e w7 ⟨rfl, hb⟩
          have V7 : Rs w (w7.alloc (.cells (rgtA B) 66)) [(w.heap.size, L0), (w4.heap.size, A), (w7.heap.size, B)] := (V6.next hb).new HB.out _ rfl
          have l0 := Rs.load (w := w) (l := [(w.heap.size, L0), (w4.heap.size, A), (w7.heap.size, B)]) 0 rfl
          have l1 := Rs.load (w := w) (l := [(w.heap.size, L0), (w4.heap.size, A), (w7.heap.size, B)]) 1 rfl
          clear hb V6
          by_cases hf : f0 = 0
          · subst hf
            have QBB := Lib.hid (QB.out rfl)
            go_wp2_with fail
            go_loopw [21] (fun v wr => ∃ z : Int, 1 ≤ z ∧ z ≤ 7 ∧ v = .int .i64 z ∧ Rs w wr [(w.heap.size, L0), (w4.heap.size, A), (w7.heap.size, B)]) (fun v _ => (7 - intOf v).toNat)
            case atStart => exact ⟨1, by omega, by omega, rfl, V7⟩
            case round =>
              clear V7
              obtain ⟨z, hz1, hz7, rfl, V⟩ := hrel
              by_cases hlt : z ≤ 6
              · have qa := QBB.out z hz1 hlt
                have CX := Lib.hid (LB.out z)
                have CY := Lib.hid (LL.out z)
                rw [qa] at CX
                clear qa
                generalize localR L0 z = Y0 at CX CY
                go_wp2_with fail
                refine wp_region_plan (fun W => Rs w W [(w.heap.size, L0), (w4.heap.size, A), (w7.heap.size, B)]) Grows [IsV (.agg (rgtA B)), IsV (.int .i64 z), IsV (.int .i64 Y0), IsV (.agg (rgtA L0)), IsV (.int .i64 z), IsV (.int .i64 Y0), IsV (.bool false)] ([(5, .pointer (some ⟨w.heap.size, 0, none⟩)), (19, .pointer (some ⟨w7.heap.size, 0, none⟩)), (21, .int .i64 z)] : List (Nat × Value)) (⟨rfl, rfl, rfl, trivial⟩) (n := 149) (by kernel_rfl) rfl (by kernel_rfl) V.drew Grows.refl (StabAll.get ?_) ?_ ?_
                · repeat (first | exact trivial | refine ⟨stab_c _, ?_⟩ | refine ⟨stab_two _ _, ?_⟩ | refine ⟨fun _ _ _ _ _ _ _ => trivial, ?_⟩)
                · refine ⟨?_, ⟨?_, ⟨?_, ⟨?_, ⟨?_, ⟨?_, ⟨?_, trivial⟩⟩⟩⟩⟩⟩⟩
                  · intro a W hS hE hD
                    obtain ⟨_, x19, _, _⟩ := hE
                    have e19 := x19 (by kernel_rfl)
                    refine plan_free rfl ?_
                    have k19 := e19
                    refine plan_value (ex_loadR k19 (hS.nth 2 rfl)) ⟨_, rfl, hS, Grows.refl _, rfl⟩
                  · intro a W hS hE hD
                    obtain ⟨_, _, x21, _⟩ := hE
                    have e21 := x21 (by kernel_rfl)
                    refine plan_free rfl ?_
                    refine plan_value ex_move ⟨_, rfl, hS, Grows.refl _, ?_⟩
                    exact e21
                  · intro a W hS hE hD
                    have k108 : a.tmps.getD 108 undef = .agg (rgtA B) := hD 0 108 (by kernel_rfl)
                    have k109 : a.tmps.getD 109 undef = .int .i64 z := hD 1 109 (by kernel_rfl)
                    refine plan_free rfl ?_
                    refine plan_call (f := 49) (args := #[a.tmps.getD 108 undef, a.tmps.getD 109 undef]) (by kernel_rfl) ?_
                    rw [k108, k109]
                    refine (CX.out W).mono ?_
                    rintro e W2 ⟨rfl, hb⟩
                    refine ⟨_, rfl, _, rfl, hS.next hb, hb, ?_⟩
                    exact rfl
                  · intro a W hS hE hD
                    obtain ⟨x5, _, _, _⟩ := hE
                    have e5 := x5 (by kernel_rfl)
                    refine plan_free rfl ?_
                    have k5 := e5
                    refine plan_value (ex_loadR k5 (hS.nth 0 rfl)) ⟨_, rfl, hS, Grows.refl _, rfl⟩
                  · intro a W hS hE hD
                    obtain ⟨_, _, x21, _⟩ := hE
                    have e21 := x21 (by kernel_rfl)
                    refine plan_free rfl ?_
                    refine plan_value ex_move ⟨_, rfl, hS, Grows.refl _, ?_⟩
                    exact e21
                  · intro a W hS hE hD
                    have k111 : a.tmps.getD 111 undef = .agg (rgtA L0) := hD 3 111 (by kernel_rfl)
                    have k112 : a.tmps.getD 112 undef = .int .i64 z := hD 4 112 (by kernel_rfl)
                    refine plan_free rfl ?_
                    refine plan_call (f := 49) (args := #[a.tmps.getD 111 undef, a.tmps.getD 112 undef]) (by kernel_rfl) ?_
                    rw [k111, k112]
                    refine (CY.out W).mono ?_
                    rintro e W2 ⟨rfl, hb⟩
                    refine ⟨_, rfl, _, rfl, hS.next hb, hb, ?_⟩
                    exact rfl
                  · intro a W hS hE hD
                    have k110 : a.tmps.getD 110 undef = .int .i64 Y0 := hD 2 110 (by kernel_rfl)
                    have k113 : a.tmps.getD 113 undef = .int .i64 Y0 := hD 5 113 (by kernel_rfl)
                    refine plan_free rfl ?_
                    refine plan_value (v := .bool false) (w' := W) (by go_simp) ⟨_, rfl, hS, Grows.refl _, rfl⟩
                · intro f w6 V6 hE
                  have f114 : f 114 = .bool false := Ends.get hE 6 _ rfl 114 rfl
                  clear hE
                  simp only [setAll, List.setIfInBounds_toArray, List.set_cons_zero, List.set_cons_succ]
                  rw [f114]; clear f114
                  clear V
                  go_wp2_with fail
                  go_roundw
                  case rel => exact ⟨_, by omega, by omega, rfl, V6⟩
                  case measure => simp [intOf]; omega
              · obtain rfl : z = 7 := by omega
                clear hlt
                have l1 := Rs.load (w := w) (l := [(w.heap.size, L0), (w4.heap.size, A), (w7.heap.size, B)]) 1 rfl
                go_wp2_with fail
                refine (MVC.out _).mono ?_
                rintro e w8 ⟨rfl, hb⟩
                have V8 : Rs w (w8.alloc (.cells (rgtA CC) 66)) [(w.heap.size, L0), (w4.heap.size, A), (w7.heap.size, B), (w8.heap.size, CC)] := (V.next hb).new HC.out _ rfl
                have l0 := Rs.load (w := w) (l := [(w.heap.size, L0), (w4.heap.size, A), (w7.heap.size, B), (w8.heap.size, CC)]) 0 rfl
                clear hb V
                go_wp2_with fail
                refine (MVD.out _).mono ?_
                rintro e w9 ⟨rfl, hb⟩
                have V9 : Rs w (w9.alloc (.cells (rgtA D) 66)) [(w.heap.size, L0), (w4.heap.size, A), (w7.heap.size, B), (w8.heap.size, CC), (w9.heap.size, D)] := (V8.next hb).new HD.out _ rfl
                clear hb V8
                by_cases hg : g0 = 0
                · by_cases hh : h0 = 0
                  · subst hg hh
                    have QCC := Lib.hid (QC.out rfl rfl)
                    go_wp2_with fail
                    go_loopw [26] (fun v wr => ∃ z : Int, 1 ≤ z ∧ z ≤ 7 ∧ v = .int .i64 z ∧ Rs w wr [(w.heap.size, L0), (w4.heap.size, A), (w7.heap.size, B), (w8.heap.size, CC), (w9.heap.size, D)]) (fun v _ => (7 - intOf v).toNat)
                    case atStart => exact ⟨1, by omega, by omega, rfl, V9⟩
                    case round =>
                      clear V9
                      obtain ⟨z, hz1, hz7, rfl, V⟩ := hrel
                      by_cases hlt : z ≤ 6
                      · have qa := QCC.out z hz1 hlt
                        have CX := Lib.hid (LC.out z)
                        have CY := Lib.hid (LD.out z)
                        rw [qa] at CX
                        clear qa
                        generalize localR D z = Y0 at CX CY
                        go_wp2_with fail
                        refine wp_region_plan (fun W => Rs w W [(w.heap.size, L0), (w4.heap.size, A), (w7.heap.size, B), (w8.heap.size, CC), (w9.heap.size, D)]) Grows [IsV (.agg (rgtA CC)), IsV (.int .i64 z), IsV (.int .i64 Y0), IsV (.agg (rgtA D)), IsV (.int .i64 z), IsV (.int .i64 Y0), IsV (.bool false)] ([(22, .pointer (some ⟨w8.heap.size, 0, none⟩)), (24, .pointer (some ⟨w9.heap.size, 0, none⟩)), (26, .int .i64 z)] : List (Nat × Value)) (⟨rfl, rfl, rfl, trivial⟩) (n := 149) (by kernel_rfl) rfl (by kernel_rfl) V.drew Grows.refl (StabAll.get ?_) ?_ ?_
                        · repeat (first | exact trivial | refine ⟨stab_c _, ?_⟩ | refine ⟨stab_two _ _, ?_⟩ | refine ⟨fun _ _ _ _ _ _ _ => trivial, ?_⟩)
                        · refine ⟨?_, ⟨?_, ⟨?_, ⟨?_, ⟨?_, ⟨?_, ⟨?_, trivial⟩⟩⟩⟩⟩⟩⟩
                          · intro a W hS hE hD
                            obtain ⟨x22, _, _, _⟩ := hE
                            have e22 := x22 (by kernel_rfl)
                            refine plan_free rfl ?_
                            have k22 := e22
                            refine plan_value (ex_loadR k22 (hS.nth 3 rfl)) ⟨_, rfl, hS, Grows.refl _, rfl⟩
                          · intro a W hS hE hD
                            obtain ⟨_, _, x26, _⟩ := hE
                            have e26 := x26 (by kernel_rfl)
                            refine plan_free rfl ?_
                            refine plan_value ex_move ⟨_, rfl, hS, Grows.refl _, ?_⟩
                            exact e26
                          · intro a W hS hE hD
                            have k141 : a.tmps.getD 141 undef = .agg (rgtA CC) := hD 0 141 (by kernel_rfl)
                            have k142 : a.tmps.getD 142 undef = .int .i64 z := hD 1 142 (by kernel_rfl)
                            refine plan_free rfl ?_
                            refine plan_call (f := 49) (args := #[a.tmps.getD 141 undef, a.tmps.getD 142 undef]) (by kernel_rfl) ?_
                            rw [k141, k142]
                            refine (CX.out W).mono ?_
                            rintro e W2 ⟨rfl, hb⟩
                            refine ⟨_, rfl, _, rfl, hS.next hb, hb, ?_⟩
                            exact rfl
                          · intro a W hS hE hD
                            obtain ⟨_, x24, _, _⟩ := hE
                            have e24 := x24 (by kernel_rfl)
                            refine plan_free rfl ?_
                            have k24 := e24
                            refine plan_value (ex_loadR k24 (hS.nth 4 rfl)) ⟨_, rfl, hS, Grows.refl _, rfl⟩
                          · intro a W hS hE hD
                            obtain ⟨_, _, x26, _⟩ := hE
                            have e26 := x26 (by kernel_rfl)
                            refine plan_free rfl ?_
                            refine plan_value ex_move ⟨_, rfl, hS, Grows.refl _, ?_⟩
                            exact e26
                          · intro a W hS hE hD
                            have k144 : a.tmps.getD 144 undef = .agg (rgtA D) := hD 3 144 (by kernel_rfl)
                            have k145 : a.tmps.getD 145 undef = .int .i64 z := hD 4 145 (by kernel_rfl)
                            refine plan_free rfl ?_
                            refine plan_call (f := 49) (args := #[a.tmps.getD 144 undef, a.tmps.getD 145 undef]) (by kernel_rfl) ?_
                            rw [k144, k145]
                            refine (CY.out W).mono ?_
                            rintro e W2 ⟨rfl, hb⟩
                            refine ⟨_, rfl, _, rfl, hS.next hb, hb, ?_⟩
                            exact rfl
                          · intro a W hS hE hD
                            have k143 : a.tmps.getD 143 undef = .int .i64 Y0 := hD 2 143 (by kernel_rfl)
                            have k146 : a.tmps.getD 146 undef = .int .i64 Y0 := hD 5 146 (by kernel_rfl)
                            refine plan_free rfl ?_
                            refine plan_value (v := .bool false) (w' := W) (by go_simp) ⟨_, rfl, hS, Grows.refl _, rfl⟩
                        · intro f w6 V6 hE
                          have f147 : f 147 = .bool false := Ends.get hE 6 _ rfl 147 rfl
                          clear hE
                          simp only [setAll, List.setIfInBounds_toArray, List.set_cons_zero, List.set_cons_succ]
                          rw [f147]; clear f147
                          clear V
                          go_wp2_with fail
                          go_roundw
                          case rel => exact ⟨_, by omega, by omega, rfl, V6⟩
                          case measure => simp [intOf]; omega
                      · obtain rfl : z = 7 := by omega
                        clear hlt
                        go_wp2_with fail
                        refine (rgworks_any _).mono ?_
                        rintro e w10 ⟨rfl, hb⟩
                        have VF := (V.next hb).bel
                        clear hb V
                        go_wp2_with fail
                        go_ret
                        exact ⟨rfl, VF⟩
                  · subst hg
                    have hh1 : (h0 == 0) = false := by simpa using hh
                    go_wp2_with fail
                    refine (rgworks_any _).mono ?_
                    rintro e w10 ⟨rfl, hb⟩
                    have VF := (V9.next hb).bel
                    clear hb V9
                    go_wp2_with fail
                    go_ret
                    exact ⟨rfl, VF⟩
                · have hg1 : (g0 == 0) = false := by simpa using hg
                  go_wp2_with fail
                  refine (rgworks_any _).mono ?_
                  rintro e w10 ⟨rfl, hb⟩
                  have VF := (V9.next hb).bel
                  clear hb V9
                  go_wp2_with fail
                  go_ret
                  exact ⟨rfl, VF⟩
          · have hf1 : (f0 == 0) = false := by simpa using hf
            go_wp2_with fail
            refine (MVC.out _).mono ?_
            rintro e w8 ⟨rfl, hb⟩
            have V8 : Rs w (w8.alloc (.cells (rgtA CC) 66)) [(w.heap.size, L0), (w4.heap.size, A), (w7.heap.size, B), (w8.heap.size, CC)] := (V7.next hb).new HC.out _ rfl
            have l0 := Rs.load (w := w) (l := [(w.heap.size, L0), (w4.heap.size, A), (w7.heap.size, B), (w8.heap.size, CC)]) 0 rfl
            clear hb V7
            go_wp2_with fail
            refine (MVD.out _).mono ?_
            rintro e w9 ⟨rfl, hb⟩
            have V9 : Rs w (w9.alloc (.cells (rgtA D) 66)) [(w.heap.size, L0), (w4.heap.size, A), (w7.heap.size, B), (w8.heap.size, CC), (w9.heap.size, D)] := (V8.next hb).new HD.out _ rfl
            clear hb V8
            by_cases hg : g0 = 0
            · by_cases hh : h0 = 0
              · subst hg hh
                have QCC := Lib.hid (QC.out rfl rfl)
                go_wp2_with fail
                go_loopw [26] (fun v wr => ∃ z : Int, 1 ≤ z ∧ z ≤ 7 ∧ v = .int .i64 z ∧ Rs w wr [(w.heap.size, L0), (w4.heap.size, A), (w7.heap.size, B), (w8.heap.size, CC), (w9.heap.size, D)]) (fun v _ => (7 - intOf v).toNat)
                case atStart => exact ⟨1, by omega, by omega, rfl, V9⟩
                case round =>
                  clear V9
                  obtain ⟨z, hz1, hz7, rfl, V⟩ := hrel
                  by_cases hlt : z ≤ 6
                  · have qa := QCC.out z hz1 hlt
                    have CX := Lib.hid (LC.out z)
                    have CY := Lib.hid (LD.out z)
                    rw [qa] at CX
                    clear qa
                    generalize localR D z = Y0 at CX CY
                    go_wp2_with fail
                    refine wp_region_plan (fun W => Rs w W [(w.heap.size, L0), (w4.heap.size, A), (w7.heap.size, B), (w8.heap.size, CC), (w9.heap.size, D)]) Grows [IsV (.agg (rgtA CC)), IsV (.int .i64 z), IsV (.int .i64 Y0), IsV (.agg (rgtA D)), IsV (.int .i64 z), IsV (.int .i64 Y0), IsV (.bool false)] ([(22, .pointer (some ⟨w8.heap.size, 0, none⟩)), (24, .pointer (some ⟨w9.heap.size, 0, none⟩)), (26, .int .i64 z)] : List (Nat × Value)) (⟨rfl, rfl, rfl, trivial⟩) (n := 149) (by kernel_rfl) rfl (by kernel_rfl) V.drew Grows.refl (StabAll.get ?_) ?_ ?_
                    · repeat (first | exact trivial | refine ⟨stab_c _, ?_⟩ | refine ⟨stab_two _ _, ?_⟩ | refine ⟨fun _ _ _ _ _ _ _ => trivial, ?_⟩)
                    · refine ⟨?_, ⟨?_, ⟨?_, ⟨?_, ⟨?_, ⟨?_, ⟨?_, trivial⟩⟩⟩⟩⟩⟩⟩
                      · intro a W hS hE hD
                        obtain ⟨x22, _, _, _⟩ := hE
                        have e22 := x22 (by kernel_rfl)
                        refine plan_free rfl ?_
                        have k22 := e22
                        refine plan_value (ex_loadR k22 (hS.nth 3 rfl)) ⟨_, rfl, hS, Grows.refl _, rfl⟩
                      · intro a W hS hE hD
                        obtain ⟨_, _, x26, _⟩ := hE
                        have e26 := x26 (by kernel_rfl)
                        refine plan_free rfl ?_
                        refine plan_value ex_move ⟨_, rfl, hS, Grows.refl _, ?_⟩
                        exact e26
                      · intro a W hS hE hD
                        have k141 : a.tmps.getD 141 undef = .agg (rgtA CC) := hD 0 141 (by kernel_rfl)
                        have k142 : a.tmps.getD 142 undef = .int .i64 z := hD 1 142 (by kernel_rfl)
                        refine plan_free rfl ?_
                        refine plan_call (f := 49) (args := #[a.tmps.getD 141 undef, a.tmps.getD 142 undef]) (by kernel_rfl) ?_
                        rw [k141, k142]
                        refine (CX.out W).mono ?_
                        rintro e W2 ⟨rfl, hb⟩
                        refine ⟨_, rfl, _, rfl, hS.next hb, hb, ?_⟩
                        exact rfl
                      · intro a W hS hE hD
                        obtain ⟨_, x24, _, _⟩ := hE
                        have e24 := x24 (by kernel_rfl)
                        refine plan_free rfl ?_
                        have k24 := e24
                        refine plan_value (ex_loadR k24 (hS.nth 4 rfl)) ⟨_, rfl, hS, Grows.refl _, rfl⟩
                      · intro a W hS hE hD
                        obtain ⟨_, _, x26, _⟩ := hE
                        have e26 := x26 (by kernel_rfl)
                        refine plan_free rfl ?_
                        refine plan_value ex_move ⟨_, rfl, hS, Grows.refl _, ?_⟩
                        exact e26
                      · intro a W hS hE hD
                        have k144 : a.tmps.getD 144 undef = .agg (rgtA D) := hD 3 144 (by kernel_rfl)
                        have k145 : a.tmps.getD 145 undef = .int .i64 z := hD 4 145 (by kernel_rfl)
                        refine plan_free rfl ?_
                        refine plan_call (f := 49) (args := #[a.tmps.getD 144 undef, a.tmps.getD 145 undef]) (by kernel_rfl) ?_
                        rw [k144, k145]
                        refine (CY.out W).mono ?_
                        rintro e W2 ⟨rfl, hb⟩
                        refine ⟨_, rfl, _, rfl, hS.next hb, hb, ?_⟩
                        exact rfl
                      · intro a W hS hE hD
                        have k143 : a.tmps.getD 143 undef = .int .i64 Y0 := hD 2 143 (by kernel_rfl)
                        have k146 : a.tmps.getD 146 undef = .int .i64 Y0 := hD 5 146 (by kernel_rfl)
                        refine plan_free rfl ?_
                        refine plan_value (v := .bool false) (w' := W) (by go_simp) ⟨_, rfl, hS, Grows.refl _, rfl⟩
                    · intro f w6 V6 hE
                      have f147 : f 147 = .bool false := Ends.get hE 6 _ rfl 147 rfl
                      clear hE
                      simp only [setAll, List.setIfInBounds_toArray, List.set_cons_zero, List.set_cons_succ]
                      rw [f147]; clear f147
                      clear V
                      go_wp2_with fail
                      go_roundw
                      case rel => exact ⟨_, by omega, by omega, rfl, V6⟩
                      case measure => simp [intOf]; omega
                  · obtain rfl : z = 7 := by omega
                    clear hlt
                    go_wp2_with fail
                    refine (rgworks_any _).mono ?_
                    rintro e w10 ⟨rfl, hb⟩
                    have VF := (V.next hb).bel
                    clear hb V
                    go_wp2_with fail
                    go_ret
                    exact ⟨rfl, VF⟩
              · subst hg
                have hh1 : (h0 == 0) = false := by simpa using hh
                go_wp2_with fail
                refine (rgworks_any _).mono ?_
                rintro e w10 ⟨rfl, hb⟩
                have VF := (V9.next hb).bel
                clear hb V9
                go_wp2_with fail
                go_ret
                exact ⟨rfl, VF⟩
            · have hg1 : (g0 == 0) = false := by simpa using hg
              go_wp2_with fail
              refine (rgworks_any _).mono ?_
              rintro e w10 ⟨rfl, hb⟩
              have VF := (V9.next hb).bel
              clear hb V9
              go_wp2_with fail
              go_ret
              exact ⟨rfl, VF⟩

set_option maxRecDepth 100000 in
theorem lifted (os : Os) (started : os.Started) (H : Type) (enc : TypeId × Value → H) :
    ReturnsInHanded {} Try.checked os 13 .any (Rows.rightsBackSpec.pre6 enc Try.prog Try.f13 Rows.rightsBackRow.domain false) (Rows.rightsBackSpec.post enc Try.prog Try.f13 false true false false) := by
  refine returnsInHanded_of_change (C := Try.checked) own started (by kernel_rfl) Try.func13
    (ChangeSpec.witness6 (enc := enc) (C := Try.checked) false ⟨#[], #[.agg #[.int .i64 0, .int .i64 0, .int .i64 0, .int .i64 0, .int .i64 0, .int .i64 0, .int .i64 0, .int .i64 0, .int .i64 0, .int .i64 0, .int .i64 0, .int .i64 0, .int .i64 0, .int .i64 0, .int .i64 0, .int .i64 0, .int .i64 0, .int .i64 0, .int .i64 0, .int .i64 0, .int .i64 0, .int .i64 0, .int .i64 0, .int .i64 0, .int .i64 0, .int .i64 0, .int .i64 0, .int .i64 0, .int .i64 0, .int .i64 0, .int .i64 0, .int .i64 0, .int .i64 0, .int .i64 0, .int .i64 0, .int .i64 0, .int .i64 0, .int .i64 0, .int .i64 0, .int .i64 0, .int .i64 0, .int .i64 0, .int .i64 0, .int .i64 0, .int .i64 0, .int .i64 0, .int .i64 0, .int .i64 0, .int .i64 0, .int .i64 0, .int .i64 0, .int .i64 0, .int .i64 0, .int .i64 0], .int .i64 0, .int .i64 0, .int .i64 0, .int .i64 0], []⟩ 8 (by kernel_rfl) (by kernel_rfl) (by kernel_rfl) (by kernel_rfl)) ?_
  intro W base args ds gs before hval0 hW hcnd _
  have hval : ∀ (j : Nat) t v, Try.f13.params[j]? = some t → args[j]? = some v → Value.okWide Try.prog W .any base t v := hval0
  have hW' := hW
  obtain ⟨p, q, hA0, hV, rfl, hfz, hnd⟩ := hW
  have hA : DataW.TrodAll enc Try.prog W 0 (fun _ => true) true Try.f13.params.toList args.toList ds p := hA0
  rw [Try.params13] at hA hval
  obtain ⟨v0, vs0, d0, ds0, p0, q0, hargs, rfl, rfl, h0, r0⟩ := trodAll_cons hA
  obtain ⟨v1, vs1, d1, ds1, p1, q1, rfl, rfl, rfl, h1, r1⟩ := trodAll_cons r0
  obtain ⟨v2, vs2, d2, ds2, p2, q2, rfl, rfl, rfl, h2, r2⟩ := trodAll_cons r1
  obtain ⟨v3, vs3, d3, ds3, p3, q3, rfl, rfl, rfl, h3, r3⟩ := trodAll_cons r2
  obtain ⟨v4, vs4, d4, ds4, p4, q4, rfl, rfl, rfl, h4, r4⟩ := trodAll_cons r3
  obtain ⟨rfl, rfl, rfl⟩ := trodAll_nil r4
  obtain rfl : args = #[v0, v1, v2, v3, v4] := by cases args; simp_all
  obtain ⟨rfl, rfl⟩ := trodVars_none hV
  have k0 := h0
  have lt0 : ∀ x ∈ p0, x.block < W.heap.size := by obtain ⟨m, hm⟩ := k0; exact DataW.trod_lt m _ _ _ hm
  obtain ⟨L0, rfl, w0, u0⟩ := open_rights (hval 0 66 v0 rfl rfl) h0
  obtain ⟨a1, rfl, rfl, rfl, w1⟩ := open_int Try.underlying3 (hval 1 3 v1 rfl rfl) h1
  obtain ⟨a2, rfl, rfl, rfl, w2⟩ := open_int Try.underlying3 (hval 2 3 v2 rfl rfl) h2
  obtain ⟨a3, rfl, rfl, rfl, w3⟩ := open_int Try.underlying3 (hval 3 3 v3 rfl rfl) h3
  obtain ⟨a4, rfl, rfl, rfl, w4⟩ := open_int Try.underlying2 (hval 4 2 v4 rfl rfl) h4
  clear hA0 hval0
  refine (walk L0 a1 a2 a3 a4 W w0 u0 w1 w2 w3 w4).mono fun e W' ⟨he, bel⟩ => ?_
  subst he
  exact ⟨_, rfl, _, _, _, [], _, [], hW', trodAll_mk1 (shut_bool Try.underlying4 _), (trodAll_cons_mk (Below.trod laidOut (by kernel_rfl) (of_decide_eq_true (by kernel_rfl)) k0 bel lt0) (trodAll_cons_mk (shut_int Try.underlying3 w1) (trodAll_cons_mk (shut_int Try.underlying3 w2) (trodAll_cons_mk (shut_int Try.underlying3 w3) (trodAll_cons_mk (shut_int Try.underlying2 w4) trodAll_mk0))))), rfl, bel.frame _, fun h => by cases h⟩

theorem over : Rows.rightsBackRow.holds Try.pinned (OpenSpec.ofChange Rows.rightsBackSpec) :=
  OpenClaim.holds_of_wide 13 Try.f13 rfl rfl rfl rfl rfl rfl rfl ⟨rfl, rfl, rfl, rfl, rfl⟩ rfl rfl rfl rfl rfl (by kernel_rfl) Try.func13 (by kernel_rfl)
    (of_decide_eq_true (by kernel_rfl)) (by unfold Func.isWrapper; first | (rw [if_pos (by decide +kernel)]; kernel_rfl) | (rw [if_neg (by decide +kernel)]; exact ⟨rfl, rfl⟩))
    (fun os started H enc _ => lifted os started H enc)

theorem proved : Rows.RightsBackSaid := over
#print axioms proved
end Go.Proofs.Ytdliklkfhakmhaa.rightsBack
