/-
  For every two rights, every slice of steps and every region: whatever is done to any rights, each answer, and what they tell, are the document's; no further conditions.
-/
import Derived.Test.YtmddbpkojboogaaRows
import Derived.WalkKit
import Derived.ProofKit
import Derived.OpenShut
import Derived.ShutString
import Derived.ChangeOld
import Derived.Below
import Derived.Test.YtmddbpkojboogaaRfF
import Derived.Deep.DeepCutAuto
namespace Go.Proofs.Ytmddbpkojboogaa.rightsPlays
open Go.ChangeShapes Go.WideShapes Go.ChangeAt Go.RowKit
open Go.ChangeMaps (open_string shut_string)
set_option linter.unusedVariables false

theorem own : ownKnob Try.prog.godebug = none := by kernel_rfl
theorem laidOut : laidOutB Try.prog = true := by kernel_rfl

attribute [local go_sem ↓] exec_loadR exec_storeR exec_allocR exec_buildR exec_buildR2

set_option maxRecDepth 100000 in
set_option maxHeartbeats 4000000 in
theorem walk (L0 : List Int) (L1 : List Int) (A2 : Option Addr) (l2 : List RStep) (c2 : Nat) (a3 : Int) (w : World) (w0 : L0.length = 54) (u0 : WfR L0) (w1 : L1.length = 54) (u1 : WfR L1) (w2 : RSteps w w.heap.size A2 l2) (u2 : ∀ p ∈ l2, p.ok) (g2 : l2.length ≤ c2) (m2 : c2 ≤ maxLen) (w3 : (Lit.int .i64 a3).wf = true) :
    Calls Try.prog 4 #[.agg (rgtA L0), .agg (rgtA L1), .slice A2 l2.length c2, .int .i64 a3] w fun e w' => e = .returned (.bool true) ∧ Below w.heap.size w w' := by
  obtain ⟨n0, hn0⟩ : ∃ n, Hid (n = l2.length) := ⟨_, Lib.hid rfl⟩
  have W0 := Lib.hid w0
  have W1 := Lib.hid w1
  have D2 := Lib.hid w2
  have OK2 := Lib.hid u2
  have F0 := Lib.hid u0
  have F1 := Lib.hid u1
  have aR := run_allocR
  have bR := run_buildR
  have V1 : Rs w ((w.alloc (.cells (rgtA L0) 42)).alloc (.cells (rgtA L1) 42)) [(w.heap.size, L0), (w.heap.size + 1, L1)] := by
    have := ((Rs.nil w).new w0 _ rfl).new w1 (w.heap.size + 1) (by simp)
    exact this
  have hzw : Calls Try.prog 4 #[.agg (rgtA L0), .agg (rgtA L1), .slice A2 n0 c2, .int .i64 a3] w fun e w' => e = .returned (.bool true) ∧ Below w.heap.size w w' := by
    clear w0 w1 w2 u0 u1 u2 g2 m2 w3
    by_cases h200 : 200 < n0
    · have h1 : (200 : Int) < (n0 : Int) := by omega
      go_enter Try.func4, Try.ntmps4
      go_wp2_with fail
      refine (rgworks_any _).mono ?_
      rintro e w2 ⟨rfl, hb2⟩
      have VF := (V1.next hb2).bel
      go_wp2_with fail
      go_ret
      exact ⟨rfl, VF⟩
    have h1 : ¬ (200 : Int) < (n0 : Int) := by omega
    have HV1 := Lib.hid V1
    have hs1 : ((w.alloc (.cells (rgtA L0) 42)).alloc (.cells (rgtA L1) 42)).heap.size = w.heap.size + 2 := by simp
    have HS1 := Lib.hid hs1
    have l0 := run_loadR (V1.nth 0 rfl)
    have b2 := run_twoR W0.out ((w.alloc (.cells (rgtA L0) 42)).alloc (.cells (rgtA L1) 42))
    rw [hs1] at b2
    clear V1 hs1 h200
    go_enter Try.func4, Try.ntmps4
    go_upto_region 5 with fail
    have BA : Hid (Blk (((w.alloc (.cells (rgtA L0) 42)).alloc (.cells (rgtA L1) 42)).alloc (.cells (rgtL Z54 ++ rgtL L0).toArray 42)) (w.heap.size + 2) 42 (rgtL Z54 ++ rgtL L0).toArray) := Blk.at_ _ _ _ _ HS1.out
    have HV2 := Lib.hid (HV1.out.alloc (.cells (rgtL Z54 ++ rgtL L0).toArray 42))
    have HS2 : Hid ((((w.alloc (.cells (rgtA L0) 42)).alloc (.cells (rgtA L1) 42)).alloc (.cells (rgtL Z54 ++ rgtL L0).toArray 42)).heap.size = w.heap.size + 3) := by show _ = _; simp
    clear l0 b2 HV1 HS1
    generalize ((w.alloc (.cells (rgtA L0) 42)).alloc (.cells (rgtA L1) 42)).alloc (.cells (rgtL Z54 ++ rgtL L0).toArray 42) = w1 at BA HV2 HS2 ⊢
    have HBW := Lib.hid HV2.out.bel
    have OTH : Hid (∀ W, Below w1.heap.size w1 W → RB W (w.heap.size + 1) L1) := fun W hb => (HV2.out.nth 1 rfl).below hb (by have := HS2.out; omega)
    have ALL : Hid (∀ W, Below w1.heap.size w1 W → Blk W (w.heap.size + 2) 42 (rgtL Z54 ++ rgtL L0).toArray) := fun W hb => BA.out.below hb (by have := HS2.out; omega)
    have STP : Hid (RSteps w1 w1.heap.size A2 l2) := fun h0 => by
      obtain ⟨b, off, hA, hB, hc⟩ := (D2.out.below HBW.out) h0
      exact ⟨b, off, hA, Nat.lt_of_lt_of_le hB HBW.out.size, hc⟩
    clear BA HV2 HS2
    go_loopw [10] (fun v wr => ∃ k : Nat, k ≤ 2 ∧ v = .int .i64 (k : Int) ∧ Below w1.heap.size w1 wr) (fun v _ => 2 - (intOf v).toNat)
    case atStart => exact ⟨0, by omega, rfl, Below.refl _ _⟩
    case round =>
      obtain ⟨k, hk, rfl, hbw⟩ := hrel
      by_cases hlt : k < 2
      · have hk0 : (0 : Int) ≤ (k : Int) := by omega
        have hk2 : (k : Int) < 2 := by omega
        have HB0 := Lib.hid hbw
        have S54 : Hid ((if k = 0 then Z54 else L0).length = 54) := by show _ = _; split <;> first | rfl | exact W0.out
        have SWF : Hid (WfR (if k = 0 then Z54 else L0)) := by show WfR _; split <;> first | exact wf_z54 | exact F0.out
        have SR : Hid (∀ W, Below w1.heap.size w1 W → W.rangeAt (w.heap.size + 2) (k * 54) (rgtL (if k = 0 then Z54 else L0))) := fun W hb => two_at W0.out (ALL.out W hb) k hlt
        generalize (if k = 0 then Z54 else L0) = S at S54 SWF SR
        have lm := run_loadR_mid S54.out (SR.out wr hbw)
        have s1 := run_storeR_new S54.out wr
        have VS : Hid (Rs w1 (wr.alloc (.cells (rgtA S) 42)) [(wr.heap.size, S)]) := by
          have := (Rs.mk (w := w1) (W := wr) (l := []) (fun p hp => by cases hp) hbw).new S54.out wr.heap.size rfl
          exact this
        have GW : Hid (w1.heap.size ≤ wr.heap.size) := hbw.size
        clear hbw
        go_wp2_with fail
        clear lm s1
        obtain ⟨ga, hga⟩ : ∃ g, g = wr.heap.size := ⟨_, rfl⟩
        simp only [← hga] at VS GW ⊢
        generalize wr.alloc (.cells (rgtA S) 42) = w3 at VS ⊢
        clear hga
        obtain ⟨J, hJ⟩ : ∃ J, joinR S L1 = J := ⟨_, rfl⟩
        have JWF : WfR J := by rw [← hJ]; exact wf_join S54.out W1.out SWF.out F1.out
        have J54 : J.length = 54 := by rw [← hJ]; exact joinR_len S54.out W1.out
        have CJ := Lib.hid (joinR_any S L1 S54.out W1.out)
        have CR := Lib.hid (r7join_any S L1 S54.out W1.out)
        rw [hJ] at CJ CR
        have CM := Lib.hid (mayR_any S S54.out)
        have CN := Lib.hid (r7may_any S S54.out)
        generalize mayR S = mm at CM CN
        have qJ : ∀ W, (Op.equalIn 10000 42 (.agg (rgtA J)) (.agg (rgtA J))).run Try.prog W = .ok true W := rgt_same J54 JWF rfl
        have Z8 := VS.out
        clear hJ JWF J54
        refine wp_region_plan (fun W => Rs w1 W [(ga, S)]) Grows [IsV (.agg (rgtA S)), IsV (.bool mm), IsV (.agg (rgtA S)), IsV (.bool mm), IsV (.bool false), IsV (.bool false), IsV (.agg (rgtA S)), IsV (.agg (rgtA L1)), IsV (.agg (rgtA J)), IsV (.agg (rgtA S)), IsV (.agg (rgtA L1)), IsV (.agg (rgtA J)), IsV (.bool false), IsV (.bool false)] ([(5, .pointer (some ⟨w.heap.size + 1, 0, none⟩)), (11, .pointer (some ⟨ga, 0, none⟩))] : List (Nat × Value)) (⟨rfl, rfl, trivial⟩) (n := 115) (by kernel_rfl) rfl (by kernel_rfl) Z8.drew Grows.refl (StabAll.get ?_) ?_ ?_
        · repeat (first | exact trivial | refine ⟨stab_c _, ?_⟩ | refine ⟨stab_two _ _, ?_⟩ | refine ⟨fun _ _ _ _ _ _ _ => trivial, ?_⟩)
        · refine ⟨?_, ⟨?_, ⟨?_, ⟨?_, ⟨?_, ⟨?_, ⟨?_, ⟨?_, ⟨?_, ⟨?_, ⟨?_, ⟨?_, ⟨?_, ⟨?_, trivial⟩⟩⟩⟩⟩⟩⟩⟩⟩⟩⟩⟩⟩⟩
          · intro a W hS hE hD
            obtain ⟨_, x11, _⟩ := hE
            have e11 := x11 (by kernel_rfl)
            refine plan_free rfl ?_
            have k11 := e11
            refine plan_value (ex_loadR k11 (hS.nth 0 rfl)) ⟨_, rfl, hS, Grows.refl _, rfl⟩
          · intro a W hS hE hD
            have k38 : a.tmps.getD 38 undef = .agg (rgtA S) := hD 0 38 (by kernel_rfl)
            refine plan_free rfl ?_
            refine plan_call (f := 23) (args := #[a.tmps.getD 38 undef]) (by kernel_rfl) ?_
            rw [k38]
            refine (CM.out W).mono ?_
            rintro e W2 ⟨rfl, hb⟩
            refine ⟨_, rfl, _, rfl, hS.next hb, hb, ?_⟩
            exact rfl
          · intro a W hS hE hD
            obtain ⟨_, x11, _⟩ := hE
            have e11 := x11 (by kernel_rfl)
            refine plan_free rfl ?_
            have k11 := e11
            refine plan_value (ex_loadR k11 (hS.nth 0 rfl)) ⟨_, rfl, hS, Grows.refl _, rfl⟩
          · intro a W hS hE hD
            have k40 : a.tmps.getD 40 undef = .agg (rgtA S) := hD 2 40 (by kernel_rfl)
            refine plan_free rfl ?_
            refine plan_call (f := 24) (args := #[a.tmps.getD 40 undef]) (by kernel_rfl) ?_
            rw [k40]
            refine (CN.out W).mono ?_
            rintro e W2 ⟨rfl, hb⟩
            refine ⟨_, rfl, _, rfl, hS.next hb, hb, ?_⟩
            exact rfl
          · intro a W hS hE hD
            have k39 : a.tmps.getD 39 undef = .bool mm := hD 1 39 (by kernel_rfl)
            have k41 : a.tmps.getD 41 undef = .bool mm := hD 3 41 (by kernel_rfl)
            refine plan_free rfl ?_
            refine plan_value (v := .bool false) (w' := W) (by go_simp) ⟨_, rfl, hS, Grows.refl _, rfl⟩
          · intro a W hS hE hD
            have k42 : a.tmps.getD 42 undef = .bool false := hD 4 42 (by kernel_rfl)
            refine plan_free rfl ?_
            refine plan_value ex_move ⟨_, rfl, hS, Grows.refl _, ?_⟩
            exact k42
          · intro a W hS hE hD
            obtain ⟨_, x11, _⟩ := hE
            have e11 := x11 (by kernel_rfl)
            have k43 : a.tmps.getD 43 undef = .bool false := hD 5 43 (by kernel_rfl)
            refine plan_want rfl (by kernel_rfl) k43 ?_
            have k11 := e11
            refine plan_value (ex_loadR k11 (hS.nth 0 rfl)) ⟨_, rfl, hS, Grows.refl _, rfl⟩
          · intro a W hS hE hD
            obtain ⟨x5, _, _⟩ := hE
            have e5 := x5 (by kernel_rfl)
            have k43 : a.tmps.getD 43 undef = .bool false := hD 5 43 (by kernel_rfl)
            refine plan_want rfl (by kernel_rfl) k43 ?_
            have k5 := e5
            refine plan_value (ex_loadR k5 (OTH.out W hS.bel)) ⟨_, rfl, hS, Grows.refl _, rfl⟩
          · intro a W hS hE hD
            have k43 : a.tmps.getD 43 undef = .bool false := hD 5 43 (by kernel_rfl)
            have k44 : a.tmps.getD 44 undef = .agg (rgtA S) := hD 6 44 (by kernel_rfl)
            have k45 : a.tmps.getD 45 undef = .agg (rgtA L1) := hD 7 45 (by kernel_rfl)
            refine plan_want rfl (by kernel_rfl) k43 ?_
            refine plan_call (f := 25) (args := #[a.tmps.getD 44 undef, a.tmps.getD 45 undef]) (by kernel_rfl) ?_
            rw [k44, k45]
            refine (CJ.out W).mono ?_
            rintro e W2 ⟨rfl, hb⟩
            refine ⟨_, rfl, _, rfl, hS.next hb, hb, ?_⟩
            exact rfl
          · intro a W hS hE hD
            obtain ⟨_, x11, _⟩ := hE
            have e11 := x11 (by kernel_rfl)
            have k43 : a.tmps.getD 43 undef = .bool false := hD 5 43 (by kernel_rfl)
            refine plan_want rfl (by kernel_rfl) k43 ?_
            have k11 := e11
            refine plan_value (ex_loadR k11 (hS.nth 0 rfl)) ⟨_, rfl, hS, Grows.refl _, rfl⟩
          · intro a W hS hE hD
            obtain ⟨x5, _, _⟩ := hE
            have e5 := x5 (by kernel_rfl)
            have k43 : a.tmps.getD 43 undef = .bool false := hD 5 43 (by kernel_rfl)
            refine plan_want rfl (by kernel_rfl) k43 ?_
            have k5 := e5
            refine plan_value (ex_loadR k5 (OTH.out W hS.bel)) ⟨_, rfl, hS, Grows.refl _, rfl⟩
          · intro a W hS hE hD
            have k43 : a.tmps.getD 43 undef = .bool false := hD 5 43 (by kernel_rfl)
            have k47 : a.tmps.getD 47 undef = .agg (rgtA S) := hD 9 47 (by kernel_rfl)
            have k48 : a.tmps.getD 48 undef = .agg (rgtA L1) := hD 10 48 (by kernel_rfl)
            refine plan_want rfl (by kernel_rfl) k43 ?_
            refine plan_call (f := 26) (args := #[a.tmps.getD 47 undef, a.tmps.getD 48 undef]) (by kernel_rfl) ?_
            rw [k47, k48]
            refine (CR.out W).mono ?_
            rintro e W2 ⟨rfl, hb⟩
            refine ⟨_, rfl, _, rfl, hS.next hb, hb, ?_⟩
            exact rfl
          · intro a W hS hE hD
            have k43 : a.tmps.getD 43 undef = .bool false := hD 5 43 (by kernel_rfl)
            have k46 : a.tmps.getD 46 undef = .agg (rgtA J) := hD 8 46 (by kernel_rfl)
            have k49 : a.tmps.getD 49 undef = .agg (rgtA J) := hD 11 49 (by kernel_rfl)
            refine plan_want rfl (by kernel_rfl) k43 ?_
            refine plan_value (v := .bool false) (w' := W) (by go_simp) ⟨_, rfl, hS, Grows.refl _, rfl⟩
          · intro a W hS hE hD
            have k43 : a.tmps.getD 43 undef = .bool false := hD 5 43 (by kernel_rfl)
            have k50 : a.tmps.getD 50 undef = .bool false := hD 12 50 (by kernel_rfl)
            refine plan_free rfl ?_
            refine plan_value (v := .bool false) (w' := W) (by go_simp) ⟨_, rfl, hS, Grows.refl _, rfl⟩
        · intro f w4 V8 hE
          have f51 : f 51 = .bool false := Ends.get hE 13 _ rfl 51 rfl
          clear hE
          simp only [setAll, List.setIfInBounds_toArray, List.set_cons_zero, List.set_cons_succ]
          rw [f51]; clear f51
          clear qJ CJ CR CM CN VS Z8
          go_wp2_with fail
          go_loopw [12] (fun v wi => ∃ (j : Nat) (A : List Int), j ≤ n0 ∧ v = .int .i64 (j : Int) ∧ Rs w1 wi [(ga, A)] ∧ WfR A) (fun v _ => n0 - (intOf v).toNat)
          case atStart => exact ⟨0, S, by omega, rfl, V8, SWF.out⟩
          case round =>
            clear V8
            obtain ⟨j, A, hj, rfl, V, hF⟩ := hrel
            have HF := Lib.hid hF
            have HA := Lib.hid (V.nth 0 rfl).len
            clear hF
            by_cases hltj : j < n0
            · have hjl : j < l2.length := by rw [← hn0.out]; exact hltj
              obtain ⟨b, off, rfl, hB, hc⟩ := STP.out (by omega)
              have RN := hc j l2[j] (List.getElem?_eq_getElem hjl)
              have ok := OK2.out _ (List.getElem_mem hjl)
              generalize l2[j] = s at RN ok
              have RNG : Hid (∀ W, Below w1.heap.size w1 W → W.rangeAt b (off + j * 4) (stepL s)) := fun W hb q v hq => (hb.cell (p := ⟨b, off + j * 4 + q, none⟩) hB).trans (RN q v hq)
              obtain ⟨R, er, hE⟩ : ∃ M e, doesR s A = (M, e) := ⟨_, _, rfl⟩
              have HR : Hid (R.length = 54) := by have := does_len (s := s) HA.out; rw [hE] at this; exact this
              have RWF : Hid (WfR R) := does_wf HA.out hE
              have DOES : Hid (∀ W, Calls Try.prog 27 #[.agg (stepA s), .agg (rgtA A)] W fun e w' => e = .returned (.tuple #[.agg (rgtA R), .int .i64 er]) ∧ Below W.heap.size W w') := by
                intro W; have := does_any s ok.d A HA.out W; rwa [hE] at this
              have DID : Hid (∀ W, Calls Try.prog 28 #[.agg (stepA s), .agg (rgtA A)] W fun e w' => e = .returned (.tuple #[.agg (rgtA R), .int .i64 er]) ∧ Below W.heap.size W w') := by
                intro W; have := did_any s ok.d A HA.out W; rwa [hE] at this
              have hj0 : (0 : Int) ≤ (j : Int) := by omega
              have hjn : (j : Int) < (n0 : Int) := by omega
              have GA1 : Hid (w1.heap.size ≤ ga) := GW
              clear hc RN ok hE
              go_wp2_with fail
              refine wp_region_cy (fun ℓ t W => GA w1 wr.heap.size [(ga, A)] 13 R (ℓ 9) (ℓ 10) t W) (fun _ _ => True) [IsV (.slice (some ⟨b, off, none⟩) n0 c2), IsV (.int .i64 (j : Int)), IsV (.pointer (some ⟨b, off + j * 4, none⟩)), IsV (.agg (stepA s)), IsV (.agg (rgtA A)), IsV (.tuple #[.agg (rgtA R), .int .i64 er]), IsV (.tuple #[.agg (rgtA R), .int .i64 er]), IsV (.agg (rgtA R)), IsV (.int .i64 er), fun _ _ => True, fun _ _ => True, IsV (.int .i64 er)] ([(2, .slice (some ⟨b, off, none⟩) n0 c2), (11, .pointer (some ⟨ga, 0, none⟩)), (12, .int .i64 (j : Int))] : List (Nat × Value)) (⟨rfl, rfl, rfl, trivial⟩) (n := 115) (by kernel_rfl) rfl (by kernel_rfl) (GA.first (RG.start V)) (fun _ => trivial) (StabBy.get ?_) ?_ ?_
              · repeat (first | exact trivial | refine ⟨fun _ _ _ _ h => h, ?_⟩)
              · refine ⟨?_, ⟨?_, ⟨?_, ⟨?_, ⟨?_, ⟨?_, ⟨?_, ⟨?_, ⟨?_, ⟨?_, ⟨?_, ⟨?_, trivial⟩⟩⟩⟩⟩⟩⟩⟩⟩⟩⟩⟩
                · intro a W ℓ hZ hl hB hS hE hN hD
                  obtain ⟨x2, _, _, _⟩ := hE
                  have e2 := x2 (by kernel_rfl)
                  refine plan_free rfl ?_
                  refine plan_value ex_move ⟨_, rfl, (GA.put hS (by simp)), trivial, ?_⟩
                  exact e2
                · intro a W ℓ hZ hl hB hS hE hN hD
                  obtain ⟨_, _, x12, _⟩ := hE
                  have e12 := x12 (by kernel_rfl)
                  refine plan_free rfl ?_
                  refine plan_value ex_move ⟨_, rfl, (GA.put hS (by simp)), trivial, ?_⟩
                  exact e12
                · intro a W ℓ hZ hl hB hS hE hN hD
                  have k59 : a.tmps.getD 59 undef = .slice (some ⟨b, off, none⟩) n0 c2 := hD 0 59 (by kernel_rfl)
                  have k60 : a.tmps.getD 60 undef = .int .i64 (j : Int) := hD 1 60 (by kernel_rfl)
                  refine plan_free rfl ?_
                  refine plan_value (v := .pointer (some ⟨b, off + j * 4, none⟩)) (w' := W) (by go_simp) ⟨_, rfl, (GA.put hS (by simp)), trivial, rfl⟩
                · intro a W ℓ hZ hl hB hS hE hN hD
                  have k61 : a.tmps.getD 61 undef = .pointer (some ⟨b, off + j * 4, none⟩) := hD 2 61 (by kernel_rfl)
                  refine plan_free rfl ?_
                  refine plan_value (ex_loadS k61 (RNG.out W hS.base.rs.bel)) ⟨_, rfl, (GA.put hS (by simp)), trivial, rfl⟩
                · intro a W ℓ hZ hl hB hS hE hN hD
                  obtain ⟨_, x11, _, _⟩ := hE
                  have e11 := x11 (by kernel_rfl)
                  refine plan_free rfl ?_
                  have k11 := e11
                  refine plan_value (ex_loadR k11 (hS.base.rs.nth 0 rfl)) ⟨_, rfl, (GA.put hS (by simp)), trivial, rfl⟩
                · intro a W ℓ hZ hl hB hS hE hN hD
                  have k62 : a.tmps.getD 62 undef = .agg (stepA s) := hD 3 62 (by kernel_rfl)
                  have k63 : a.tmps.getD 63 undef = .agg (rgtA A) := hD 4 63 (by kernel_rfl)
                  refine plan_free rfl ?_
                  refine plan_call (f := 27) (args := #[a.tmps.getD 62 undef, a.tmps.getD 63 undef]) (by kernel_rfl) ?_
                  rw [k62, k63]
                  refine (DOES.out W).mono ?_
                  rintro e W2 ⟨rfl, hb⟩
                  exact ⟨_, rfl, _, rfl, (GA.put (GA.next hS hb) (by simp)), trivial, rfl⟩
                · intro a W ℓ hZ hl hB hS hE hN hD
                  have k64 : a.tmps.getD 64 undef = .tuple #[.agg (rgtA R), .int .i64 er] := hD 5 64 (by kernel_rfl)
                  refine plan_free rfl ?_
                  refine plan_value ex_move ⟨_, rfl, (GA.put hS (by simp)), trivial, ?_⟩
                  exact k64
                · intro a W ℓ hZ hl hB hS hE hN hD
                  have k58 : a.tmps.getD 58 undef = .tuple #[.agg (rgtA R), .int .i64 er] := hD 6 58 (by kernel_rfl)
                  refine plan_free rfl ?_
                  refine plan_value (v := .agg (rgtA R)) (w' := W) (by go_simp) ⟨_, rfl, (GA.put hS (by simp)), trivial, rfl⟩
                · intro a W ℓ hZ hl hB hS hE hN hD
                  have k58 : a.tmps.getD 58 undef = .tuple #[.agg (rgtA R), .int .i64 er] := hD 6 58 (by kernel_rfl)
                  refine plan_free rfl ?_
                  refine plan_value (v := .int .i64 er) (w' := W) (by go_simp) ⟨_, rfl, (GA.put hS (by simp)), trivial, rfl⟩
                · intro a W ℓ hZ hl hB hS hE hN hD
                  refine plan_free rfl ?_
                  have h0 : GA w1 wr.heap.size [(ga, A)] 13 R (ℓ 9) false a.tmps W := by
                    have h := hS
                    simp only [hB 10 (by kernel_rfl)] at h
                    exact h
                  refine plan_value ex_allocR ⟨_, rfl, ?_, trivial, trivial⟩
                  show GA w1 wr.heap.size [(ga, A)] 13 R true (ℓ 10) _ _
                  rw [hB 10 (by kernel_rfl)]
                  exact GA.alloc h0 (by rw [hZ]; omega)
                · intro a W ℓ hZ hl hB hS hE hN hD
                  have k65 : a.tmps.getD 65 undef = .agg (rgtA R) := hD 7 65 (by kernel_rfl)
                  refine plan_free rfl ?_
                  have h0 : GA w1 wr.heap.size [(ga, A)] 13 R true false a.tmps W := by
                    have h := hS
                    simp only [hl, hN 9 13 (by kernel_rfl)] at h
                    exact h
                  obtain ⟨g, hg, _⟩ := h0.new rfl
                  obtain ⟨r1, r2⟩ := GA.store h0 hg HR.out
                  refine plan_unit (ex_storeR hg k65 HR.out r1) ⟨_, rfl, ?_, trivial, trivial⟩
                  show GA w1 wr.heap.size [(ga, A)] 13 R (ℓ 9) true _ _
                  rw [hN 9 13 (by kernel_rfl)]
                  exact r2
                · intro a W ℓ hZ hl hB hS hE hN hD
                  have k66 : a.tmps.getD 66 undef = .int .i64 er := hD 8 66 (by kernel_rfl)
                  refine plan_free rfl ?_
                  refine plan_value ex_assign ⟨_, rfl, (GA.put hS (by simp)), trivial, ?_⟩
                  exact k66
              · intro f w6 ℓ hl V6 hE
                obtain ⟨gn, hgn, hg0, hgA⟩ := V6.new (hl 9 (by simp))
                have f13 : f 13 = .pointer (some ⟨gn, 0, none⟩) := (setAll_at f 13 _ _ (by simp) (by simp)).symm.trans hgn
                have hgB : RB w6 gn R := by
                  have h := hgA
                  simp only [hl 10 (by simp), cond_true] at h
                  exact h
                have f14 : f 14 = .int .i64 er := Ends.get hE 11 _ rfl 14 rfl
                clear hE
                simp only [setAll, List.setIfInBounds_toArray, List.set_cons_zero, List.set_cons_succ]
                rw [f14]; clear f14
                rw [f13]; clear f13 hgn hgA
                have V6' : Hid (Rs w1 w6 [(ga, A), (gn, R)]) := ⟨fun p hp => by
                  rcases List.mem_cons.1 hp with rfl | hp
                  · exact V6.base.rs.nth 0 rfl
                  · rw [List.mem_singleton.1 hp]; exact hgB, V6.base.rs.bel⟩
                clear V V6 hgB hl
                go_wp2_with fail
                refine wp_region_cy (fun ℓ t W => GA w1 w6.heap.size [(ga, A), (gn, R)] 15 R (ℓ 9) (ℓ 10) t W) (fun _ _ => True) [IsV (.slice (some ⟨b, off, none⟩) n0 c2), IsV (.int .i64 (j : Int)), IsV (.pointer (some ⟨b, off + j * 4, none⟩)), IsV (.agg (stepA s)), IsV (.agg (rgtA A)), IsV (.tuple #[.agg (rgtA R), .int .i64 er]), IsV (.tuple #[.agg (rgtA R), .int .i64 er]), IsV (.agg (rgtA R)), IsV (.int .i64 er), fun _ _ => True, fun _ _ => True, IsV (.int .i64 er)] ([(2, .slice (some ⟨b, off, none⟩) n0 c2), (11, .pointer (some ⟨ga, 0, none⟩)), (12, .int .i64 (j : Int))] : List (Nat × Value)) (⟨rfl, rfl, rfl, trivial⟩) (n := 115) (by kernel_rfl) rfl (by kernel_rfl) (GA.first (RG.start V6'.out)) (fun _ => trivial) (StabBy.get ?_) ?_ ?_
                · repeat (first | exact trivial | refine ⟨fun _ _ _ _ h => h, ?_⟩)
                · refine ⟨?_, ⟨?_, ⟨?_, ⟨?_, ⟨?_, ⟨?_, ⟨?_, ⟨?_, ⟨?_, ⟨?_, ⟨?_, ⟨?_, trivial⟩⟩⟩⟩⟩⟩⟩⟩⟩⟩⟩⟩
                  · intro a W ℓ hZ hl hB hS hE hN hD
                    obtain ⟨x2, _, _, _⟩ := hE
                    have e2 := x2 (by kernel_rfl)
                    refine plan_free rfl ?_
                    refine plan_value ex_move ⟨_, rfl, (GA.put hS (by simp)), trivial, ?_⟩
                    exact e2
                  · intro a W ℓ hZ hl hB hS hE hN hD
                    obtain ⟨_, _, x12, _⟩ := hE
                    have e12 := x12 (by kernel_rfl)
                    refine plan_free rfl ?_
                    refine plan_value ex_move ⟨_, rfl, (GA.put hS (by simp)), trivial, ?_⟩
                    exact e12
                  · intro a W ℓ hZ hl hB hS hE hN hD
                    have k68 : a.tmps.getD 68 undef = .slice (some ⟨b, off, none⟩) n0 c2 := hD 0 68 (by kernel_rfl)
                    have k69 : a.tmps.getD 69 undef = .int .i64 (j : Int) := hD 1 69 (by kernel_rfl)
                    refine plan_free rfl ?_
                    refine plan_value (v := .pointer (some ⟨b, off + j * 4, none⟩)) (w' := W) (by go_simp) ⟨_, rfl, (GA.put hS (by simp)), trivial, rfl⟩
                  · intro a W ℓ hZ hl hB hS hE hN hD
                    have k70 : a.tmps.getD 70 undef = .pointer (some ⟨b, off + j * 4, none⟩) := hD 2 70 (by kernel_rfl)
                    refine plan_free rfl ?_
                    refine plan_value (ex_loadS k70 (RNG.out W hS.base.rs.bel)) ⟨_, rfl, (GA.put hS (by simp)), trivial, rfl⟩
                  · intro a W ℓ hZ hl hB hS hE hN hD
                    obtain ⟨_, x11, _, _⟩ := hE
                    have e11 := x11 (by kernel_rfl)
                    refine plan_free rfl ?_
                    have k11 := e11
                    refine plan_value (ex_loadR k11 (hS.base.rs.nth 0 rfl)) ⟨_, rfl, (GA.put hS (by simp)), trivial, rfl⟩
                  · intro a W ℓ hZ hl hB hS hE hN hD
                    have k71 : a.tmps.getD 71 undef = .agg (stepA s) := hD 3 71 (by kernel_rfl)
                    have k72 : a.tmps.getD 72 undef = .agg (rgtA A) := hD 4 72 (by kernel_rfl)
                    refine plan_free rfl ?_
                    refine plan_call (f := 28) (args := #[a.tmps.getD 71 undef, a.tmps.getD 72 undef]) (by kernel_rfl) ?_
                    rw [k71, k72]
                    refine (DID.out W).mono ?_
                    rintro e W2 ⟨rfl, hb⟩
                    exact ⟨_, rfl, _, rfl, (GA.put (GA.next hS hb) (by simp)), trivial, rfl⟩
                  · intro a W ℓ hZ hl hB hS hE hN hD
                    have k73 : a.tmps.getD 73 undef = .tuple #[.agg (rgtA R), .int .i64 er] := hD 5 73 (by kernel_rfl)
                    refine plan_free rfl ?_
                    refine plan_value ex_move ⟨_, rfl, (GA.put hS (by simp)), trivial, ?_⟩
                    exact k73
                  · intro a W ℓ hZ hl hB hS hE hN hD
                    have k67 : a.tmps.getD 67 undef = .tuple #[.agg (rgtA R), .int .i64 er] := hD 6 67 (by kernel_rfl)
                    refine plan_free rfl ?_
                    refine plan_value (v := .agg (rgtA R)) (w' := W) (by go_simp) ⟨_, rfl, (GA.put hS (by simp)), trivial, rfl⟩
                  · intro a W ℓ hZ hl hB hS hE hN hD
                    have k67 : a.tmps.getD 67 undef = .tuple #[.agg (rgtA R), .int .i64 er] := hD 6 67 (by kernel_rfl)
                    refine plan_free rfl ?_
                    refine plan_value (v := .int .i64 er) (w' := W) (by go_simp) ⟨_, rfl, (GA.put hS (by simp)), trivial, rfl⟩
                  · intro a W ℓ hZ hl hB hS hE hN hD
                    refine plan_free rfl ?_
                    have h0 : GA w1 w6.heap.size [(ga, A), (gn, R)] 15 R (ℓ 9) false a.tmps W := by
                      have h := hS
                      simp only [hB 10 (by kernel_rfl)] at h
                      exact h
                    refine plan_value ex_allocR ⟨_, rfl, ?_, trivial, trivial⟩
                    show GA w1 w6.heap.size [(ga, A), (gn, R)] 15 R true (ℓ 10) _ _
                    rw [hB 10 (by kernel_rfl)]
                    exact GA.alloc h0 (by rw [hZ]; omega)
                  · intro a W ℓ hZ hl hB hS hE hN hD
                    have k74 : a.tmps.getD 74 undef = .agg (rgtA R) := hD 7 74 (by kernel_rfl)
                    refine plan_free rfl ?_
                    have h0 : GA w1 w6.heap.size [(ga, A), (gn, R)] 15 R true false a.tmps W := by
                      have h := hS
                      simp only [hl, hN 9 15 (by kernel_rfl)] at h
                      exact h
                    obtain ⟨g, hg, _⟩ := h0.new rfl
                    obtain ⟨r1, r2⟩ := GA.store h0 hg HR.out
                    refine plan_unit (ex_storeR hg k74 HR.out r1) ⟨_, rfl, ?_, trivial, trivial⟩
                    show GA w1 w6.heap.size [(ga, A), (gn, R)] 15 R (ℓ 9) true _ _
                    rw [hN 9 15 (by kernel_rfl)]
                    exact r2
                  · intro a W ℓ hZ hl hB hS hE hN hD
                    have k75 : a.tmps.getD 75 undef = .int .i64 er := hD 8 75 (by kernel_rfl)
                    refine plan_free rfl ?_
                    refine plan_value ex_assign ⟨_, rfl, (GA.put hS (by simp)), trivial, ?_⟩
                    exact k75
                · intro f w7 ℓ hl V7 hE
                  obtain ⟨gm, hgn, hg0, hgA⟩ := V7.new (hl 9 (by simp))
                  have f15 : f 15 = .pointer (some ⟨gm, 0, none⟩) := (setAll_at f 15 _ _ (by simp) (by simp)).symm.trans hgn
                  have hgB : RB w7 gm R := by
                    have h := hgA
                    simp only [hl 10 (by simp), cond_true] at h
                    exact h
                  have f16 : f 16 = .int .i64 er := Ends.get hE 11 _ rfl 16 rfl
                  clear hE
                  simp only [setAll, List.setIfInBounds_toArray, List.set_cons_zero, List.set_cons_succ]
                  rw [f16]; clear f16
                  rw [f15]; clear f15 hgn hgA
                  have V7' : Hid (Rs w1 w7 [(ga, A), (gn, R), (gm, R)]) := ⟨fun p hp => by
                    rcases List.mem_cons.1 hp with rfl | hp
                    · exact V7.base.rs.nth 0 rfl
                    rcases List.mem_cons.1 hp with rfl | hp
                    · exact V7.base.rs.nth 1 rfl
                    · rw [List.mem_singleton.1 hp]; exact hgB, V7.base.rs.bel⟩
                  clear V7 hgB hl
                  have la := run_loadR (V7'.out.nth 1 rfl)
                  have lb := run_loadR (V7'.out.nth 2 rfl)
                  have qR : ∀ W, (Op.equalIn 10000 42 (.agg (rgtA R)) (.agg (rgtA R))).run Try.prog W = .ok true W := rgt_same HR.out RWF.out rfl
                  by_cases he : er = 0
                  · subst he
                    have s9 := run_storeR HR.out (V7'.out.nth 0 rfl).blk (by rw [rgtA_size, HA.out])
                    have V9 : Hid (Rs w1 (w7.setRow ga (rgtA R)) [(ga, R)]) := Rs.row (l := []) (L := A) (V7'.out.some_ (by intro p hp; rw [List.mem_singleton.1 hp]; simp)) (fun p hp => by cases hp) HR.out GA1.out
                    go_wp2_with fail
                    go_roundw
                    case rel => exact ⟨j + 1, R, by omega, by go_num, V9.out, RWF.out⟩
                    case measure => simp [intOf]; omega
                  · have heb : (er == 0) = false := by simpa using he
                    have V9 : Hid (Rs w1 w7 [(ga, A)]) := V7'.out.some_ (by intro p hp; rw [List.mem_singleton.1 hp]; simp)
                    clear he
                    go_wp2_with fail
                    go_roundw
                    case rel => exact ⟨j + 1, A, by omega, by go_num, V9.out, HF.out⟩
                    case measure => simp [intOf]; omega
            · have hge : ¬ ((j : Int) < (n0 : Int)) := by omega
              have SU := Lib.hid (sums_any A HA.out)
              have SR7 := Lib.hid (r7sums_any A HA.out)
              have LO := Lib.hid (local_any A HA.out a3)
              have LR := Lib.hid (r7Local_any A HA.out a3)
              obtain ⟨⟨p1, p2⟩, hp⟩ : ∃ p, sumsR A = p := ⟨_, rfl⟩
              rw [hp] at SU SR7
              generalize localR A a3 = lo at LO LR
              clear hp
              have HV := Lib.hid V
              have lA := run_loadR (V.nth 0 rfl)
              clear V
              go_wp2_with fail
              refine (SU.out _).mono ?_
              rintro e w5 ⟨rfl, hb⟩
              have HV5 := Lib.hid (HV.out.next hb)
              have lA5 := run_loadR (HV5.out.nth 0 rfl)
              clear hb lA
              go_wp2_with fail
              refine (SR7.out _).mono ?_
              rintro e w6 ⟨rfl, hb⟩
              have HV6 := Lib.hid (HV5.out.next hb)
              clear hb lA5
              go_wp2_with fail
              refine wp_region_plan (fun W => Rs w1 W [(ga, A)]) Grows [IsV (.int .i64 p1), IsV (.int .i64 p1), IsV (.bool false), IsV (.bool false), IsV (.int .i64 p2), IsV (.int .i64 p2), IsV (.bool false), IsV (.bool false), IsV (.bool false), IsV (.agg (rgtA A)), IsV (.int .i64 a3), IsV (.int .i64 lo), IsV (.agg (rgtA A)), IsV (.int .i64 a3), IsV (.int .i64 lo), IsV (.bool false), IsV (.bool false)] ([(3, .int .i64 a3), (11, .pointer (some ⟨ga, 0, none⟩)), (17, .int .i64 p1), (18, .int .i64 p2), (19, .int .i64 p1), (20, .int .i64 p2)] : List (Nat × Value)) (⟨rfl, rfl, rfl, rfl, rfl, rfl, trivial⟩) (n := 115) (by kernel_rfl) rfl (by kernel_rfl) HV6.out.drew Grows.refl (StabAll.get ?_) ?_ ?_
              · repeat (first | exact trivial | refine ⟨stab_c _, ?_⟩ | refine ⟨stab_two _ _, ?_⟩ | refine ⟨fun _ _ _ _ _ _ _ => trivial, ?_⟩)
              · refine ⟨?_, ⟨?_, ⟨?_, ⟨?_, ⟨?_, ⟨?_, ⟨?_, ⟨?_, ⟨?_, ⟨?_, ⟨?_, ⟨?_, ⟨?_, ⟨?_, ⟨?_, ⟨?_, ⟨?_, trivial⟩⟩⟩⟩⟩⟩⟩⟩⟩⟩⟩⟩⟩⟩⟩⟩⟩
                · intro a W hS hE hD
                  obtain ⟨_, _, x17, _, _, _, _⟩ := hE
                  have e17 := x17 (by kernel_rfl)
                  refine plan_free rfl ?_
                  refine plan_value ex_move ⟨_, rfl, hS, Grows.refl _, ?_⟩
                  exact e17
                · intro a W hS hE hD
                  obtain ⟨_, _, _, _, x19, _, _⟩ := hE
                  have e19 := x19 (by kernel_rfl)
                  refine plan_free rfl ?_
                  refine plan_value ex_move ⟨_, rfl, hS, Grows.refl _, ?_⟩
                  exact e19
                · intro a W hS hE hD
                  have k97 : a.tmps.getD 97 undef = .int .i64 p1 := hD 0 97 (by kernel_rfl)
                  have k98 : a.tmps.getD 98 undef = .int .i64 p1 := hD 1 98 (by kernel_rfl)
                  refine plan_free rfl ?_
                  refine plan_value (v := .bool false) (w' := W) (by go_simp) ⟨_, rfl, hS, Grows.refl _, rfl⟩
                · intro a W hS hE hD
                  have k99 : a.tmps.getD 99 undef = .bool false := hD 2 99 (by kernel_rfl)
                  refine plan_free rfl ?_
                  refine plan_value ex_move ⟨_, rfl, hS, Grows.refl _, ?_⟩
                  exact k99
                · intro a W hS hE hD
                  obtain ⟨_, _, _, x18, _, _, _⟩ := hE
                  have e18 := x18 (by kernel_rfl)
                  have k100 : a.tmps.getD 100 undef = .bool false := hD 3 100 (by kernel_rfl)
                  refine plan_want rfl (by kernel_rfl) k100 ?_
                  refine plan_value ex_move ⟨_, rfl, hS, Grows.refl _, ?_⟩
                  exact e18
                · intro a W hS hE hD
                  obtain ⟨_, _, _, _, _, x20, _⟩ := hE
                  have e20 := x20 (by kernel_rfl)
                  have k100 : a.tmps.getD 100 undef = .bool false := hD 3 100 (by kernel_rfl)
                  refine plan_want rfl (by kernel_rfl) k100 ?_
                  refine plan_value ex_move ⟨_, rfl, hS, Grows.refl _, ?_⟩
                  exact e20
                · intro a W hS hE hD
                  have k100 : a.tmps.getD 100 undef = .bool false := hD 3 100 (by kernel_rfl)
                  have k101 : a.tmps.getD 101 undef = .int .i64 p2 := hD 4 101 (by kernel_rfl)
                  have k102 : a.tmps.getD 102 undef = .int .i64 p2 := hD 5 102 (by kernel_rfl)
                  refine plan_want rfl (by kernel_rfl) k100 ?_
                  refine plan_value (v := .bool false) (w' := W) (by go_simp) ⟨_, rfl, hS, Grows.refl _, rfl⟩
                · intro a W hS hE hD
                  have k100 : a.tmps.getD 100 undef = .bool false := hD 3 100 (by kernel_rfl)
                  have k103 : a.tmps.getD 103 undef = .bool false := hD 6 103 (by kernel_rfl)
                  refine plan_free rfl ?_
                  refine plan_value (v := .bool false) (w' := W) (by go_simp) ⟨_, rfl, hS, Grows.refl _, rfl⟩
                · intro a W hS hE hD
                  have k104 : a.tmps.getD 104 undef = .bool false := hD 7 104 (by kernel_rfl)
                  refine plan_free rfl ?_
                  refine plan_value ex_move ⟨_, rfl, hS, Grows.refl _, ?_⟩
                  exact k104
                · intro a W hS hE hD
                  obtain ⟨_, x11, _, _, _, _, _⟩ := hE
                  have e11 := x11 (by kernel_rfl)
                  have k105 : a.tmps.getD 105 undef = .bool false := hD 8 105 (by kernel_rfl)
                  refine plan_want rfl (by kernel_rfl) k105 ?_
                  have k11 := e11
                  refine plan_value (ex_loadR k11 (hS.nth 0 rfl)) ⟨_, rfl, hS, Grows.refl _, rfl⟩
                · intro a W hS hE hD
                  obtain ⟨x3, _, _, _, _, _, _⟩ := hE
                  have e3 := x3 (by kernel_rfl)
                  have k105 : a.tmps.getD 105 undef = .bool false := hD 8 105 (by kernel_rfl)
                  refine plan_want rfl (by kernel_rfl) k105 ?_
                  refine plan_value ex_move ⟨_, rfl, hS, Grows.refl _, ?_⟩
                  exact e3
                · intro a W hS hE hD
                  have k105 : a.tmps.getD 105 undef = .bool false := hD 8 105 (by kernel_rfl)
                  have k106 : a.tmps.getD 106 undef = .agg (rgtA A) := hD 9 106 (by kernel_rfl)
                  have k107 : a.tmps.getD 107 undef = .int .i64 a3 := hD 10 107 (by kernel_rfl)
                  refine plan_want rfl (by kernel_rfl) k105 ?_
                  refine plan_call (f := 31) (args := #[a.tmps.getD 106 undef, a.tmps.getD 107 undef]) (by kernel_rfl) ?_
                  rw [k106, k107]
                  refine (LO.out W).mono ?_
                  rintro e W2 ⟨rfl, hb⟩
                  refine ⟨_, rfl, _, rfl, hS.next hb, hb, ?_⟩
                  exact rfl
                · intro a W hS hE hD
                  obtain ⟨_, x11, _, _, _, _, _⟩ := hE
                  have e11 := x11 (by kernel_rfl)
                  have k105 : a.tmps.getD 105 undef = .bool false := hD 8 105 (by kernel_rfl)
                  refine plan_want rfl (by kernel_rfl) k105 ?_
                  have k11 := e11
                  refine plan_value (ex_loadR k11 (hS.nth 0 rfl)) ⟨_, rfl, hS, Grows.refl _, rfl⟩
                · intro a W hS hE hD
                  obtain ⟨x3, _, _, _, _, _, _⟩ := hE
                  have e3 := x3 (by kernel_rfl)
                  have k105 : a.tmps.getD 105 undef = .bool false := hD 8 105 (by kernel_rfl)
                  refine plan_want rfl (by kernel_rfl) k105 ?_
                  refine plan_value ex_move ⟨_, rfl, hS, Grows.refl _, ?_⟩
                  exact e3
                · intro a W hS hE hD
                  have k105 : a.tmps.getD 105 undef = .bool false := hD 8 105 (by kernel_rfl)
                  have k109 : a.tmps.getD 109 undef = .agg (rgtA A) := hD 12 109 (by kernel_rfl)
                  have k110 : a.tmps.getD 110 undef = .int .i64 a3 := hD 13 110 (by kernel_rfl)
                  refine plan_want rfl (by kernel_rfl) k105 ?_
                  refine plan_call (f := 32) (args := #[a.tmps.getD 109 undef, a.tmps.getD 110 undef]) (by kernel_rfl) ?_
                  rw [k109, k110]
                  refine (LR.out W).mono ?_
                  rintro e W2 ⟨rfl, hb⟩
                  refine ⟨_, rfl, _, rfl, hS.next hb, hb, ?_⟩
                  exact rfl
                · intro a W hS hE hD
                  have k105 : a.tmps.getD 105 undef = .bool false := hD 8 105 (by kernel_rfl)
                  have k108 : a.tmps.getD 108 undef = .int .i64 lo := hD 11 108 (by kernel_rfl)
                  have k111 : a.tmps.getD 111 undef = .int .i64 lo := hD 14 111 (by kernel_rfl)
                  refine plan_want rfl (by kernel_rfl) k105 ?_
                  refine plan_value (v := .bool false) (w' := W) (by go_simp) ⟨_, rfl, hS, Grows.refl _, rfl⟩
                · intro a W hS hE hD
                  have k105 : a.tmps.getD 105 undef = .bool false := hD 8 105 (by kernel_rfl)
                  have k112 : a.tmps.getD 112 undef = .bool false := hD 15 112 (by kernel_rfl)
                  refine plan_free rfl ?_
                  refine plan_value (v := .bool false) (w' := W) (by go_simp) ⟨_, rfl, hS, Grows.refl _, rfl⟩
              · intro f w9 V21 hE
                have f113 : f 113 = .bool false := Ends.get hE 16 _ rfl 113 rfl
                clear hE
                simp only [setAll, List.setIfInBounds_toArray, List.set_cons_zero, List.set_cons_succ]
                rw [f113]; clear f113
                have VF := V21.bel
                clear V21
                go_wp2_with fail
                go_roundw
                case rel => exact ⟨k + 1, by omega, by go_num, VF⟩
                case measure => simp [intOf]; omega
      · obtain rfl : k = 2 := by omega
        have HB0 := Lib.hid hbw
        clear hbw
        go_wp2_with fail
        refine (rgworks_any _).mono ?_
        rintro e w2 ⟨rfl, hb⟩
        have VF := HBW.out.trans ((HB0.out.trans (hb.mono HB0.out.size)).mono HBW.out.size)
        clear hb
        go_wp2_with fail
        go_ret
        exact ⟨rfl, VF⟩
  rw [← hn0.out]
  exact hzw

set_option maxRecDepth 100000 in
theorem lifted (os : Os) (started : os.Started) (H : Type) (enc : TypeId × Value → H) :
    ReturnsInHanded {} Try.checked os 4 .any (Rows.rightsPlaysSpec.pre6 enc Try.prog Try.f4 Rows.rightsPlaysRow.domain false) (Rows.rightsPlaysSpec.post enc Try.prog Try.f4 false true false false) := by
  refine returnsInHanded_of_change (C := Try.checked) own started (by kernel_rfl) Try.func4
    (ChangeSpec.witness6 (enc := enc) (C := Try.checked) false ⟨#[], #[.agg #[.int .i64 0, .int .i64 0, .int .i64 0, .int .i64 0, .int .i64 0, .int .i64 0, .int .i64 0, .int .i64 0, .int .i64 0, .int .i64 0, .int .i64 0, .int .i64 0, .int .i64 0, .int .i64 0, .int .i64 0, .int .i64 0, .int .i64 0, .int .i64 0, .int .i64 0, .int .i64 0, .int .i64 0, .int .i64 0, .int .i64 0, .int .i64 0, .int .i64 0, .int .i64 0, .int .i64 0, .int .i64 0, .int .i64 0, .int .i64 0, .int .i64 0, .int .i64 0, .int .i64 0, .int .i64 0, .int .i64 0, .int .i64 0, .int .i64 0, .int .i64 0, .int .i64 0, .int .i64 0, .int .i64 0, .int .i64 0, .int .i64 0, .int .i64 0, .int .i64 0, .int .i64 0, .int .i64 0, .int .i64 0, .int .i64 0, .int .i64 0, .int .i64 0, .int .i64 0, .int .i64 0, .int .i64 0], .agg #[.int .i64 0, .int .i64 0, .int .i64 0, .int .i64 0, .int .i64 0, .int .i64 0, .int .i64 0, .int .i64 0, .int .i64 0, .int .i64 0, .int .i64 0, .int .i64 0, .int .i64 0, .int .i64 0, .int .i64 0, .int .i64 0, .int .i64 0, .int .i64 0, .int .i64 0, .int .i64 0, .int .i64 0, .int .i64 0, .int .i64 0, .int .i64 0, .int .i64 0, .int .i64 0, .int .i64 0, .int .i64 0, .int .i64 0, .int .i64 0, .int .i64 0, .int .i64 0, .int .i64 0, .int .i64 0, .int .i64 0, .int .i64 0, .int .i64 0, .int .i64 0, .int .i64 0, .int .i64 0, .int .i64 0, .int .i64 0, .int .i64 0, .int .i64 0, .int .i64 0, .int .i64 0, .int .i64 0, .int .i64 0, .int .i64 0, .int .i64 0, .int .i64 0, .int .i64 0, .int .i64 0, .int .i64 0], .slice none 0 0, .int .i64 0], []⟩ 8 (by kernel_rfl) (by kernel_rfl) (by kernel_rfl) (by kernel_rfl)) ?_
  intro W base args ds gs before hval0 hW hcnd _
  have hval : ∀ (j : Nat) t v, Try.f4.params[j]? = some t → args[j]? = some v → Value.okWide Try.prog W .any base t v := hval0
  have hW' := hW
  obtain ⟨p, q, hA0, hV, rfl, hfz, hnd⟩ := hW
  have hA : DataW.TrodAll enc Try.prog W 0 (fun _ => true) true Try.f4.params.toList args.toList ds p := hA0
  rw [Try.params4] at hA hval
  obtain ⟨v0, vs0, d0, ds0, p0, q0, hargs, rfl, rfl, h0, r0⟩ := trodAll_cons hA
  obtain ⟨v1, vs1, d1, ds1, p1, q1, rfl, rfl, rfl, h1, r1⟩ := trodAll_cons r0
  obtain ⟨v2, vs2, d2, ds2, p2, q2, rfl, rfl, rfl, h2, r2⟩ := trodAll_cons r1
  obtain ⟨v3, vs3, d3, ds3, p3, q3, rfl, rfl, rfl, h3, r3⟩ := trodAll_cons r2
  obtain ⟨rfl, rfl, rfl⟩ := trodAll_nil r3
  obtain rfl : args = #[v0, v1, v2, v3] := by cases args; simp_all
  obtain ⟨rfl, rfl⟩ := trodVars_none hV
  have k0 := h0
  have lt0 : ∀ x ∈ p0, x.block < W.heap.size := by obtain ⟨m, hm⟩ := k0; exact DataW.trod_lt m _ _ _ hm
  obtain ⟨L0, rfl, w0, u0⟩ := open_rights (hval 0 42 v0 rfl rfl) h0
  have k1 := h1
  have lt1 : ∀ x ∈ p1, x.block < W.heap.size := by obtain ⟨m, hm⟩ := k1; exact DataW.trod_lt m _ _ _ hm
  obtain ⟨L1, rfl, w1, u1⟩ := open_rights (hval 1 42 v1 rfl rfl) h1
  obtain ⟨A2, n2, c2, rfl⟩ := okWide_slice Try.underlying43 (hval 2 43 v2 rfl rfl)
  have k2 := h2
  have lt2 : ∀ x ∈ p2, x.block < W.heap.size := by obtain ⟨m, hm⟩ := k2; exact DataW.trod_lt m _ _ _ hm
  obtain ⟨g2, m2, l2, rfl, w2, u2⟩ := open_rsteps h2
  obtain ⟨a3, rfl, rfl, rfl, w3⟩ := open_int Try.underlying3 (hval 3 3 v3 rfl rfl) h3
  clear hA0 hval0
  refine (walk L0 L1 A2 l2 c2 a3 W w0 u0 w1 u1 w2 u2 g2 m2 w3).mono fun e W' ⟨he, bel⟩ => ?_
  subst he
  exact ⟨_, rfl, _, _, _, [], _, [], hW', trodAll_mk1 (shut_bool Try.underlying4 _), (trodAll_cons_mk (Below.trod laidOut (by kernel_rfl) (of_decide_eq_true (by kernel_rfl)) k0 bel lt0) (trodAll_cons_mk (Below.trod laidOut (by kernel_rfl) (of_decide_eq_true (by kernel_rfl)) k1 bel lt1) (trodAll_cons_mk (Below.trod laidOut (by kernel_rfl) (of_decide_eq_true (by kernel_rfl)) k2 bel lt2) (trodAll_cons_mk (shut_int Try.underlying3 w3) trodAll_mk0)))), rfl, bel.frame _, fun h => by cases h⟩

theorem over : Rows.rightsPlaysRow.holds Try.pinned (OpenSpec.ofChange Rows.rightsPlaysSpec) :=
  OpenClaim.holds_of_wide 4 Try.f4 rfl rfl rfl rfl rfl rfl rfl ⟨rfl, rfl, rfl, rfl, rfl⟩ rfl rfl rfl rfl rfl (by kernel_rfl) Try.func4 (by kernel_rfl)
    (of_decide_eq_true (by kernel_rfl)) (by unfold Func.isWrapper; first | (rw [if_pos (by decide +kernel)]; kernel_rfl) | (rw [if_neg (by decide +kernel)]; exact ⟨rfl, rfl⟩))
    (fun os started H enc _ => lifted os started H enc)

theorem proved : Rows.RightsPlaysSaid := over
#print axioms proved
end Go.Proofs.Ytmddbpkojboogaa.rightsPlays
