/-
  For every two events: where both may be they have one number among all just if they have one origin and one number there, and the same bytes just if they are the same; no further conditions.
-/
import Derived.Test.YtjihbjjekhncaaaRows
import Derived.WalkKit
import Derived.ProofKit
import Derived.OpenShut
import Derived.ShutString
import Derived.ChangeOld
import Derived.Below
import Derived.Test.YtjihbjjekhncaaaPlanF
import Derived.Deep.DeepCutAuto
namespace Go.Proofs.Ytjihbjjekhncaaa.eventIds
open Go.ChangeShapes Go.WideShapes Go.ChangeAt Go.RowKit
open Go.ChangeMaps (open_string shut_string)
set_option linter.unusedVariables false

theorem own : ownKnob Try.prog.godebug = none := by kernel_rfl
theorem laidOut : laidOutB Try.prog = true := by kernel_rfl

attribute [local go_sem ↓] exec_loadE exec_storeE exec_allocE exec_buildE

set_option maxRecDepth 100000 in
set_option maxHeartbeats 4000000 in
theorem walk (e0 : Ev) (e1 : Ev) (w : World) (w0 : e0.ok) (w1 : e1.ok) :
    Calls Try.prog 5 #[.agg (evA e0), .agg (evA e1)] w fun e w' => e = .returned (.bool true) ∧ Below w.heap.size w w' := by
  have V1 : Es w ((w.alloc (.cells (evA e0) 26)).alloc (.cells (evA e1) 26)) [(w.heap.size, e0), (w.heap.size + 1, e1)] := ((Es.nil w).new w0.d6 w.heap.size rfl).new w1.d6 _ (by simp)
  have l0 := V1.load 0 rfl
  have M0 := Lib.hid (emay_any e0 w0)
  have M1 := Lib.hid (emay_any e1 w1)
  have W0 := Lib.hid w0
  have W1 := Lib.hid w1
  have HV := Lib.hid V1
  clear w0 w1 V1
  cases hm0 : mayE e0
  case false =>
    rw [hm0] at M0
    clear hm0
    go_enter Try.func5, Try.ntmps5
    go_wp2_with fail
    refine (M0.out _).mono ?_
    rintro _ w2 ⟨rfl, hb⟩
    have V2 := HV.out.next hb
    clear hb
    go_wp2_with fail
    refine (evworks_any _).mono ?_
    rintro _ w3 ⟨rfl, hb⟩
    have VF := (V2.next hb).bel
    go_wp2_with fail
    go_ret
    exact ⟨rfl, VF⟩
  case true =>
    rw [hm0] at M0
    cases hm1 : mayE e1
    case false =>
      rw [hm1] at M1
      clear hm0 hm1
      go_enter Try.func5, Try.ntmps5
      go_wp2_with fail
      refine (M0.out _).mono ?_
      rintro _ w2 ⟨rfl, hb⟩
      have V2 := HV.out.next hb
      have l1 := V2.load 1 rfl
      clear hb
      go_wp2_with fail
      refine (M1.out _).mono ?_
      rintro _ w3 ⟨rfl, hb⟩
      have V3 := V2.next hb
      clear hb V2 l1
      go_wp2_with fail
      refine (evworks_any _).mono ?_
      rintro _ w4 ⟨rfl, hb⟩
      have VF := (V3.next hb).bel
      go_wp2_with fail
      go_ret
      exact ⟨rfl, VF⟩
    case true =>
      rw [hm1] at M1
      have ID0 : Hid (∀ W, Calls Try.prog 25 #[.agg (evA e0)] W fun x w' => x = .returned (.int .u64 (idE e0)) ∧ Below W.heap.size W w') := eid_any e0 W0.out.d6 W0.out.s
      have ID1 : Hid (∀ W, Calls Try.prog 25 #[.agg (evA e1)] W fun x w' => x = .returned (.int .u64 (idE e1)) ∧ Below W.heap.size W w') := eid_any e1 W1.out.d6 W1.out.s
      have PU0 := Lib.hid (eput_yes e0 W0.out hm0)
      have PU1 := Lib.hid (eput_yes e1 W1.out hm1)
      have IQ := Lib.hid (idE_eq hm0 hm1)
      have IN := Lib.hid (evB_inj W0.out W1.out hm0 hm1)
      clear hm0 hm1
      by_cases hq : e0 = e1
      case pos =>
        subst hq
        have qs : ∀ W, (Op.equalIn 10000 26 (.agg (evA e0)) (.agg (evA e0))).run Try.prog W = .ok true W := ev_same W0.out
        go_enter Try.func5, Try.ntmps5
        go_wp2_with fail
        refine (M0.out _).mono ?_
        rintro _ w2 ⟨rfl, hb⟩
        have V2 := HV.out.next hb
        have l1 := V2.load 1 rfl
        have HV2 := Lib.hid V2
        clear hb V2
        go_wp2_with fail
        refine (M1.out _).mono ?_
        rintro _ w3 ⟨rfl, hb⟩
        have V3 := HV2.out.next hb
        have co0 := (V3.nth 0 rfl).o
        have co1 := (V3.nth 1 rfl).o
        have cs0 := (V3.nth 0 rfl).s
        have cs1 := (V3.nth 1 rfl).s
        clear hb l1 HV2
        go_wp2_with fail
        refine wp_region_plan (fun W => Es w W [(w.heap.size, e0), (w.heap.size + 1, e0)]) Grows [IsV (.agg (evA e0)), IsV (.int .u64 (idE e0)), IsV (.agg (evA e0)), IsV (.int .u64 (idE e0)), IsV (.bool true), IsV (.bool true), IsV (.bool true), IsV (.bool true), IsV (.agg (evA e0)), SlB (evB e0), IsV (.string (strB (evB e0))), IsV (.agg (evA e0)), SlB (evB e0), IsV (.string (strB (evB e0))), IsV (.bool true), IsV (.agg (evA e0)), IsV (.agg (evA e0)), IsV (.bool true), IsV (.bool true), IsV (.bool true), IsV (.bool true), IsV (.bool true), IsV (.bool true), IsV (.bool true)] ([(2, .pointer (some ⟨w.heap.size, 0, none⟩)), (3, .pointer (some ⟨w.heap.size + 1, 0, none⟩)), (5, .bool true)] : List (Nat × Value)) (⟨rfl, rfl, rfl, trivial⟩) (n := 50) (by kernel_rfl) rfl (by kernel_rfl) V3.drew Grows.refl (StabAll.get ?_) ?_ ?_
        · repeat (first | exact trivial | refine ⟨stab_c _, ?_⟩ | refine ⟨stab_two _ _, ?_⟩ | refine ⟨stab_slb _, ?_⟩ | refine ⟨fun _ _ _ _ _ _ _ => trivial, ?_⟩)
        · refine ⟨?_, ⟨?_, ⟨?_, ⟨?_, ⟨?_, ⟨?_, ⟨?_, ⟨?_, ⟨?_, ⟨?_, ⟨?_, ⟨?_, ⟨?_, ⟨?_, ⟨?_, ⟨?_, ⟨?_, ⟨?_, ⟨?_, ⟨?_, ⟨?_, ⟨?_, ⟨?_, ⟨?_, trivial⟩⟩⟩⟩⟩⟩⟩⟩⟩⟩⟩⟩⟩⟩⟩⟩⟩⟩⟩⟩⟩⟩⟩⟩
          · intro a W hS hE hD
            obtain ⟨x2, _, _, _⟩ := hE
            have e2 := x2 (by kernel_rfl)
            refine plan_free rfl ?_
            have k2 := e2
            refine plan_value (ex_loadE k2 (hS.nth 0 rfl).d6 (hS.nth 0 rfl).rg) ⟨_, rfl, hS, Grows.refl _, rfl⟩
          · intro a W hS hE hD
            have k27 : a.tmps.getD 27 undef = .agg (evA e0) := hD 0 27 (by kernel_rfl)
            refine plan_free rfl ?_
            refine plan_call (f := 25) (args := #[a.tmps.getD 27 undef]) (by kernel_rfl) ?_
            rw [k27]
            refine (ID0.out W).mono ?_
            rintro e W2 ⟨rfl, hb⟩
            refine ⟨_, rfl, _, rfl, hS.next hb, hb, ?_⟩
            exact rfl
          · intro a W hS hE hD
            obtain ⟨_, x3, _, _⟩ := hE
            have e3 := x3 (by kernel_rfl)
            refine plan_free rfl ?_
            have k3 := e3
            refine plan_value (ex_loadE k3 (hS.nth 1 rfl).d6 (hS.nth 1 rfl).rg) ⟨_, rfl, hS, Grows.refl _, rfl⟩
          · intro a W hS hE hD
            have k29 : a.tmps.getD 29 undef = .agg (evA e0) := hD 2 29 (by kernel_rfl)
            refine plan_free rfl ?_
            refine plan_call (f := 25) (args := #[a.tmps.getD 29 undef]) (by kernel_rfl) ?_
            rw [k29]
            refine (ID0.out W).mono ?_
            rintro e W2 ⟨rfl, hb⟩
            refine ⟨_, rfl, _, rfl, hS.next hb, hb, ?_⟩
            exact rfl
          · intro a W hS hE hD
            have k28 : a.tmps.getD 28 undef = .int .u64 (idE e0) := hD 1 28 (by kernel_rfl)
            have k30 : a.tmps.getD 30 undef = .int .u64 (idE e0) := hD 3 30 (by kernel_rfl)
            refine plan_free rfl ?_
            refine plan_value (v := .bool true) (w' := W) (by go_simp) ⟨_, rfl, hS, Grows.refl _, rfl⟩
          · intro a W hS hE hD
            obtain ⟨_, _, x5, _⟩ := hE
            have e5 := x5 (by kernel_rfl)
            refine plan_free rfl ?_
            refine plan_value ex_move ⟨_, rfl, hS, Grows.refl _, ?_⟩
            exact e5
          · intro a W hS hE hD
            have k31 : a.tmps.getD 31 undef = .bool true := hD 4 31 (by kernel_rfl)
            have k32 : a.tmps.getD 32 undef = .bool true := hD 5 32 (by kernel_rfl)
            refine plan_free rfl ?_
            refine plan_value (v := .bool true) (w' := W) (by go_simp) ⟨_, rfl, hS, Grows.refl _, rfl⟩
          · intro a W hS hE hD
            have k33 : a.tmps.getD 33 undef = .bool true := hD 6 33 (by kernel_rfl)
            refine plan_free rfl ?_
            refine plan_value ex_move ⟨_, rfl, hS, Grows.refl _, ?_⟩
            exact k33
          · intro a W hS hE hD
            obtain ⟨x2, _, _, _⟩ := hE
            have e2 := x2 (by kernel_rfl)
            have k34 : a.tmps.getD 34 undef = .bool true := hD 7 34 (by kernel_rfl)
            refine plan_want rfl (by kernel_rfl) k34 ?_
            have k2 := e2
            refine plan_value (ex_loadE k2 (hS.nth 0 rfl).d6 (hS.nth 0 rfl).rg) ⟨_, rfl, hS, Grows.refl _, rfl⟩
          · intro a W hS hE hD
            have k34 : a.tmps.getD 34 undef = .bool true := hD 7 34 (by kernel_rfl)
            have k35 : a.tmps.getD 35 undef = .agg (evA e0) := hD 8 35 (by kernel_rfl)
            refine plan_want rfl (by kernel_rfl) k34 ?_
            refine plan_call (f := 23) (args := #[a.tmps.getD 35 undef]) (by kernel_rfl) ?_
            rw [k35]
            refine (PU0.out W).mono ?_
            rintro e W2 ⟨A, n, c, rfl, hl, ho, hb⟩
            exact ⟨_, rfl, _, rfl, hS.next hb, hb, ⟨A, n, c, rfl, hl, own_bytes ho⟩⟩
          · intro a W hS hE hD
            have k34 : a.tmps.getD 34 undef = .bool true := hD 7 34 (by kernel_rfl)
            obtain ⟨A36, n36, c36, k36, l36, b36⟩ : SlB (evB e0) (a.tmps.getD 36 undef) W := hD 9 36 (by kernel_rfl)
            refine plan_want rfl (by kernel_rfl) k34 ?_
            refine plan_value (ex_str k36 l36 b36) ⟨_, rfl, hS, Grows.refl _, rfl⟩
          · intro a W hS hE hD
            obtain ⟨_, x3, _, _⟩ := hE
            have e3 := x3 (by kernel_rfl)
            have k34 : a.tmps.getD 34 undef = .bool true := hD 7 34 (by kernel_rfl)
            refine plan_want rfl (by kernel_rfl) k34 ?_
            have k3 := e3
            refine plan_value (ex_loadE k3 (hS.nth 1 rfl).d6 (hS.nth 1 rfl).rg) ⟨_, rfl, hS, Grows.refl _, rfl⟩
          · intro a W hS hE hD
            have k34 : a.tmps.getD 34 undef = .bool true := hD 7 34 (by kernel_rfl)
            have k38 : a.tmps.getD 38 undef = .agg (evA e0) := hD 11 38 (by kernel_rfl)
            refine plan_want rfl (by kernel_rfl) k34 ?_
            refine plan_call (f := 23) (args := #[a.tmps.getD 38 undef]) (by kernel_rfl) ?_
            rw [k38]
            refine (PU0.out W).mono ?_
            rintro e W2 ⟨A, n, c, rfl, hl, ho, hb⟩
            exact ⟨_, rfl, _, rfl, hS.next hb, hb, ⟨A, n, c, rfl, hl, own_bytes ho⟩⟩
          · intro a W hS hE hD
            have k34 : a.tmps.getD 34 undef = .bool true := hD 7 34 (by kernel_rfl)
            obtain ⟨A39, n39, c39, k39, l39, b39⟩ : SlB (evB e0) (a.tmps.getD 39 undef) W := hD 12 39 (by kernel_rfl)
            refine plan_want rfl (by kernel_rfl) k34 ?_
            refine plan_value (ex_str k39 l39 b39) ⟨_, rfl, hS, Grows.refl _, rfl⟩
          · intro a W hS hE hD
            have k34 : a.tmps.getD 34 undef = .bool true := hD 7 34 (by kernel_rfl)
            have k37 : a.tmps.getD 37 undef = .string (strB (evB e0)) := hD 10 37 (by kernel_rfl)
            have k40 : a.tmps.getD 40 undef = .string (strB (evB e0)) := hD 13 40 (by kernel_rfl)
            refine plan_want rfl (by kernel_rfl) k34 ?_
            refine plan_value (v := .bool true) (w' := W) (by go_simp) ⟨_, rfl, hS, Grows.refl _, rfl⟩
          · intro a W hS hE hD
            obtain ⟨x2, _, _, _⟩ := hE
            have e2 := x2 (by kernel_rfl)
            have k34 : a.tmps.getD 34 undef = .bool true := hD 7 34 (by kernel_rfl)
            refine plan_want rfl (by kernel_rfl) k34 ?_
            have k2 := e2
            refine plan_value (ex_loadE k2 (hS.nth 0 rfl).d6 (hS.nth 0 rfl).rg) ⟨_, rfl, hS, Grows.refl _, rfl⟩
          · intro a W hS hE hD
            obtain ⟨_, x3, _, _⟩ := hE
            have e3 := x3 (by kernel_rfl)
            have k34 : a.tmps.getD 34 undef = .bool true := hD 7 34 (by kernel_rfl)
            refine plan_want rfl (by kernel_rfl) k34 ?_
            have k3 := e3
            refine plan_value (ex_loadE k3 (hS.nth 1 rfl).d6 (hS.nth 1 rfl).rg) ⟨_, rfl, hS, Grows.refl _, rfl⟩
          · intro a W hS hE hD
            have k34 : a.tmps.getD 34 undef = .bool true := hD 7 34 (by kernel_rfl)
            have k42 : a.tmps.getD 42 undef = .agg (evA e0) := hD 15 42 (by kernel_rfl)
            have k43 : a.tmps.getD 43 undef = .agg (evA e0) := hD 16 43 (by kernel_rfl)
            refine plan_want rfl (by kernel_rfl) k34 ?_
            refine plan_value (v := .bool true) (w' := W) (by go_simp) ⟨_, rfl, hS, Grows.refl _, rfl⟩
          · intro a W hS hE hD
            have k34 : a.tmps.getD 34 undef = .bool true := hD 7 34 (by kernel_rfl)
            have k41 : a.tmps.getD 41 undef = .bool true := hD 14 41 (by kernel_rfl)
            have k44 : a.tmps.getD 44 undef = .bool true := hD 17 44 (by kernel_rfl)
            refine plan_want rfl (by kernel_rfl) k34 ?_
            refine plan_value (v := .bool true) (w' := W) (by go_simp) ⟨_, rfl, hS, Grows.refl _, rfl⟩
          · intro a W hS hE hD
            have k34 : a.tmps.getD 34 undef = .bool true := hD 7 34 (by kernel_rfl)
            have k45 : a.tmps.getD 45 undef = .bool true := hD 18 45 (by kernel_rfl)
            refine plan_free rfl ?_
            refine plan_value (v := .bool true) (w' := W) (by go_simp) ⟨_, rfl, hS, Grows.refl _, rfl⟩
          · intro a W hS hE hD
            have k46 : a.tmps.getD 46 undef = .bool true := hD 19 46 (by kernel_rfl)
            refine plan_free rfl ?_
            refine plan_value ex_move ⟨_, rfl, hS, Grows.refl _, ?_⟩
            exact k46
          · intro a W hS hE hD
            have k47 : a.tmps.getD 47 undef = .bool true := hD 20 47 (by kernel_rfl)
            refine plan_want rfl (by kernel_rfl) k47 ?_
            refine plan_call (f := 15) (args := #[]) (by kernel_rfl) ?_
            refine (evworks_any W).mono ?_
            rintro e W2 ⟨rfl, hb⟩
            refine ⟨_, rfl, _, rfl, hS.next hb, hb, ?_⟩
            exact rfl
          · intro a W hS hE hD
            have k47 : a.tmps.getD 47 undef = .bool true := hD 20 47 (by kernel_rfl)
            have k48 : a.tmps.getD 48 undef = .bool true := hD 21 48 (by kernel_rfl)
            refine plan_free rfl ?_
            refine plan_value (v := .bool true) (w' := W) (by go_simp) ⟨_, rfl, hS, Grows.refl _, rfl⟩
          · intro a W hS hE hD
            have k49 : a.tmps.getD 49 undef = .bool true := hD 22 49 (by kernel_rfl)
            refine plan_free rfl ?_
            refine plan_value ex_assign ⟨_, rfl, hS, Grows.refl _, ?_⟩
            exact k49
        · intro f w9 V9 hE
          have f49 : f 49 = .bool true := Ends.get hE 22 _ rfl 49 rfl
          have f4 : f 4 = .bool true := Ends.get hE 23 _ rfl 4 rfl
          clear hE
          simp only [setAll, List.setIfInBounds_toArray, List.set_cons_zero, List.set_cons_succ]
          rw [f49]; clear f49
          rw [f4]; clear f4
          have VF := V9.bel
          clear V9 V3
          go_wp2_with fail
          go_ret
          exact ⟨rfl, VF⟩
      case neg =>
        have qd : ∀ W, (Op.equalIn 10000 26 (.agg (evA e0)) (.agg (evA e1))).run Try.prog W = .ok false W := ev_diff W0.out W1.out hq
        have sd := str_ne (fun x => hq (IN.out x))
        by_cases hs : e0.o = e1.o ∧ e0.s = e1.s
        case pos =>
          have so := hs.1
          have ss := hs.2
          have qi : ((idE e0) == (idE e1)) = true := by simpa using IQ.out.2 hs
          have qo : (e0.o == e1.o) = true := by simpa using hs.1
          have qs2 : ((e0.s : Int) == (e1.s : Int)) = true := by simp; omega
          clear so ss hs hq
          go_enter Try.func5, Try.ntmps5
          go_wp2_with fail
          refine (M0.out _).mono ?_
          rintro _ w2 ⟨rfl, hb⟩
          have V2 := HV.out.next hb
          have l1 := V2.load 1 rfl
          have HV2 := Lib.hid V2
          clear hb V2
          go_wp2_with fail
          refine (M1.out _).mono ?_
          rintro _ w3 ⟨rfl, hb⟩
          have V3 := HV2.out.next hb
          have co0 := (V3.nth 0 rfl).o
          have co1 := (V3.nth 1 rfl).o
          have cs0 := (V3.nth 0 rfl).s
          have cs1 := (V3.nth 1 rfl).s
          clear hb l1 HV2
          go_wp2_with fail
          refine wp_region_plan (fun W => Es w W [(w.heap.size, e0), (w.heap.size + 1, e1)]) Grows [IsV (.agg (evA e0)), IsV (.int .u64 (idE e0)), IsV (.agg (evA e1)), IsV (.int .u64 (idE e1)), IsV (.bool true), IsV (.bool true), IsV (.bool true), IsV (.bool true), IsV (.agg (evA e0)), SlB (evB e0), IsV (.string (strB (evB e0))), IsV (.agg (evA e1)), SlB (evB e1), IsV (.string (strB (evB e1))), IsV (.bool false), IsV (.agg (evA e0)), IsV (.agg (evA e1)), IsV (.bool false), IsV (.bool true), IsV (.bool true), IsV (.bool true), IsV (.bool true), IsV (.bool true), IsV (.bool true)] ([(2, .pointer (some ⟨w.heap.size, 0, none⟩)), (3, .pointer (some ⟨w.heap.size + 1, 0, none⟩)), (5, .bool true)] : List (Nat × Value)) (⟨rfl, rfl, rfl, trivial⟩) (n := 50) (by kernel_rfl) rfl (by kernel_rfl) V3.drew Grows.refl (StabAll.get ?_) ?_ ?_
          · repeat (first | exact trivial | refine ⟨stab_c _, ?_⟩ | refine ⟨stab_two _ _, ?_⟩ | refine ⟨stab_slb _, ?_⟩ | refine ⟨fun _ _ _ _ _ _ _ => trivial, ?_⟩)
          · refine ⟨?_, ⟨?_, ⟨?_, ⟨?_, ⟨?_, ⟨?_, ⟨?_, ⟨?_, ⟨?_, ⟨?_, ⟨?_, ⟨?_, ⟨?_, ⟨?_, ⟨?_, ⟨?_, ⟨?_, ⟨?_, ⟨?_, ⟨?_, ⟨?_, ⟨?_, ⟨?_, ⟨?_, trivial⟩⟩⟩⟩⟩⟩⟩⟩⟩⟩⟩⟩⟩⟩⟩⟩⟩⟩⟩⟩⟩⟩⟩⟩
            · intro a W hS hE hD
              obtain ⟨x2, _, _, _⟩ := hE
              have e2 := x2 (by kernel_rfl)
              refine plan_free rfl ?_
              have k2 := e2
              refine plan_value (ex_loadE k2 (hS.nth 0 rfl).d6 (hS.nth 0 rfl).rg) ⟨_, rfl, hS, Grows.refl _, rfl⟩
            · intro a W hS hE hD
              have k27 : a.tmps.getD 27 undef = .agg (evA e0) := hD 0 27 (by kernel_rfl)
              refine plan_free rfl ?_
              refine plan_call (f := 25) (args := #[a.tmps.getD 27 undef]) (by kernel_rfl) ?_
              rw [k27]
              refine (ID0.out W).mono ?_
              rintro e W2 ⟨rfl, hb⟩
              refine ⟨_, rfl, _, rfl, hS.next hb, hb, ?_⟩
              exact rfl
            · intro a W hS hE hD
              obtain ⟨_, x3, _, _⟩ := hE
              have e3 := x3 (by kernel_rfl)
              refine plan_free rfl ?_
              have k3 := e3
              refine plan_value (ex_loadE k3 (hS.nth 1 rfl).d6 (hS.nth 1 rfl).rg) ⟨_, rfl, hS, Grows.refl _, rfl⟩
            · intro a W hS hE hD
              have k29 : a.tmps.getD 29 undef = .agg (evA e1) := hD 2 29 (by kernel_rfl)
              refine plan_free rfl ?_
              refine plan_call (f := 25) (args := #[a.tmps.getD 29 undef]) (by kernel_rfl) ?_
              rw [k29]
              refine (ID1.out W).mono ?_
              rintro e W2 ⟨rfl, hb⟩
              refine ⟨_, rfl, _, rfl, hS.next hb, hb, ?_⟩
              exact rfl
            · intro a W hS hE hD
              have k28 : a.tmps.getD 28 undef = .int .u64 (idE e0) := hD 1 28 (by kernel_rfl)
              have k30 : a.tmps.getD 30 undef = .int .u64 (idE e1) := hD 3 30 (by kernel_rfl)
              refine plan_free rfl ?_
              refine plan_value (v := .bool true) (w' := W) (by go_simp) ⟨_, rfl, hS, Grows.refl _, rfl⟩
            · intro a W hS hE hD
              obtain ⟨_, _, x5, _⟩ := hE
              have e5 := x5 (by kernel_rfl)
              refine plan_free rfl ?_
              refine plan_value ex_move ⟨_, rfl, hS, Grows.refl _, ?_⟩
              exact e5
            · intro a W hS hE hD
              have k31 : a.tmps.getD 31 undef = .bool true := hD 4 31 (by kernel_rfl)
              have k32 : a.tmps.getD 32 undef = .bool true := hD 5 32 (by kernel_rfl)
              refine plan_free rfl ?_
              refine plan_value (v := .bool true) (w' := W) (by go_simp) ⟨_, rfl, hS, Grows.refl _, rfl⟩
            · intro a W hS hE hD
              have k33 : a.tmps.getD 33 undef = .bool true := hD 6 33 (by kernel_rfl)
              refine plan_free rfl ?_
              refine plan_value ex_move ⟨_, rfl, hS, Grows.refl _, ?_⟩
              exact k33
            · intro a W hS hE hD
              obtain ⟨x2, _, _, _⟩ := hE
              have e2 := x2 (by kernel_rfl)
              have k34 : a.tmps.getD 34 undef = .bool true := hD 7 34 (by kernel_rfl)
              refine plan_want rfl (by kernel_rfl) k34 ?_
              have k2 := e2
              refine plan_value (ex_loadE k2 (hS.nth 0 rfl).d6 (hS.nth 0 rfl).rg) ⟨_, rfl, hS, Grows.refl _, rfl⟩
            · intro a W hS hE hD
              have k34 : a.tmps.getD 34 undef = .bool true := hD 7 34 (by kernel_rfl)
              have k35 : a.tmps.getD 35 undef = .agg (evA e0) := hD 8 35 (by kernel_rfl)
              refine plan_want rfl (by kernel_rfl) k34 ?_
              refine plan_call (f := 23) (args := #[a.tmps.getD 35 undef]) (by kernel_rfl) ?_
              rw [k35]
              refine (PU0.out W).mono ?_
              rintro e W2 ⟨A, n, c, rfl, hl, ho, hb⟩
              exact ⟨_, rfl, _, rfl, hS.next hb, hb, ⟨A, n, c, rfl, hl, own_bytes ho⟩⟩
            · intro a W hS hE hD
              have k34 : a.tmps.getD 34 undef = .bool true := hD 7 34 (by kernel_rfl)
              obtain ⟨A36, n36, c36, k36, l36, b36⟩ : SlB (evB e0) (a.tmps.getD 36 undef) W := hD 9 36 (by kernel_rfl)
              refine plan_want rfl (by kernel_rfl) k34 ?_
              refine plan_value (ex_str k36 l36 b36) ⟨_, rfl, hS, Grows.refl _, rfl⟩
            · intro a W hS hE hD
              obtain ⟨_, x3, _, _⟩ := hE
              have e3 := x3 (by kernel_rfl)
              have k34 : a.tmps.getD 34 undef = .bool true := hD 7 34 (by kernel_rfl)
              refine plan_want rfl (by kernel_rfl) k34 ?_
              have k3 := e3
              refine plan_value (ex_loadE k3 (hS.nth 1 rfl).d6 (hS.nth 1 rfl).rg) ⟨_, rfl, hS, Grows.refl _, rfl⟩
            · intro a W hS hE hD
              have k34 : a.tmps.getD 34 undef = .bool true := hD 7 34 (by kernel_rfl)
              have k38 : a.tmps.getD 38 undef = .agg (evA e1) := hD 11 38 (by kernel_rfl)
              refine plan_want rfl (by kernel_rfl) k34 ?_
              refine plan_call (f := 23) (args := #[a.tmps.getD 38 undef]) (by kernel_rfl) ?_
              rw [k38]
              refine (PU1.out W).mono ?_
              rintro e W2 ⟨A, n, c, rfl, hl, ho, hb⟩
              exact ⟨_, rfl, _, rfl, hS.next hb, hb, ⟨A, n, c, rfl, hl, own_bytes ho⟩⟩
            · intro a W hS hE hD
              have k34 : a.tmps.getD 34 undef = .bool true := hD 7 34 (by kernel_rfl)
              obtain ⟨A39, n39, c39, k39, l39, b39⟩ : SlB (evB e1) (a.tmps.getD 39 undef) W := hD 12 39 (by kernel_rfl)
              refine plan_want rfl (by kernel_rfl) k34 ?_
              refine plan_value (ex_str k39 l39 b39) ⟨_, rfl, hS, Grows.refl _, rfl⟩
            · intro a W hS hE hD
              have k34 : a.tmps.getD 34 undef = .bool true := hD 7 34 (by kernel_rfl)
              have k37 : a.tmps.getD 37 undef = .string (strB (evB e0)) := hD 10 37 (by kernel_rfl)
              have k40 : a.tmps.getD 40 undef = .string (strB (evB e1)) := hD 13 40 (by kernel_rfl)
              refine plan_want rfl (by kernel_rfl) k34 ?_
              refine plan_value (v := .bool false) (w' := W) (by go_simp) ⟨_, rfl, hS, Grows.refl _, rfl⟩
            · intro a W hS hE hD
              obtain ⟨x2, _, _, _⟩ := hE
              have e2 := x2 (by kernel_rfl)
              have k34 : a.tmps.getD 34 undef = .bool true := hD 7 34 (by kernel_rfl)
              refine plan_want rfl (by kernel_rfl) k34 ?_
              have k2 := e2
              refine plan_value (ex_loadE k2 (hS.nth 0 rfl).d6 (hS.nth 0 rfl).rg) ⟨_, rfl, hS, Grows.refl _, rfl⟩
            · intro a W hS hE hD
              obtain ⟨_, x3, _, _⟩ := hE
              have e3 := x3 (by kernel_rfl)
              have k34 : a.tmps.getD 34 undef = .bool true := hD 7 34 (by kernel_rfl)
              refine plan_want rfl (by kernel_rfl) k34 ?_
              have k3 := e3
              refine plan_value (ex_loadE k3 (hS.nth 1 rfl).d6 (hS.nth 1 rfl).rg) ⟨_, rfl, hS, Grows.refl _, rfl⟩
            · intro a W hS hE hD
              have k34 : a.tmps.getD 34 undef = .bool true := hD 7 34 (by kernel_rfl)
              have k42 : a.tmps.getD 42 undef = .agg (evA e0) := hD 15 42 (by kernel_rfl)
              have k43 : a.tmps.getD 43 undef = .agg (evA e1) := hD 16 43 (by kernel_rfl)
              refine plan_want rfl (by kernel_rfl) k34 ?_
              refine plan_value (v := .bool false) (w' := W) (by go_simp) ⟨_, rfl, hS, Grows.refl _, rfl⟩
            · intro a W hS hE hD
              have k34 : a.tmps.getD 34 undef = .bool true := hD 7 34 (by kernel_rfl)
              have k41 : a.tmps.getD 41 undef = .bool false := hD 14 41 (by kernel_rfl)
              have k44 : a.tmps.getD 44 undef = .bool false := hD 17 44 (by kernel_rfl)
              refine plan_want rfl (by kernel_rfl) k34 ?_
              refine plan_value (v := .bool true) (w' := W) (by go_simp) ⟨_, rfl, hS, Grows.refl _, rfl⟩
            · intro a W hS hE hD
              have k34 : a.tmps.getD 34 undef = .bool true := hD 7 34 (by kernel_rfl)
              have k45 : a.tmps.getD 45 undef = .bool true := hD 18 45 (by kernel_rfl)
              refine plan_free rfl ?_
              refine plan_value (v := .bool true) (w' := W) (by go_simp) ⟨_, rfl, hS, Grows.refl _, rfl⟩
            · intro a W hS hE hD
              have k46 : a.tmps.getD 46 undef = .bool true := hD 19 46 (by kernel_rfl)
              refine plan_free rfl ?_
              refine plan_value ex_move ⟨_, rfl, hS, Grows.refl _, ?_⟩
              exact k46
            · intro a W hS hE hD
              have k47 : a.tmps.getD 47 undef = .bool true := hD 20 47 (by kernel_rfl)
              refine plan_want rfl (by kernel_rfl) k47 ?_
              refine plan_call (f := 15) (args := #[]) (by kernel_rfl) ?_
              refine (evworks_any W).mono ?_
              rintro e W2 ⟨rfl, hb⟩
              refine ⟨_, rfl, _, rfl, hS.next hb, hb, ?_⟩
              exact rfl
            · intro a W hS hE hD
              have k47 : a.tmps.getD 47 undef = .bool true := hD 20 47 (by kernel_rfl)
              have k48 : a.tmps.getD 48 undef = .bool true := hD 21 48 (by kernel_rfl)
              refine plan_free rfl ?_
              refine plan_value (v := .bool true) (w' := W) (by go_simp) ⟨_, rfl, hS, Grows.refl _, rfl⟩
            · intro a W hS hE hD
              have k49 : a.tmps.getD 49 undef = .bool true := hD 22 49 (by kernel_rfl)
              refine plan_free rfl ?_
              refine plan_value ex_assign ⟨_, rfl, hS, Grows.refl _, ?_⟩
              exact k49
          · intro f w9 V9 hE
            have f49 : f 49 = .bool true := Ends.get hE 22 _ rfl 49 rfl
            have f4 : f 4 = .bool true := Ends.get hE 23 _ rfl 4 rfl
            clear hE
            simp only [setAll, List.setIfInBounds_toArray, List.set_cons_zero, List.set_cons_succ]
            rw [f49]; clear f49
            rw [f4]; clear f4
            have VF := V9.bel
            clear V9 V3
            go_wp2_with fail
            go_ret
            exact ⟨rfl, VF⟩
        case neg =>
          have qi : ((idE e0) == (idE e1)) = false := by simpa using (fun x => hs (IQ.out.1 x))
          clear hq
          have qos : (e0.o == e1.o) = false ∨ ((e0.o == e1.o) = true ∧ ((e0.s : Int) == (e1.s : Int)) = false) := by
            by_cases h1 : e0.o = e1.o
            · refine .inr ⟨by simpa using h1, ?_⟩
              have : ¬ e0.s = e1.s := fun x => hs ⟨h1, x⟩
              simpa using (fun x : (e0.s : Int) = (e1.s : Int) => this (by omega))
            · exact .inl (by simpa using h1)
          clear hs
          rcases qos with qo | ⟨qo, qs2⟩
          all_goals
            go_enter Try.func5, Try.ntmps5
            go_wp2_with fail
            refine (M0.out _).mono ?_
            rintro _ w2 ⟨rfl, hb⟩
            have V2 := HV.out.next hb
            have l1 := V2.load 1 rfl
            have HV2 := Lib.hid V2
            clear hb V2
            go_wp2_with fail
            refine (M1.out _).mono ?_
            rintro _ w3 ⟨rfl, hb⟩
            have V3 := HV2.out.next hb
            have co0 := (V3.nth 0 rfl).o
            have co1 := (V3.nth 1 rfl).o
            have cs0 := (V3.nth 0 rfl).s
            have cs1 := (V3.nth 1 rfl).s
            clear hb l1 HV2
            go_wp2_with fail
            refine wp_region_plan (fun W => Es w W [(w.heap.size, e0), (w.heap.size + 1, e1)]) Grows [IsV (.agg (evA e0)), IsV (.int .u64 (idE e0)), IsV (.agg (evA e1)), IsV (.int .u64 (idE e1)), IsV (.bool false), IsV (.bool false), IsV (.bool true), IsV (.bool true), IsV (.agg (evA e0)), SlB (evB e0), IsV (.string (strB (evB e0))), IsV (.agg (evA e1)), SlB (evB e1), IsV (.string (strB (evB e1))), IsV (.bool false), IsV (.agg (evA e0)), IsV (.agg (evA e1)), IsV (.bool false), IsV (.bool true), IsV (.bool true), IsV (.bool true), IsV (.bool true), IsV (.bool true), IsV (.bool true)] ([(2, .pointer (some ⟨w.heap.size, 0, none⟩)), (3, .pointer (some ⟨w.heap.size + 1, 0, none⟩)), (5, .bool false)] : List (Nat × Value)) (⟨rfl, rfl, rfl, trivial⟩) (n := 50) (by kernel_rfl) rfl (by kernel_rfl) V3.drew Grows.refl (StabAll.get ?_) ?_ ?_
            · repeat (first | exact trivial | refine ⟨stab_c _, ?_⟩ | refine ⟨stab_two _ _, ?_⟩ | refine ⟨stab_slb _, ?_⟩ | refine ⟨fun _ _ _ _ _ _ _ => trivial, ?_⟩)
            · refine ⟨?_, ⟨?_, ⟨?_, ⟨?_, ⟨?_, ⟨?_, ⟨?_, ⟨?_, ⟨?_, ⟨?_, ⟨?_, ⟨?_, ⟨?_, ⟨?_, ⟨?_, ⟨?_, ⟨?_, ⟨?_, ⟨?_, ⟨?_, ⟨?_, ⟨?_, ⟨?_, ⟨?_, trivial⟩⟩⟩⟩⟩⟩⟩⟩⟩⟩⟩⟩⟩⟩⟩⟩⟩⟩⟩⟩⟩⟩⟩⟩
              · intro a W hS hE hD
                obtain ⟨x2, _, _, _⟩ := hE
                have e2 := x2 (by kernel_rfl)
                refine plan_free rfl ?_
                have k2 := e2
                refine plan_value (ex_loadE k2 (hS.nth 0 rfl).d6 (hS.nth 0 rfl).rg) ⟨_, rfl, hS, Grows.refl _, rfl⟩
              · intro a W hS hE hD
                have k27 : a.tmps.getD 27 undef = .agg (evA e0) := hD 0 27 (by kernel_rfl)
                refine plan_free rfl ?_
                refine plan_call (f := 25) (args := #[a.tmps.getD 27 undef]) (by kernel_rfl) ?_
                rw [k27]
                refine (ID0.out W).mono ?_
                rintro e W2 ⟨rfl, hb⟩
                refine ⟨_, rfl, _, rfl, hS.next hb, hb, ?_⟩
                exact rfl
              · intro a W hS hE hD
                obtain ⟨_, x3, _, _⟩ := hE
                have e3 := x3 (by kernel_rfl)
                refine plan_free rfl ?_
                have k3 := e3
                refine plan_value (ex_loadE k3 (hS.nth 1 rfl).d6 (hS.nth 1 rfl).rg) ⟨_, rfl, hS, Grows.refl _, rfl⟩
              · intro a W hS hE hD
                have k29 : a.tmps.getD 29 undef = .agg (evA e1) := hD 2 29 (by kernel_rfl)
                refine plan_free rfl ?_
                refine plan_call (f := 25) (args := #[a.tmps.getD 29 undef]) (by kernel_rfl) ?_
                rw [k29]
                refine (ID1.out W).mono ?_
                rintro e W2 ⟨rfl, hb⟩
                refine ⟨_, rfl, _, rfl, hS.next hb, hb, ?_⟩
                exact rfl
              · intro a W hS hE hD
                have k28 : a.tmps.getD 28 undef = .int .u64 (idE e0) := hD 1 28 (by kernel_rfl)
                have k30 : a.tmps.getD 30 undef = .int .u64 (idE e1) := hD 3 30 (by kernel_rfl)
                refine plan_free rfl ?_
                refine plan_value (v := .bool false) (w' := W) (by go_simp) ⟨_, rfl, hS, Grows.refl _, rfl⟩
              · intro a W hS hE hD
                obtain ⟨_, _, x5, _⟩ := hE
                have e5 := x5 (by kernel_rfl)
                refine plan_free rfl ?_
                refine plan_value ex_move ⟨_, rfl, hS, Grows.refl _, ?_⟩
                exact e5
              · intro a W hS hE hD
                have k31 : a.tmps.getD 31 undef = .bool false := hD 4 31 (by kernel_rfl)
                have k32 : a.tmps.getD 32 undef = .bool false := hD 5 32 (by kernel_rfl)
                refine plan_free rfl ?_
                refine plan_value (v := .bool true) (w' := W) (by go_simp) ⟨_, rfl, hS, Grows.refl _, rfl⟩
              · intro a W hS hE hD
                have k33 : a.tmps.getD 33 undef = .bool true := hD 6 33 (by kernel_rfl)
                refine plan_free rfl ?_
                refine plan_value ex_move ⟨_, rfl, hS, Grows.refl _, ?_⟩
                exact k33
              · intro a W hS hE hD
                obtain ⟨x2, _, _, _⟩ := hE
                have e2 := x2 (by kernel_rfl)
                have k34 : a.tmps.getD 34 undef = .bool true := hD 7 34 (by kernel_rfl)
                refine plan_want rfl (by kernel_rfl) k34 ?_
                have k2 := e2
                refine plan_value (ex_loadE k2 (hS.nth 0 rfl).d6 (hS.nth 0 rfl).rg) ⟨_, rfl, hS, Grows.refl _, rfl⟩
              · intro a W hS hE hD
                have k34 : a.tmps.getD 34 undef = .bool true := hD 7 34 (by kernel_rfl)
                have k35 : a.tmps.getD 35 undef = .agg (evA e0) := hD 8 35 (by kernel_rfl)
                refine plan_want rfl (by kernel_rfl) k34 ?_
                refine plan_call (f := 23) (args := #[a.tmps.getD 35 undef]) (by kernel_rfl) ?_
                rw [k35]
                refine (PU0.out W).mono ?_
                rintro e W2 ⟨A, n, c, rfl, hl, ho, hb⟩
                exact ⟨_, rfl, _, rfl, hS.next hb, hb, ⟨A, n, c, rfl, hl, own_bytes ho⟩⟩
              · intro a W hS hE hD
                have k34 : a.tmps.getD 34 undef = .bool true := hD 7 34 (by kernel_rfl)
                obtain ⟨A36, n36, c36, k36, l36, b36⟩ : SlB (evB e0) (a.tmps.getD 36 undef) W := hD 9 36 (by kernel_rfl)
                refine plan_want rfl (by kernel_rfl) k34 ?_
                refine plan_value (ex_str k36 l36 b36) ⟨_, rfl, hS, Grows.refl _, rfl⟩
              · intro a W hS hE hD
                obtain ⟨_, x3, _, _⟩ := hE
                have e3 := x3 (by kernel_rfl)
                have k34 : a.tmps.getD 34 undef = .bool true := hD 7 34 (by kernel_rfl)
                refine plan_want rfl (by kernel_rfl) k34 ?_
                have k3 := e3
                refine plan_value (ex_loadE k3 (hS.nth 1 rfl).d6 (hS.nth 1 rfl).rg) ⟨_, rfl, hS, Grows.refl _, rfl⟩
              · intro a W hS hE hD
                have k34 : a.tmps.getD 34 undef = .bool true := hD 7 34 (by kernel_rfl)
                have k38 : a.tmps.getD 38 undef = .agg (evA e1) := hD 11 38 (by kernel_rfl)
                refine plan_want rfl (by kernel_rfl) k34 ?_
                refine plan_call (f := 23) (args := #[a.tmps.getD 38 undef]) (by kernel_rfl) ?_
                rw [k38]
                refine (PU1.out W).mono ?_
                rintro e W2 ⟨A, n, c, rfl, hl, ho, hb⟩
                exact ⟨_, rfl, _, rfl, hS.next hb, hb, ⟨A, n, c, rfl, hl, own_bytes ho⟩⟩
              · intro a W hS hE hD
                have k34 : a.tmps.getD 34 undef = .bool true := hD 7 34 (by kernel_rfl)
                obtain ⟨A39, n39, c39, k39, l39, b39⟩ : SlB (evB e1) (a.tmps.getD 39 undef) W := hD 12 39 (by kernel_rfl)
                refine plan_want rfl (by kernel_rfl) k34 ?_
                refine plan_value (ex_str k39 l39 b39) ⟨_, rfl, hS, Grows.refl _, rfl⟩
              · intro a W hS hE hD
                have k34 : a.tmps.getD 34 undef = .bool true := hD 7 34 (by kernel_rfl)
                have k37 : a.tmps.getD 37 undef = .string (strB (evB e0)) := hD 10 37 (by kernel_rfl)
                have k40 : a.tmps.getD 40 undef = .string (strB (evB e1)) := hD 13 40 (by kernel_rfl)
                refine plan_want rfl (by kernel_rfl) k34 ?_
                refine plan_value (v := .bool false) (w' := W) (by go_simp) ⟨_, rfl, hS, Grows.refl _, rfl⟩
              · intro a W hS hE hD
                obtain ⟨x2, _, _, _⟩ := hE
                have e2 := x2 (by kernel_rfl)
                have k34 : a.tmps.getD 34 undef = .bool true := hD 7 34 (by kernel_rfl)
                refine plan_want rfl (by kernel_rfl) k34 ?_
                have k2 := e2
                refine plan_value (ex_loadE k2 (hS.nth 0 rfl).d6 (hS.nth 0 rfl).rg) ⟨_, rfl, hS, Grows.refl _, rfl⟩
              · intro a W hS hE hD
                obtain ⟨_, x3, _, _⟩ := hE
                have e3 := x3 (by kernel_rfl)
                have k34 : a.tmps.getD 34 undef = .bool true := hD 7 34 (by kernel_rfl)
                refine plan_want rfl (by kernel_rfl) k34 ?_
                have k3 := e3
                refine plan_value (ex_loadE k3 (hS.nth 1 rfl).d6 (hS.nth 1 rfl).rg) ⟨_, rfl, hS, Grows.refl _, rfl⟩
              · intro a W hS hE hD
                have k34 : a.tmps.getD 34 undef = .bool true := hD 7 34 (by kernel_rfl)
                have k42 : a.tmps.getD 42 undef = .agg (evA e0) := hD 15 42 (by kernel_rfl)
                have k43 : a.tmps.getD 43 undef = .agg (evA e1) := hD 16 43 (by kernel_rfl)
                refine plan_want rfl (by kernel_rfl) k34 ?_
                refine plan_value (v := .bool false) (w' := W) (by go_simp) ⟨_, rfl, hS, Grows.refl _, rfl⟩
              · intro a W hS hE hD
                have k34 : a.tmps.getD 34 undef = .bool true := hD 7 34 (by kernel_rfl)
                have k41 : a.tmps.getD 41 undef = .bool false := hD 14 41 (by kernel_rfl)
                have k44 : a.tmps.getD 44 undef = .bool false := hD 17 44 (by kernel_rfl)
                refine plan_want rfl (by kernel_rfl) k34 ?_
                refine plan_value (v := .bool true) (w' := W) (by go_simp) ⟨_, rfl, hS, Grows.refl _, rfl⟩
              · intro a W hS hE hD
                have k34 : a.tmps.getD 34 undef = .bool true := hD 7 34 (by kernel_rfl)
                have k45 : a.tmps.getD 45 undef = .bool true := hD 18 45 (by kernel_rfl)
                refine plan_free rfl ?_
                refine plan_value (v := .bool true) (w' := W) (by go_simp) ⟨_, rfl, hS, Grows.refl _, rfl⟩
              · intro a W hS hE hD
                have k46 : a.tmps.getD 46 undef = .bool true := hD 19 46 (by kernel_rfl)
                refine plan_free rfl ?_
                refine plan_value ex_move ⟨_, rfl, hS, Grows.refl _, ?_⟩
                exact k46
              · intro a W hS hE hD
                have k47 : a.tmps.getD 47 undef = .bool true := hD 20 47 (by kernel_rfl)
                refine plan_want rfl (by kernel_rfl) k47 ?_
                refine plan_call (f := 15) (args := #[]) (by kernel_rfl) ?_
                refine (evworks_any W).mono ?_
                rintro e W2 ⟨rfl, hb⟩
                refine ⟨_, rfl, _, rfl, hS.next hb, hb, ?_⟩
                exact rfl
              · intro a W hS hE hD
                have k47 : a.tmps.getD 47 undef = .bool true := hD 20 47 (by kernel_rfl)
                have k48 : a.tmps.getD 48 undef = .bool true := hD 21 48 (by kernel_rfl)
                refine plan_free rfl ?_
                refine plan_value (v := .bool true) (w' := W) (by go_simp) ⟨_, rfl, hS, Grows.refl _, rfl⟩
              · intro a W hS hE hD
                have k49 : a.tmps.getD 49 undef = .bool true := hD 22 49 (by kernel_rfl)
                refine plan_free rfl ?_
                refine plan_value ex_assign ⟨_, rfl, hS, Grows.refl _, ?_⟩
                exact k49
            · intro f w9 V9 hE
              have f49 : f 49 = .bool true := Ends.get hE 22 _ rfl 49 rfl
              have f4 : f 4 = .bool true := Ends.get hE 23 _ rfl 4 rfl
              clear hE
              simp only [setAll, List.setIfInBounds_toArray, List.set_cons_zero, List.set_cons_succ]
              rw [f49]; clear f49
              rw [f4]; clear f4
              have VF := V9.bel
              clear V9 V3
              go_wp2_with fail
              go_ret
              exact ⟨rfl, VF⟩

set_option maxRecDepth 100000 in
theorem lifted (os : Os) (started : os.Started) (H : Type) (enc : TypeId × Value → H) :
    ReturnsInHanded {} Try.checked os 5 .any (Rows.eventIdsSpec.pre6 enc Try.prog Try.f5 Rows.eventIdsRow.domain false) (Rows.eventIdsSpec.post enc Try.prog Try.f5 false true false false) := by
  refine returnsInHanded_of_change (C := Try.checked) own started (by kernel_rfl) Try.func5
    (ChangeSpec.witness6 (enc := enc) (C := Try.checked) false ⟨#[], #[.agg #[.int .i64 0, .int .u64 0, .int .u64 0, .int .u64 0, .int .u64 0, .int .u64 0, .int .u64 0, .int .u64 0, .int .u8 0, .int .u64 0, .int .i64 0, .int .i64 0, .int .u64 0, .int .u64 0], .agg #[.int .i64 0, .int .u64 0, .int .u64 0, .int .u64 0, .int .u64 0, .int .u64 0, .int .u64 0, .int .u64 0, .int .u8 0, .int .u64 0, .int .i64 0, .int .i64 0, .int .u64 0, .int .u64 0]], []⟩ 8 (by kernel_rfl) (by kernel_rfl) (by kernel_rfl) (by kernel_rfl)) ?_
  intro W base args ds gs before hval0 hW hcnd _
  have hval : ∀ (j : Nat) t v, Try.f5.params[j]? = some t → args[j]? = some v → Value.okWide Try.prog W .any base t v := hval0
  have hW' := hW
  obtain ⟨p, q, hA0, hV, rfl, hfz, hnd⟩ := hW
  have hA : DataW.TrodAll enc Try.prog W 0 (fun _ => true) true Try.f5.params.toList args.toList ds p := hA0
  rw [Try.params5] at hA hval
  obtain ⟨v0, vs0, d0, ds0, p0, q0, hargs, rfl, rfl, h0, r0⟩ := trodAll_cons hA
  obtain ⟨v1, vs1, d1, ds1, p1, q1, rfl, rfl, rfl, h1, r1⟩ := trodAll_cons r0
  obtain ⟨rfl, rfl, rfl⟩ := trodAll_nil r1
  obtain rfl : args = #[v0, v1] := by cases args; simp_all
  obtain ⟨rfl, rfl⟩ := trodVars_none hV
  have k0 := h0
  have lt0 : ∀ x ∈ p0, x.block < W.heap.size := by obtain ⟨m, hm⟩ := k0; exact DataW.trod_lt m _ _ _ hm
  obtain ⟨e0, rfl, w0⟩ := open_ev (hval 0 26 v0 rfl rfl) h0
  have k1 := h1
  have lt1 : ∀ x ∈ p1, x.block < W.heap.size := by obtain ⟨m, hm⟩ := k1; exact DataW.trod_lt m _ _ _ hm
  obtain ⟨e1, rfl, w1⟩ := open_ev (hval 1 26 v1 rfl rfl) h1
  clear hA0 hval0
  refine (walk e0 e1 W w0 w1).mono fun e W' ⟨he, bel⟩ => ?_
  subst he
  exact ⟨_, rfl, _, _, _, [], _, [], hW', trodAll_mk1 (shut_bool Try.underlying4 _), (trodAll_cons_mk (Below.trod laidOut (by kernel_rfl) (of_decide_eq_true (by kernel_rfl)) k0 bel lt0) (trodAll_cons_mk (Below.trod laidOut (by kernel_rfl) (of_decide_eq_true (by kernel_rfl)) k1 bel lt1) trodAll_mk0)), rfl, bel.frame _, fun h => by cases h⟩

theorem over : Rows.eventIdsRow.holds Try.pinned (OpenSpec.ofChange Rows.eventIdsSpec) :=
  OpenClaim.holds_of_wide 5 Try.f5 rfl rfl rfl rfl rfl rfl rfl ⟨rfl, rfl, rfl, rfl, rfl⟩ rfl rfl rfl rfl rfl (by kernel_rfl) Try.func5 (by kernel_rfl)
    (of_decide_eq_true (by kernel_rfl)) (by unfold Func.isWrapper; first | (rw [if_pos (by decide +kernel)]; kernel_rfl) | (rw [if_neg (by decide +kernel)]; exact ⟨rfl, rfl⟩))
    (fun os started H enc _ => lifted os started H enc)

theorem proved : Rows.EventIdsSaid := over
#print axioms proved
end Go.Proofs.Ytjihbjjekhncaaa.eventIds
