/-
  For every three rights and every slice of steps: joins go by in any order and brackets, of one with itself it is that, and of what one became with what it was it is what it became; no further conditions.
-/
import Derived.Test.YtdliklkfhakmhaaRows
import Derived.WalkKit
import Derived.ProofKit
import Derived.OpenShut
import Derived.ShutString
import Derived.ChangeOld
import Derived.Below
import Derived.Test.YtdliklkfhakmhaaRgV
import Derived.Deep.DeepCutAuto
namespace Go.Proofs.Ytdliklkfhakmhaa.rightsJoins
open Go.ChangeShapes Go.WideShapes Go.ChangeAt Go.RowKit
open Go.ChangeMaps (open_string shut_string)
set_option linter.unusedVariables false

theorem own : ownKnob Try.prog.godebug = none := by kernel_rfl
theorem laidOut : laidOutB Try.prog = true := by kernel_rfl

attribute [local go_sem ↓] exec_loadR exec_storeR exec_allocR exec_buildR

set_option maxRecDepth 100000 in
set_option maxHeartbeats 2000000 in
theorem walk (L0 : List Int) (L1 : List Int) (L2 : List Int) (A3 : Option Addr) (l3 : List RStep) (c3 : Nat) (w : World) (w0 : L0.length = 54) (u0 : WfR L0) (w1 : L1.length = 54) (u1 : WfR L1) (w2 : L2.length = 54) (u2 : WfR L2) (w3 : RSteps w w.heap.size A3 l3) (u3 : ∀ p ∈ l3, p.ok) (g3 : l3.length ≤ c3) (m3 : c3 ≤ maxLen) :
    Calls Try.prog 12 #[.agg (rgtA L0), .agg (rgtA L1), .agg (rgtA L2), .slice A3 l3.length c3] w fun e w' => e = .returned (.bool true) ∧ Below w.heap.size w w' := by
  obtain ⟨n0, hn0⟩ : ∃ n, Hid (n = l3.length) := ⟨_, Lib.hid rfl⟩
  have W0 := Lib.hid w0
  have W1 := Lib.hid w1
  have W2 := Lib.hid w2
  have D3 := Lib.hid w3
  have OK3 := Lib.hid u3
  have F0 := Lib.hid u0
  have aR := run_allocR
  have V1 : Rs w (((w.alloc (.cells (rgtA L0) 66)).alloc (.cells (rgtA L1) 66)).alloc (.cells (rgtA L2) 66)) [(w.heap.size, L0), (w.heap.size + 1, L1), (w.heap.size + 2, L2)] := by
    have := (((Rs.nil w).new w0 _ rfl).new w1 (w.heap.size + 1) (by simp)).new w2 (w.heap.size + 2) (by simp)
    exact this
  obtain ⟨J1, eJ1⟩ : ∃ J, Hid (joinR L0 L1 = J) := ⟨_, Lib.hid rfl⟩
  obtain ⟨J2, eJ2⟩ : ∃ J, Hid (joinR J1 L2 = J) := ⟨_, Lib.hid rfl⟩
  obtain ⟨J3, eJ3⟩ : ∃ J, Hid (joinR L1 L2 = J) := ⟨_, Lib.hid rfl⟩
  have h1 : J1.length = 54 := by rw [← eJ1.out]; exact joinR_len w0 w1
  have h3 : J3.length = 54 := by rw [← eJ3.out]; exact joinR_len w1 w2
  have h2 : J2.length = 54 := by rw [← eJ2.out]; exact joinR_len h1 w2
  have f1 : WfR J1 := by rw [← eJ1.out]; exact wf_join w0 w1 u0 u1
  have f2 : WfR J2 := by rw [← eJ2.out]; exact wf_join h1 w2 f1 u2
  have C01 := Lib.hid (joinR_any L0 L1 w0 w1)
  have C10 := Lib.hid (joinR_any L1 L0 w1 w0)
  have C12 := Lib.hid (joinR_any L1 L2 w1 w2)
  have CJ2 := Lib.hid (joinR_any J1 L2 h1 w2)
  have C0J := Lib.hid (joinR_any L0 J3 w0 h3)
  have C00 := Lib.hid (joinR_any L0 L0 w0 w0)
  rw [eJ1.out] at C01
  rw [← joinR_comm w0 w1, eJ1.out] at C10
  rw [eJ3.out] at C12
  rw [eJ2.out] at CJ2
  rw [← eJ3.out, ← joinR_assoc w0 w1 w2, eJ1.out, eJ2.out, eJ3.out] at C0J
  rw [joinR_self w0] at C00
  have q0 : ∀ W, (Op.equalIn 10000 66 (.agg (rgtA L0)) (.agg (rgtA L0))).run Try.prog W = .ok true W := rgt_same w0 u0 rfl
  have q1 : ∀ W, (Op.equalIn 10000 66 (.agg (rgtA J1)) (.agg (rgtA J1))).run Try.prog W = .ok true W := rgt_same h1 f1 rfl
  have q2 : ∀ W, (Op.equalIn 10000 66 (.agg (rgtA J2)) (.agg (rgtA J2))).run Try.prog W = .ok true W := rgt_same h2 f2 rfl
  have hzw : Calls Try.prog 12 #[.agg (rgtA L0), .agg (rgtA L1), .agg (rgtA L2), .slice A3 n0 c3] w fun e w' => e = .returned (.bool true) ∧ Below w.heap.size w w' := by
    have S00 := Lib.hid (joinR_self w0)
    clear w0 w1 w2 w3 u0 u1 u2 u3 h1 h2 h3 f1 f2
    by_cases h50 : 50 < n0
    · have h1 : (50 : Int) < (n0 : Int) := by omega
      go_enter Try.func12, Try.ntmps12
      go_wp2_with fail
      refine (rgworks_any _).mono ?_
      rintro e w2 ⟨rfl, hb2⟩
      have VF := (V1.next hb2).bel
      go_wp2_with fail
      go_ret
      exact ⟨rfl, VF⟩
    have h1 : ¬ (50 : Int) < (n0 : Int) := by omega
    go_enter Try.func12, Try.ntmps12
    go_wp2_with fail
    refine wp_region_plan (fun W => Rs w W [(w.heap.size, L0), (w.heap.size + 1, L1), (w.heap.size + 2, L2)]) Grows [IsV (.agg (rgtA L0)), IsV (.agg (rgtA L1)), IsV (.agg (rgtA J1)), IsV (.agg (rgtA L1)), IsV (.agg (rgtA L0)), IsV (.agg (rgtA J1)), IsV (.bool false), IsV (.bool false), IsV (.agg (rgtA L0)), IsV (.agg (rgtA L1)), IsV (.agg (rgtA J1)), IsV (.agg (rgtA L2)), IsV (.agg (rgtA J2)), IsV (.agg (rgtA L0)), IsV (.agg (rgtA L1)), IsV (.agg (rgtA L2)), IsV (.agg (rgtA J3)), IsV (.agg (rgtA J2)), IsV (.bool false), IsV (.bool false), IsV (.bool false), IsV (.agg (rgtA L0)), IsV (.agg (rgtA L0)), IsV (.agg (rgtA L0)), IsV (.agg (rgtA L0)), IsV (.bool false), IsV (.bool false)] ([(4, .pointer (some ⟨w.heap.size, 0, none⟩)), (5, .pointer (some ⟨w.heap.size + 1, 0, none⟩)), (6, .pointer (some ⟨w.heap.size + 2, 0, none⟩))] : List (Nat × Value)) (⟨rfl, rfl, rfl, trivial⟩) (n := 71) (by kernel_rfl) rfl (by kernel_rfl) V1.drew Grows.refl (StabAll.get ?_) ?_ ?_
    · repeat (first | exact trivial | refine ⟨stab_c _, ?_⟩ | refine ⟨stab_two _ _, ?_⟩ | refine ⟨fun _ _ _ _ _ _ _ => trivial, ?_⟩)
    · refine ⟨?_, ⟨?_, ⟨?_, ⟨?_, ⟨?_, ⟨?_, ⟨?_, ⟨?_, ⟨?_, ⟨?_, ⟨?_, ⟨?_, ⟨?_, ⟨?_, ⟨?_, ⟨?_, ⟨?_, ⟨?_, ⟨?_, ⟨?_, ⟨?_, ⟨?_, ⟨?_, ⟨?_, ⟨?_, ⟨?_, ⟨?_, trivial⟩⟩⟩⟩⟩⟩⟩⟩⟩⟩⟩⟩⟩⟩⟩⟩⟩⟩⟩⟩⟩⟩⟩⟩⟩⟩⟩
      · intro a W hS hE hD
        obtain ⟨x4, _, _, _⟩ := hE
        have e4 := x4 (by kernel_rfl)
        refine plan_free rfl ?_
        have k4 := e4
        refine plan_value (ex_loadR k4 (hS.nth 0 rfl)) ⟨_, rfl, hS, Grows.refl _, rfl⟩
      · intro a W hS hE hD
        obtain ⟨_, x5, _, _⟩ := hE
        have e5 := x5 (by kernel_rfl)
        refine plan_free rfl ?_
        have k5 := e5
        refine plan_value (ex_loadR k5 (hS.nth 1 rfl)) ⟨_, rfl, hS, Grows.refl _, rfl⟩
      · intro a W hS hE hD
        have k17 : a.tmps.getD 17 undef = .agg (rgtA L0) := hD 0 17 (by kernel_rfl)
        have k18 : a.tmps.getD 18 undef = .agg (rgtA L1) := hD 1 18 (by kernel_rfl)
        refine plan_free rfl ?_
        refine plan_call (f := 46) (args := #[a.tmps.getD 17 undef, a.tmps.getD 18 undef]) (by kernel_rfl) ?_
        rw [k17, k18]
        refine (C01.out W).mono ?_
        rintro e W2 ⟨rfl, hb⟩
        refine ⟨_, rfl, _, rfl, hS.next hb, hb, ?_⟩
        exact rfl
      · intro a W hS hE hD
        obtain ⟨_, x5, _, _⟩ := hE
        have e5 := x5 (by kernel_rfl)
        refine plan_free rfl ?_
        have k5 := e5
        refine plan_value (ex_loadR k5 (hS.nth 1 rfl)) ⟨_, rfl, hS, Grows.refl _, rfl⟩
      · intro a W hS hE hD
        obtain ⟨x4, _, _, _⟩ := hE
        have e4 := x4 (by kernel_rfl)
        refine plan_free rfl ?_
        have k4 := e4
        refine plan_value (ex_loadR k4 (hS.nth 0 rfl)) ⟨_, rfl, hS, Grows.refl _, rfl⟩
      · intro a W hS hE hD
        have k20 : a.tmps.getD 20 undef = .agg (rgtA L1) := hD 3 20 (by kernel_rfl)
        have k21 : a.tmps.getD 21 undef = .agg (rgtA L0) := hD 4 21 (by kernel_rfl)
        refine plan_free rfl ?_
        refine plan_call (f := 46) (args := #[a.tmps.getD 20 undef, a.tmps.getD 21 undef]) (by kernel_rfl) ?_
        rw [k20, k21]
        refine (C10.out W).mono ?_
        rintro e W2 ⟨rfl, hb⟩
        refine ⟨_, rfl, _, rfl, hS.next hb, hb, ?_⟩
        exact rfl
      · intro a W hS hE hD
        have k19 : a.tmps.getD 19 undef = .agg (rgtA J1) := hD 2 19 (by kernel_rfl)
        have k22 : a.tmps.getD 22 undef = .agg (rgtA J1) := hD 5 22 (by kernel_rfl)
        refine plan_free rfl ?_
        refine plan_value (v := .bool false) (w' := W) (by go_simp) ⟨_, rfl, hS, Grows.refl _, rfl⟩
      · intro a W hS hE hD
        have k23 : a.tmps.getD 23 undef = .bool false := hD 6 23 (by kernel_rfl)
        refine plan_free rfl ?_
        refine plan_value ex_move ⟨_, rfl, hS, Grows.refl _, ?_⟩
        exact k23
      · intro a W hS hE hD
        obtain ⟨x4, _, _, _⟩ := hE
        have e4 := x4 (by kernel_rfl)
        have k24 : a.tmps.getD 24 undef = .bool false := hD 7 24 (by kernel_rfl)
        refine plan_want rfl (by kernel_rfl) k24 ?_
        have k4 := e4
        refine plan_value (ex_loadR k4 (hS.nth 0 rfl)) ⟨_, rfl, hS, Grows.refl _, rfl⟩
      · intro a W hS hE hD
        obtain ⟨_, x5, _, _⟩ := hE
        have e5 := x5 (by kernel_rfl)
        have k24 : a.tmps.getD 24 undef = .bool false := hD 7 24 (by kernel_rfl)
        refine plan_want rfl (by kernel_rfl) k24 ?_
        have k5 := e5
        refine plan_value (ex_loadR k5 (hS.nth 1 rfl)) ⟨_, rfl, hS, Grows.refl _, rfl⟩
      · intro a W hS hE hD
        have k24 : a.tmps.getD 24 undef = .bool false := hD 7 24 (by kernel_rfl)
        have k25 : a.tmps.getD 25 undef = .agg (rgtA L0) := hD 8 25 (by kernel_rfl)
        have k26 : a.tmps.getD 26 undef = .agg (rgtA L1) := hD 9 26 (by kernel_rfl)
        refine plan_want rfl (by kernel_rfl) k24 ?_
        refine plan_call (f := 46) (args := #[a.tmps.getD 25 undef, a.tmps.getD 26 undef]) (by kernel_rfl) ?_
        rw [k25, k26]
        refine (C01.out W).mono ?_
        rintro e W2 ⟨rfl, hb⟩
        refine ⟨_, rfl, _, rfl, hS.next hb, hb, ?_⟩
        exact rfl
      · intro a W hS hE hD
        obtain ⟨_, _, x6, _⟩ := hE
        have e6 := x6 (by kernel_rfl)
        have k24 : a.tmps.getD 24 undef = .bool false := hD 7 24 (by kernel_rfl)
        refine plan_want rfl (by kernel_rfl) k24 ?_
        have k6 := e6
        refine plan_value (ex_loadR k6 (hS.nth 2 rfl)) ⟨_, rfl, hS, Grows.refl _, rfl⟩
      · intro a W hS hE hD
        have k24 : a.tmps.getD 24 undef = .bool false := hD 7 24 (by kernel_rfl)
        have k27 : a.tmps.getD 27 undef = .agg (rgtA J1) := hD 10 27 (by kernel_rfl)
        have k28 : a.tmps.getD 28 undef = .agg (rgtA L2) := hD 11 28 (by kernel_rfl)
        refine plan_want rfl (by kernel_rfl) k24 ?_
        refine plan_call (f := 46) (args := #[a.tmps.getD 27 undef, a.tmps.getD 28 undef]) (by kernel_rfl) ?_
        rw [k27, k28]
        refine (CJ2.out W).mono ?_
        rintro e W2 ⟨rfl, hb⟩
        refine ⟨_, rfl, _, rfl, hS.next hb, hb, ?_⟩
        exact rfl
      · intro a W hS hE hD
        obtain ⟨x4, _, _, _⟩ := hE
        have e4 := x4 (by kernel_rfl)
        have k24 : a.tmps.getD 24 undef = .bool false := hD 7 24 (by kernel_rfl)
        refine plan_want rfl (by kernel_rfl) k24 ?_
        have k4 := e4
        refine plan_value (ex_loadR k4 (hS.nth 0 rfl)) ⟨_, rfl, hS, Grows.refl _, rfl⟩
      · intro a W hS hE hD
        obtain ⟨_, x5, _, _⟩ := hE
        have e5 := x5 (by kernel_rfl)
        have k24 : a.tmps.getD 24 undef = .bool false := hD 7 24 (by kernel_rfl)
        refine plan_want rfl (by kernel_rfl) k24 ?_
        have k5 := e5
        refine plan_value (ex_loadR k5 (hS.nth 1 rfl)) ⟨_, rfl, hS, Grows.refl _, rfl⟩
      · intro a W hS hE hD
        obtain ⟨_, _, x6, _⟩ := hE
        have e6 := x6 (by kernel_rfl)
        have k24 : a.tmps.getD 24 undef = .bool false := hD 7 24 (by kernel_rfl)
        refine plan_want rfl (by kernel_rfl) k24 ?_
        have k6 := e6
        refine plan_value (ex_loadR k6 (hS.nth 2 rfl)) ⟨_, rfl, hS, Grows.refl _, rfl⟩
      · intro a W hS hE hD
        have k24 : a.tmps.getD 24 undef = .bool false := hD 7 24 (by kernel_rfl)
        have k31 : a.tmps.getD 31 undef = .agg (rgtA L1) := hD 14 31 (by kernel_rfl)
        have k32 : a.tmps.getD 32 undef = .agg (rgtA L2) := hD 15 32 (by kernel_rfl)
        refine plan_want rfl (by kernel_rfl) k24 ?_
        refine plan_call (f := 46) (args := #[a.tmps.getD 31 undef, a.tmps.getD 32 undef]) (by kernel_rfl) ?_
        rw [k31, k32]
        refine (C12.out W).mono ?_
        rintro e W2 ⟨rfl, hb⟩
        refine ⟨_, rfl, _, rfl, hS.next hb, hb, ?_⟩
        exact rfl
      · intro a W hS hE hD
        have k24 : a.tmps.getD 24 undef = .bool false := hD 7 24 (by kernel_rfl)
        have k30 : a.tmps.getD 30 undef = .agg (rgtA L0) := hD 13 30 (by kernel_rfl)
        have k33 : a.tmps.getD 33 undef = .agg (rgtA J3) := hD 16 33 (by kernel_rfl)
        refine plan_want rfl (by kernel_rfl) k24 ?_
        refine plan_call (f := 46) (args := #[a.tmps.getD 30 undef, a.tmps.getD 33 undef]) (by kernel_rfl) ?_
        rw [k30, k33]
        refine (C0J.out W).mono ?_
        rintro e W2 ⟨rfl, hb⟩
        refine ⟨_, rfl, _, rfl, hS.next hb, hb, ?_⟩
        exact rfl
      · intro a W hS hE hD
        have k24 : a.tmps.getD 24 undef = .bool false := hD 7 24 (by kernel_rfl)
        have k29 : a.tmps.getD 29 undef = .agg (rgtA J2) := hD 12 29 (by kernel_rfl)
        have k34 : a.tmps.getD 34 undef = .agg (rgtA J2) := hD 17 34 (by kernel_rfl)
        refine plan_want rfl (by kernel_rfl) k24 ?_
        refine plan_value (v := .bool false) (w' := W) (by go_simp) ⟨_, rfl, hS, Grows.refl _, rfl⟩
      · intro a W hS hE hD
        have k24 : a.tmps.getD 24 undef = .bool false := hD 7 24 (by kernel_rfl)
        have k35 : a.tmps.getD 35 undef = .bool false := hD 18 35 (by kernel_rfl)
        refine plan_free rfl ?_
        refine plan_value (v := .bool false) (w' := W) (by go_simp) ⟨_, rfl, hS, Grows.refl _, rfl⟩
      · intro a W hS hE hD
        have k36 : a.tmps.getD 36 undef = .bool false := hD 19 36 (by kernel_rfl)
        refine plan_free rfl ?_
        refine plan_value ex_move ⟨_, rfl, hS, Grows.refl _, ?_⟩
        exact k36
      · intro a W hS hE hD
        obtain ⟨x4, _, _, _⟩ := hE
        have e4 := x4 (by kernel_rfl)
        have k37 : a.tmps.getD 37 undef = .bool false := hD 20 37 (by kernel_rfl)
        refine plan_want rfl (by kernel_rfl) k37 ?_
        have k4 := e4
        refine plan_value (ex_loadR k4 (hS.nth 0 rfl)) ⟨_, rfl, hS, Grows.refl _, rfl⟩
      · intro a W hS hE hD
        obtain ⟨x4, _, _, _⟩ := hE
        have e4 := x4 (by kernel_rfl)
        have k37 : a.tmps.getD 37 undef = .bool false := hD 20 37 (by kernel_rfl)
        refine plan_want rfl (by kernel_rfl) k37 ?_
        have k4 := e4
        refine plan_value (ex_loadR k4 (hS.nth 0 rfl)) ⟨_, rfl, hS, Grows.refl _, rfl⟩
      · intro a W hS hE hD
        have k37 : a.tmps.getD 37 undef = .bool false := hD 20 37 (by kernel_rfl)
        have k38 : a.tmps.getD 38 undef = .agg (rgtA L0) := hD 21 38 (by kernel_rfl)
        have k39 : a.tmps.getD 39 undef = .agg (rgtA L0) := hD 22 39 (by kernel_rfl)
        refine plan_want rfl (by kernel_rfl) k37 ?_
        refine plan_call (f := 46) (args := #[a.tmps.getD 38 undef, a.tmps.getD 39 undef]) (by kernel_rfl) ?_
        rw [k38, k39]
        refine (C00.out W).mono ?_
        rintro e W2 ⟨rfl, hb⟩
        refine ⟨_, rfl, _, rfl, hS.next hb, hb, ?_⟩
        exact rfl
      · intro a W hS hE hD
        obtain ⟨x4, _, _, _⟩ := hE
        have e4 := x4 (by kernel_rfl)
        have k37 : a.tmps.getD 37 undef = .bool false := hD 20 37 (by kernel_rfl)
        refine plan_want rfl (by kernel_rfl) k37 ?_
        have k4 := e4
        refine plan_value (ex_loadR k4 (hS.nth 0 rfl)) ⟨_, rfl, hS, Grows.refl _, rfl⟩
      · intro a W hS hE hD
        have k37 : a.tmps.getD 37 undef = .bool false := hD 20 37 (by kernel_rfl)
        have k40 : a.tmps.getD 40 undef = .agg (rgtA L0) := hD 23 40 (by kernel_rfl)
        have k41 : a.tmps.getD 41 undef = .agg (rgtA L0) := hD 24 41 (by kernel_rfl)
        refine plan_want rfl (by kernel_rfl) k37 ?_
        refine plan_value (v := .bool false) (w' := W) (by go_simp) ⟨_, rfl, hS, Grows.refl _, rfl⟩
      · intro a W hS hE hD
        have k37 : a.tmps.getD 37 undef = .bool false := hD 20 37 (by kernel_rfl)
        have k42 : a.tmps.getD 42 undef = .bool false := hD 25 42 (by kernel_rfl)
        refine plan_free rfl ?_
        refine plan_value (v := .bool false) (w' := W) (by go_simp) ⟨_, rfl, hS, Grows.refl _, rfl⟩
    · intro f w3 Vz hE
      have f43 : f 43 = .bool false := Ends.get hE 26 _ rfl 43 rfl
      clear hE
      simp only [setAll, List.setIfInBounds_toArray, List.set_cons_zero, List.set_cons_succ]
      rw [f43]; clear f43
      have HS3 : Hid (w.heap.size ≤ w3.heap.size ∧ w.heap.size + 2 < w3.heap.size) := ⟨Vz.bel.size, (Vz.nth 2 rfl).blk.lt⟩
      have V3 : Rs w (w3.alloc (.cells (rgtA L0) 66)) [(w.heap.size, L0), (w.heap.size + 1, L1), (w.heap.size + 2, L2), (w3.heap.size, L0)] := by
        have := Vz.new W0.out w3.heap.size rfl
        exact this
      have l0 := run_loadR (Vz.nth 0 rfl)
      have s0 := run_storeR_new W0.out w3
      clear Vz V1 q1 q2 C01 C10 C12 CJ2 C0J C00 eJ1 eJ2 eJ3
      go_wp2_with fail
      clear l0 s0
      go_loopw [10] (fun v wr => ∃ (k : Nat) (r : List Int), k ≤ n0 ∧ v = .int .i64 (k : Int) ∧ Rs w wr [(w.heap.size, L0), (w.heap.size + 1, L1), (w.heap.size + 2, L2), (w3.heap.size, r)] ∧ joinR r L0 = r ∧ WfR r) (fun v _ => n0 - (intOf v).toNat)
      case atStart => exact ⟨0, L0, by omega, rfl, V3, S00.out, F0.out⟩
      case round =>
        clear V3
        obtain ⟨k, L, hk, rfl, V, hJ, hF⟩ := hrel
        have HJ := Lib.hid hJ
        have HF := Lib.hid hF
        have HL := Lib.hid (V.nth 3 rfl).len
        have hs3 : w.heap.size ≤ w3.heap.size ∧ w.heap.size + 2 < w3.heap.size := HS3.out
        clear hJ hF
        by_cases hlt : k < n0
        · have hkl : k < l3.length := by rw [← hn0.out]; exact hlt
          obtain ⟨b, off, rfl, hB, hc⟩ := D3.out (by omega)
          have RN := hc k l3[k] (List.getElem?_eq_getElem hkl)
          have ok := OK3.out _ (List.getElem_mem hkl)
          generalize l3[k] = s at RN ok
          have RNG : Hid (∀ W, Below w.heap.size w W → W.rangeAt b (off + k * 4) (stepL s)) := fun W hb j v hj => (hb.cell (p := ⟨b, off + k * 4 + j, none⟩) hB).trans (RN j v hj)
          obtain ⟨A, er, hE⟩ : ∃ M e, doesR s L = (M, e) := ⟨_, _, rfl⟩
          have HA : Hid (A.length = 54) := by have := does_len (s := s) HL.out; rw [hE] at this; exact this
          have DOES : Hid (∀ W, Calls Try.prog 45 #[.agg (stepA s), .agg (rgtA L)] W fun e w' => e = .returned (.tuple #[.agg (rgtA A), .int .i64 er]) ∧ Below W.heap.size W w') := by
            intro W; have := does_any s ok.d L HL.out W; rwa [hE] at this
          have HE := Lib.hid hE
          have hk0 : (0 : Int) ≤ (k : Int) := by omega
          have hkn : (k : Int) < (n0 : Int) := by omega
          clear hc RN ok hE hs3
          go_wp2_with fail
          refine wp_region_cy (fun ℓ t W => GA w wr.heap.size [(w.heap.size, L0), (w.heap.size + 1, L1), (w.heap.size + 2, L2), (w3.heap.size, L)] 11 A (ℓ 9) (ℓ 10) t W) (fun _ _ => True) [IsV (.slice (some ⟨b, off, none⟩) n0 c3), IsV (.int .i64 (k : Int)), IsV (.pointer (some ⟨b, off + k * 4, none⟩)), IsV (.agg (stepA s)), IsV (.agg (rgtA L)), IsV (.tuple #[.agg (rgtA A), .int .i64 er]), IsV (.tuple #[.agg (rgtA A), .int .i64 er]), IsV (.agg (rgtA A)), IsV (.int .i64 er), fun _ _ => True, fun _ _ => True, IsV (.int .i64 er)] ([(3, .slice (some ⟨b, off, none⟩) n0 c3), (9, .pointer (some ⟨w3.heap.size, 0, none⟩)), (10, .int .i64 (k : Int))] : List (Nat × Value)) (⟨rfl, rfl, rfl, trivial⟩) (n := 71) (by kernel_rfl) rfl (by kernel_rfl) (GA.first (RG.start V)) (fun _ => trivial) (StabBy.get ?_) ?_ ?_
          · repeat (first | exact trivial | refine ⟨fun _ _ _ _ h => h, ?_⟩)
          · refine ⟨?_, ⟨?_, ⟨?_, ⟨?_, ⟨?_, ⟨?_, ⟨?_, ⟨?_, ⟨?_, ⟨?_, ⟨?_, ⟨?_, trivial⟩⟩⟩⟩⟩⟩⟩⟩⟩⟩⟩⟩
            · intro a W ℓ hZ hl hB hS hE hN hD
              obtain ⟨x3, _, _, _⟩ := hE
              have e3 := x3 (by kernel_rfl)
              refine plan_free rfl ?_
              refine plan_value ex_move ⟨_, rfl, (GA.put hS (by simp)), trivial, ?_⟩
              exact e3
            · intro a W ℓ hZ hl hB hS hE hN hD
              obtain ⟨_, _, x10, _⟩ := hE
              have e10 := x10 (by kernel_rfl)
              refine plan_free rfl ?_
              refine plan_value ex_move ⟨_, rfl, (GA.put hS (by simp)), trivial, ?_⟩
              exact e10
            · intro a W ℓ hZ hl hB hS hE hN hD
              have k52 : a.tmps.getD 52 undef = .slice (some ⟨b, off, none⟩) n0 c3 := hD 0 52 (by kernel_rfl)
              have k53 : a.tmps.getD 53 undef = .int .i64 (k : Int) := hD 1 53 (by kernel_rfl)
              refine plan_free rfl ?_
              refine plan_value (v := .pointer (some ⟨b, off + k * 4, none⟩)) (w' := W) (by go_simp) ⟨_, rfl, (GA.put hS (by simp)), trivial, rfl⟩
            · intro a W ℓ hZ hl hB hS hE hN hD
              have k54 : a.tmps.getD 54 undef = .pointer (some ⟨b, off + k * 4, none⟩) := hD 2 54 (by kernel_rfl)
              refine plan_free rfl ?_
              refine plan_value (ex_loadS k54 (RNG.out W hS.base.rs.bel)) ⟨_, rfl, (GA.put hS (by simp)), trivial, rfl⟩
            · intro a W ℓ hZ hl hB hS hE hN hD
              obtain ⟨_, x9, _, _⟩ := hE
              have e9 := x9 (by kernel_rfl)
              refine plan_free rfl ?_
              have k9 := e9
              refine plan_value (ex_loadR k9 (hS.base.rs.nth 3 rfl)) ⟨_, rfl, (GA.put hS (by simp)), trivial, rfl⟩
            · intro a W ℓ hZ hl hB hS hE hN hD
              have k55 : a.tmps.getD 55 undef = .agg (stepA s) := hD 3 55 (by kernel_rfl)
              have k56 : a.tmps.getD 56 undef = .agg (rgtA L) := hD 4 56 (by kernel_rfl)
              refine plan_free rfl ?_
              refine plan_call (f := 45) (args := #[a.tmps.getD 55 undef, a.tmps.getD 56 undef]) (by kernel_rfl) ?_
              rw [k55, k56]
              refine (DOES.out W).mono ?_
              rintro e W2 ⟨rfl, hb⟩
              exact ⟨_, rfl, _, rfl, (GA.put (GA.next hS hb) (by simp)), trivial, rfl⟩
            · intro a W ℓ hZ hl hB hS hE hN hD
              have k57 : a.tmps.getD 57 undef = .tuple #[.agg (rgtA A), .int .i64 er] := hD 5 57 (by kernel_rfl)
              refine plan_free rfl ?_
              refine plan_value ex_move ⟨_, rfl, (GA.put hS (by simp)), trivial, ?_⟩
              exact k57
            · intro a W ℓ hZ hl hB hS hE hN hD
              have k51 : a.tmps.getD 51 undef = .tuple #[.agg (rgtA A), .int .i64 er] := hD 6 51 (by kernel_rfl)
              refine plan_free rfl ?_
              refine plan_value (v := .agg (rgtA A)) (w' := W) (by go_simp) ⟨_, rfl, (GA.put hS (by simp)), trivial, rfl⟩
            · intro a W ℓ hZ hl hB hS hE hN hD
              have k51 : a.tmps.getD 51 undef = .tuple #[.agg (rgtA A), .int .i64 er] := hD 6 51 (by kernel_rfl)
              refine plan_free rfl ?_
              refine plan_value (v := .int .i64 er) (w' := W) (by go_simp) ⟨_, rfl, (GA.put hS (by simp)), trivial, rfl⟩
            · intro a W ℓ hZ hl hB hS hE hN hD
              refine plan_free rfl ?_
              have h0 : GA w wr.heap.size [(w.heap.size, L0), (w.heap.size + 1, L1), (w.heap.size + 2, L2), (w3.heap.size, L)] 11 A (ℓ 9) false a.tmps W := by
                have h := hS
                simp only [hB 10 (by kernel_rfl)] at h
                exact h
              refine plan_value ex_allocR ⟨_, rfl, ?_, trivial, trivial⟩
              show GA w wr.heap.size [(w.heap.size, L0), (w.heap.size + 1, L1), (w.heap.size + 2, L2), (w3.heap.size, L)] 11 A true (ℓ 10) _ _
              rw [hB 10 (by kernel_rfl)]
              exact GA.alloc h0 (by rw [hZ]; omega)
            · intro a W ℓ hZ hl hB hS hE hN hD
              have k58 : a.tmps.getD 58 undef = .agg (rgtA A) := hD 7 58 (by kernel_rfl)
              refine plan_free rfl ?_
              have h0 : GA w wr.heap.size [(w.heap.size, L0), (w.heap.size + 1, L1), (w.heap.size + 2, L2), (w3.heap.size, L)] 11 A true false a.tmps W := by
                have h := hS
                simp only [hl, hN 9 11 (by kernel_rfl)] at h
                exact h
              obtain ⟨g, hg, _⟩ := h0.new rfl
              obtain ⟨r1, r2⟩ := GA.store h0 hg HA.out
              refine plan_unit (ex_storeR hg k58 HA.out r1) ⟨_, rfl, ?_, trivial, trivial⟩
              show GA w wr.heap.size [(w.heap.size, L0), (w.heap.size + 1, L1), (w.heap.size + 2, L2), (w3.heap.size, L)] 11 A (ℓ 9) true _ _
              rw [hN 9 11 (by kernel_rfl)]
              exact r2
            · intro a W ℓ hZ hl hB hS hE hN hD
              have k59 : a.tmps.getD 59 undef = .int .i64 er := hD 8 59 (by kernel_rfl)
              refine plan_free rfl ?_
              refine plan_value ex_assign ⟨_, rfl, (GA.put hS (by simp)), trivial, ?_⟩
              exact k59
          · intro f w6 ℓ hl V6 hE
            obtain ⟨gn, hgn, hg0, hgA⟩ := V6.new (hl 9 (by simp))
            have f11 : f 11 = .pointer (some ⟨gn, 0, none⟩) := (setAll_at f 11 _ _ (by simp) (by simp)).symm.trans hgn
            have hgB : RB w6 gn A := by
              have h := hgA
              simp only [hl 10 (by simp), cond_true] at h
              exact h
            have f12 : f 12 = .int .i64 er := Ends.get hE 11 _ rfl 12 rfl
            clear hE
            simp only [setAll, List.setIfInBounds_toArray, List.set_cons_zero, List.set_cons_succ]
            rw [f12]; clear f12
            rw [f11]; clear f11 hgn hgA
            have V6' := Lib.hid V6.base.rs
            have HGN := Lib.hid hgB
            clear V V6 hgB hl
            by_cases he : er = 0
            · subst he
              obtain ⟨_, g1, _⟩ := does_goes HL.out HE.out
              have KEEP := Lib.hid (join_keep HL.out W0.out HA.out HJ.out g1.up)
              have WFA := Lib.hid (wf_may HA.out (amt_may g1.may))
              have l1 := run_loadR HGN.out
              have s1 := run_storeR HA.out (V6'.out.nth 3 rfl).blk (by rw [rgtA_size, HL.out])
              have V7 : Hid (Rs w (w6.setRow w3.heap.size (rgtA A)) [(w.heap.size, L0), (w.heap.size + 1, L1), (w.heap.size + 2, L2), (w3.heap.size, A)]) := Rs.row (l := [(w.heap.size, L0), (w.heap.size + 1, L1), (w.heap.size + 2, L2)]) V6'.out (by
                intro p hp
                have := HS3.out
                simp only [List.mem_cons, List.not_mem_nil, or_false] at hp
                rcases hp with rfl | rfl | rfl
                · show w.heap.size ≠ _; omega
                · show w.heap.size + 1 ≠ _; omega
                · show w.heap.size + 2 ≠ _; omega) HA.out (by have := HS3.out; omega)
              clear g1
              go_wp2_with fail
              go_roundw
              case rel => exact ⟨k + 1, A, by omega, by go_num, V7.out, KEEP.out, WFA.out⟩
              case measure => simp [intOf]; omega
            · have heb : (er == 0) = false := by simpa using he
              clear he
              go_wp2_with fail
              go_roundw
              case rel => exact ⟨k + 1, L, by omega, by go_num, V6'.out, HJ.out, HF.out⟩
              case measure => simp [intOf]; omega
        · have hge : ¬ ((k : Int) < (n0 : Int)) := by omega
          have qL : ∀ W, (Op.equalIn 10000 66 (.agg (rgtA L)) (.agg (rgtA L))).run Try.prog W = .ok true W := rgt_same HL.out HF.out rfl
          have CL := Lib.hid (joinR_any L L0 HL.out W0.out)
          rw [HJ.out] at CL
          clear hs3
          go_wp2_with fail
          refine wp_region_plan (fun W => Rs w W [(w.heap.size, L0), (w.heap.size + 1, L1), (w.heap.size + 2, L2), (w3.heap.size, L)]) Grows [IsV (.agg (rgtA L)), IsV (.agg (rgtA L0)), IsV (.agg (rgtA L)), IsV (.agg (rgtA L)), IsV (.bool true), IsV (.bool true), IsV (.bool true), IsV (.bool true), IsV (.bool true)] ([(4, .pointer (some ⟨w.heap.size, 0, none⟩)), (9, .pointer (some ⟨w3.heap.size, 0, none⟩))] : List (Nat × Value)) (⟨rfl, rfl, trivial⟩) (n := 71) (by kernel_rfl) rfl (by kernel_rfl) V.drew Grows.refl (StabAll.get ?_) ?_ ?_
          · repeat (first | exact trivial | refine ⟨stab_c _, ?_⟩ | refine ⟨stab_two _ _, ?_⟩ | refine ⟨fun _ _ _ _ _ _ _ => trivial, ?_⟩)
          · refine ⟨?_, ⟨?_, ⟨?_, ⟨?_, ⟨?_, ⟨?_, ⟨?_, ⟨?_, ⟨?_, trivial⟩⟩⟩⟩⟩⟩⟩⟩⟩
            · intro a W hS hE hD
              obtain ⟨_, x9, _⟩ := hE
              have e9 := x9 (by kernel_rfl)
              refine plan_free rfl ?_
              have k9 := e9
              refine plan_value (ex_loadR k9 (hS.nth 3 rfl)) ⟨_, rfl, hS, Grows.refl _, rfl⟩
            · intro a W hS hE hD
              obtain ⟨x4, _, _⟩ := hE
              have e4 := x4 (by kernel_rfl)
              refine plan_free rfl ?_
              have k4 := e4
              refine plan_value (ex_loadR k4 (hS.nth 0 rfl)) ⟨_, rfl, hS, Grows.refl _, rfl⟩
            · intro a W hS hE hD
              have k63 : a.tmps.getD 63 undef = .agg (rgtA L) := hD 0 63 (by kernel_rfl)
              have k64 : a.tmps.getD 64 undef = .agg (rgtA L0) := hD 1 64 (by kernel_rfl)
              refine plan_free rfl ?_
              refine plan_call (f := 46) (args := #[a.tmps.getD 63 undef, a.tmps.getD 64 undef]) (by kernel_rfl) ?_
              rw [k63, k64]
              refine (CL.out W).mono ?_
              rintro e W2 ⟨rfl, hb⟩
              refine ⟨_, rfl, _, rfl, hS.next hb, hb, ?_⟩
              exact rfl
            · intro a W hS hE hD
              obtain ⟨_, x9, _⟩ := hE
              have e9 := x9 (by kernel_rfl)
              refine plan_free rfl ?_
              have k9 := e9
              refine plan_value (ex_loadR k9 (hS.nth 3 rfl)) ⟨_, rfl, hS, Grows.refl _, rfl⟩
            · intro a W hS hE hD
              have k65 : a.tmps.getD 65 undef = .agg (rgtA L) := hD 2 65 (by kernel_rfl)
              have k66 : a.tmps.getD 66 undef = .agg (rgtA L) := hD 3 66 (by kernel_rfl)
              refine plan_free rfl ?_
              refine plan_value (v := .bool true) (w' := W) (by go_simp) ⟨_, rfl, hS, Grows.refl _, rfl⟩
            · intro a W hS hE hD
              have k67 : a.tmps.getD 67 undef = .bool true := hD 4 67 (by kernel_rfl)
              refine plan_free rfl ?_
              refine plan_value ex_move ⟨_, rfl, hS, Grows.refl _, ?_⟩
              exact k67
            · intro a W hS hE hD
              have k68 : a.tmps.getD 68 undef = .bool true := hD 5 68 (by kernel_rfl)
              refine plan_want rfl (by kernel_rfl) k68 ?_
              refine plan_call (f := 44) (args := #[]) (by kernel_rfl) ?_
              refine (rgworks_any W).mono ?_
              rintro e W2 ⟨rfl, hb⟩
              refine ⟨_, rfl, _, rfl, hS.next hb, hb, ?_⟩
              exact rfl
            · intro a W hS hE hD
              have k68 : a.tmps.getD 68 undef = .bool true := hD 5 68 (by kernel_rfl)
              have k69 : a.tmps.getD 69 undef = .bool true := hD 6 69 (by kernel_rfl)
              refine plan_free rfl ?_
              refine plan_value (v := .bool true) (w' := W) (by go_simp) ⟨_, rfl, hS, Grows.refl _, rfl⟩
            · intro a W hS hE hD
              have k70 : a.tmps.getD 70 undef = .bool true := hD 7 70 (by kernel_rfl)
              refine plan_free rfl ?_
              refine plan_value ex_assign ⟨_, rfl, hS, Grows.refl _, ?_⟩
              exact k70
          · intro f w8 V8 hE
            have f70 : f 70 = .bool true := Ends.get hE 7 _ rfl 70 rfl
            have f8 : f 8 = .bool true := Ends.get hE 8 _ rfl 8 rfl
            clear hE
            simp only [setAll, List.setIfInBounds_toArray, List.set_cons_zero, List.set_cons_succ]
            rw [f70]; clear f70
            rw [f8]; clear f8
            have VF := V8.bel
            clear V8 V
            go_wp2_with fail
            go_ret
            exact ⟨rfl, VF⟩
  rw [← hn0.out]
  exact hzw

set_option maxRecDepth 100000 in
theorem lifted (os : Os) (started : os.Started) (H : Type) (enc : TypeId × Value → H) :
    ReturnsInHanded {} Try.checked os 12 .any (Rows.rightsJoinsSpec.pre6 enc Try.prog Try.f12 Rows.rightsJoinsRow.domain false) (Rows.rightsJoinsSpec.post enc Try.prog Try.f12 false true false false) := by
  refine returnsInHanded_of_change (C := Try.checked) own started (by kernel_rfl) Try.func12
    (ChangeSpec.witness6 (enc := enc) (C := Try.checked) false ⟨#[], #[.agg #[.int .i64 0, .int .i64 0, .int .i64 0, .int .i64 0, .int .i64 0, .int .i64 0, .int .i64 0, .int .i64 0, .int .i64 0, .int .i64 0, .int .i64 0, .int .i64 0, .int .i64 0, .int .i64 0, .int .i64 0, .int .i64 0, .int .i64 0, .int .i64 0, .int .i64 0, .int .i64 0, .int .i64 0, .int .i64 0, .int .i64 0, .int .i64 0, .int .i64 0, .int .i64 0, .int .i64 0, .int .i64 0, .int .i64 0, .int .i64 0, .int .i64 0, .int .i64 0, .int .i64 0, .int .i64 0, .int .i64 0, .int .i64 0, .int .i64 0, .int .i64 0, .int .i64 0, .int .i64 0, .int .i64 0, .int .i64 0, .int .i64 0, .int .i64 0, .int .i64 0, .int .i64 0, .int .i64 0, .int .i64 0, .int .i64 0, .int .i64 0, .int .i64 0, .int .i64 0, .int .i64 0, .int .i64 0], .agg #[.int .i64 0, .int .i64 0, .int .i64 0, .int .i64 0, .int .i64 0, .int .i64 0, .int .i64 0, .int .i64 0, .int .i64 0, .int .i64 0, .int .i64 0, .int .i64 0, .int .i64 0, .int .i64 0, .int .i64 0, .int .i64 0, .int .i64 0, .int .i64 0, .int .i64 0, .int .i64 0, .int .i64 0, .int .i64 0, .int .i64 0, .int .i64 0, .int .i64 0, .int .i64 0, .int .i64 0, .int .i64 0, .int .i64 0, .int .i64 0, .int .i64 0, .int .i64 0, .int .i64 0, .int .i64 0, .int .i64 0, .int .i64 0, .int .i64 0, .int .i64 0, .int .i64 0, .int .i64 0, .int .i64 0, .int .i64 0, .int .i64 0, .int .i64 0, .int .i64 0, .int .i64 0, .int .i64 0, .int .i64 0, .int .i64 0, .int .i64 0, .int .i64 0, .int .i64 0, .int .i64 0, .int .i64 0], .agg #[.int .i64 0, .int .i64 0, .int .i64 0, .int .i64 0, .int .i64 0, .int .i64 0, .int .i64 0, .int .i64 0, .int .i64 0, .int .i64 0, .int .i64 0, .int .i64 0, .int .i64 0, .int .i64 0, .int .i64 0, .int .i64 0, .int .i64 0, .int .i64 0, .int .i64 0, .int .i64 0, .int .i64 0, .int .i64 0, .int .i64 0, .int .i64 0, .int .i64 0, .int .i64 0, .int .i64 0, .int .i64 0, .int .i64 0, .int .i64 0, .int .i64 0, .int .i64 0, .int .i64 0, .int .i64 0, .int .i64 0, .int .i64 0, .int .i64 0, .int .i64 0, .int .i64 0, .int .i64 0, .int .i64 0, .int .i64 0, .int .i64 0, .int .i64 0, .int .i64 0, .int .i64 0, .int .i64 0, .int .i64 0, .int .i64 0, .int .i64 0, .int .i64 0, .int .i64 0, .int .i64 0, .int .i64 0], .slice none 0 0], []⟩ 8 (by kernel_rfl) (by kernel_rfl) (by kernel_rfl) (by kernel_rfl)) ?_
  intro W base args ds gs before hval0 hW hcnd _
  have hval : ∀ (j : Nat) t v, Try.f12.params[j]? = some t → args[j]? = some v → Value.okWide Try.prog W .any base t v := hval0
  have hW' := hW
  obtain ⟨p, q, hA0, hV, rfl, hfz, hnd⟩ := hW
  have hA : DataW.TrodAll enc Try.prog W 0 (fun _ => true) true Try.f12.params.toList args.toList ds p := hA0
  rw [Try.params12] at hA hval
  obtain ⟨v0, vs0, d0, ds0, p0, q0, hargs, rfl, rfl, h0, r0⟩ := trodAll_cons hA
  obtain ⟨v1, vs1, d1, ds1, p1, q1, rfl, rfl, rfl, h1, r1⟩ := trodAll_cons r0
  obtain ⟨v2, vs2, d2, ds2, p2, q2, rfl, rfl, rfl, h2, r2⟩ := trodAll_cons r1
  obtain ⟨v3, vs3, d3, ds3, p3, q3, rfl, rfl, rfl, h3, r3⟩ := trodAll_cons r2
  obtain ⟨rfl, rfl, rfl⟩ := trodAll_nil r3
  obtain rfl : args = #[v0, v1, v2, v3] := by cases args; simp_all
  obtain ⟨rfl, rfl⟩ := trodVars_none hV
  have k0 := h0
  have lt0 : ∀ x ∈ p0, x.block < W.heap.size := by obtain ⟨m, hm⟩ := k0; exact DataW.trod_lt m _ _ _ hm
  obtain ⟨L0, rfl, w0, u0⟩ := open_rights (hval 0 66 v0 rfl rfl) h0
  have k1 := h1
  have lt1 : ∀ x ∈ p1, x.block < W.heap.size := by obtain ⟨m, hm⟩ := k1; exact DataW.trod_lt m _ _ _ hm
  obtain ⟨L1, rfl, w1, u1⟩ := open_rights (hval 1 66 v1 rfl rfl) h1
  have k2 := h2
  have lt2 : ∀ x ∈ p2, x.block < W.heap.size := by obtain ⟨m, hm⟩ := k2; exact DataW.trod_lt m _ _ _ hm
  obtain ⟨L2, rfl, w2, u2⟩ := open_rights (hval 2 66 v2 rfl rfl) h2
  obtain ⟨A3, n3, c3, rfl⟩ := okWide_slice Try.underlying62 (hval 3 62 v3 rfl rfl)
  have k3 := h3
  have lt3 : ∀ x ∈ p3, x.block < W.heap.size := by obtain ⟨m, hm⟩ := k3; exact DataW.trod_lt m _ _ _ hm
  obtain ⟨g3, m3, l3, rfl, w3, u3⟩ := open_rsteps h3
  clear hA0 hval0
  refine (walk L0 L1 L2 A3 l3 c3 W w0 u0 w1 u1 w2 u2 w3 u3 g3 m3).mono fun e W' ⟨he, bel⟩ => ?_
  subst he
  exact ⟨_, rfl, _, _, _, [], _, [], hW', trodAll_mk1 (shut_bool Try.underlying4 _), (trodAll_cons_mk (Below.trod laidOut (by kernel_rfl) (of_decide_eq_true (by kernel_rfl)) k0 bel lt0) (trodAll_cons_mk (Below.trod laidOut (by kernel_rfl) (of_decide_eq_true (by kernel_rfl)) k1 bel lt1) (trodAll_cons_mk (Below.trod laidOut (by kernel_rfl) (of_decide_eq_true (by kernel_rfl)) k2 bel lt2) (trodAll_cons_mk (Below.trod laidOut (by kernel_rfl) (of_decide_eq_true (by kernel_rfl)) k3 bel lt3) trodAll_mk0)))), rfl, bel.frame _, fun h => by cases h⟩

theorem over : Rows.rightsJoinsRow.holds Try.pinned (OpenSpec.ofChange Rows.rightsJoinsSpec) :=
  OpenClaim.holds_of_wide 12 Try.f12 rfl rfl rfl rfl rfl rfl rfl ⟨rfl, rfl, rfl, rfl, rfl⟩ rfl rfl rfl rfl rfl (by kernel_rfl) Try.func12 (by kernel_rfl)
    (of_decide_eq_true (by kernel_rfl)) (by unfold Func.isWrapper; first | (rw [if_pos (by decide +kernel)]; kernel_rfl) | (rw [if_neg (by decide +kernel)]; exact ⟨rfl, rfl⟩))
    (fun os started H enc _ => lifted os started H enc)

theorem proved : Rows.RightsJoinsSaid := over
#print axioms proved
end Go.Proofs.Ytdliklkfhakmhaa.rightsJoins
