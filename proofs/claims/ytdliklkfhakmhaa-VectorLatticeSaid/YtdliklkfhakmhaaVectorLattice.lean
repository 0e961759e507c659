/-
  For every three vectors: joins and meets take each other up and go through each other, what two lack of each other is what their meet lacks of their join, and of two that may be the one that lacks nothing of the other has it below it; no further conditions.
-/
import Derived.Test.YtdliklkfhakmhaaRows
import Derived.WalkKit
import Derived.ProofKit
import Derived.OpenShut
import Derived.ShutString
import Derived.ChangeOld
import Derived.Below
import Derived.Test.YtdliklkfhakmhaaVecO
import Derived.Test.YtdliklkfhakmhaaVecW
import Derived.Test.YtdliklkfhakmhaaLatMath
import Derived.Test.YtdliklkfhakmhaaPlanV
import Derived.Deep.DeepCutAuto
namespace Go.Proofs.Ytdliklkfhakmhaa.vectorLattice
open Go.ChangeShapes Go.WideShapes Go.ChangeAt Go.RowKit
open Go.ChangeMaps (open_string shut_string)
set_option linter.unusedVariables false

theorem own : ownKnob Try.prog.godebug = none := by kernel_rfl
theorem laidOut : laidOutB Try.prog = true := by kernel_rfl

attribute [local go_sem ↓] exec_loadV exec_storeV exec_buildV Go.wp_at_zero Go.wp_at_succ

set_option maxRecDepth 100000 in
set_option maxHeartbeats 4000000 in
theorem walk (L0 : List Nat) (L1 : List Nat) (L2 : List Nat) (w : World) (w0 : L0.length = 6) (u0 : ∀ x ∈ L0, x ≤ 18446744073709551615) (w1 : L1.length = 6) (u1 : ∀ x ∈ L1, x ≤ 18446744073709551615) (w2 : L2.length = 6) (u2 : ∀ x ∈ L2, x ≤ 18446744073709551615) :
    Calls Try.prog 7 #[.agg (vecA L0), .agg (vecA L1), .agg (vecA L2)] w fun e w' => e = .returned (.bool true) ∧ Below w.heap.size w w' := by
  have W0 := Lib.hid w0
  have W1 := Lib.hid w1
  have W2 := Lib.hid w2
  obtain ⟨J, eJ⟩ : ∃ J, Hid (joinV [L0, L1] = J) := ⟨_, Lib.hid rfl⟩
  obtain ⟨M, eM⟩ : ∃ M, Hid (meetV [L0, L1] = M) := ⟨_, Lib.hid rfl⟩
  have HJ : Hid (J.length = 6) := by show _ = _; rw [← eJ.out]; exact jlen w0 w1
  have HM : Hid (M.length = 6) := by show _ = _; rw [← eM.out]; exact mlen w0 w1
  obtain ⟨P, eP⟩ : ∃ P, Hid (joinV [L1, L2] = P) := ⟨_, Lib.hid rfl⟩
  obtain ⟨Q, eQ⟩ : ∃ Q, Hid (meetV [L0, L2] = Q) := ⟨_, Lib.hid rfl⟩
  have HP : Hid (P.length = 6) := by show _ = _; rw [← eP.out]; exact jlen w1 w2
  have HQ : Hid (Q.length = 6) := by show _ = _; rw [← eQ.out]; exact mlen w0 w2
  obtain ⟨R, eR⟩ : ∃ R, Hid (meetV [L0, P] = R) := ⟨_, Lib.hid rfl⟩
  have HR : Hid (R.length = 6) := by show _ = _; rw [← eR.out]; exact mlen w0 HP.out
  obtain ⟨S, eS⟩ : ∃ S, Hid (meetV [L1, L2] = S) := ⟨_, Lib.hid rfl⟩
  obtain ⟨T, eT⟩ : ∃ T, Hid (joinV [L0, L2] = T) := ⟨_, Lib.hid rfl⟩
  have HS : Hid (S.length = 6) := by show _ = _; rw [← eS.out]; exact mlen w1 w2
  have HT : Hid (T.length = 6) := by show _ = _; rw [← eT.out]; exact jlen w0 w2
  obtain ⟨U, eU⟩ : ∃ U, Hid (joinV [L0, S] = U) := ⟨_, Lib.hid rfl⟩
  have HU : Hid (U.length = 6) := by show _ = _; rw [← eU.out]; exact jlen w0 HS.out
  have k1 : Hid (meetV [L0, J] = L0) := by show _ = _; rw [← eJ.out]; exact lat1 w0 w1
  have k2 : Hid (joinV [L0, M] = L0) := by show _ = _; rw [← eM.out]; exact lat2 w0 w1
  have k3 : Hid (joinV [L1, L0] = J) := by show _ = _; rw [← eJ.out]; exact lat3 w0 w1
  have k4 : Hid (meetV [L1, L0] = M) := by show _ = _; rw [← eM.out]; exact lat4 w0 w1
  have k5 : Hid (joinV [M, Q] = R) := by show _ = _; rw [← eR.out, ← eM.out, ← eQ.out, ← eP.out]; exact (lat5 w0 w1 w2).symm
  have k6 : Hid (meetV [J, T] = U) := by show _ = _; rw [← eU.out, ← eJ.out, ← eT.out, ← eS.out]; exact (lat6 w0 w1 w2).symm
  have q1 : ∀ W, (Op.equalIn 10000 24 (.agg (vecA L0)) (.agg (vecA L0))).run Try.prog W = .ok true W := vec_same w0 rfl
  have q2 : ∀ W, (Op.equalIn 10000 24 (.agg (vecA J)) (.agg (vecA J))).run Try.prog W = .ok true W := vec_same HJ.out rfl
  have q3 : ∀ W, (Op.equalIn 10000 24 (.agg (vecA M)) (.agg (vecA M))).run Try.prog W = .ok true W := vec_same HM.out rfl
  have q4 : ∀ W, (Op.equalIn 10000 24 (.agg (vecA R)) (.agg (vecA R))).run Try.prog W = .ok true W := vec_same HR.out rfl
  have q5 : ∀ W, (Op.equalIn 10000 24 (.agg (vecA U)) (.agg (vecA U))).run Try.prog W = .ok true W := vec_same HU.out rfl
  obtain ⟨t, et⟩ : ∃ t, Hid (lessV L0 L1 = t) := ⟨_, Lib.hid rfl⟩
  have q6 : ∀ W, (Op.equalIn 10000 24 (.agg (vecA J)) (.agg (vecA L1))).run Try.prog W = .ok t W := by
    intro W; rw [vec_equal HJ.out w1, ← eJ.out, lat_less1 w0 w1, et.out]
  have q7 : ∀ W, (Op.equalIn 10000 24 (.agg (vecA M)) (.agg (vecA L0))).run Try.prog W = .ok t W := by
    intro W; rw [vec_equal HM.out w0, ← eM.out, lat_less2 w0 w1, et.out]
  obtain ⟨x, ex⟩ : ∃ x, Hid (lackV L0 L1 = x) := ⟨_, Lib.hid rfl⟩
  obtain ⟨y, ey⟩ : ∃ y, Hid (lackV L1 L0 = y) := ⟨_, Lib.hid rfl⟩
  obtain ⟨z, ez⟩ : ∃ z, Hid (lackV M J = z) := ⟨_, Lib.hid rfl⟩
  have hsum : IntKind.u64.wrap ((x : Int) + (y : Int)) = (z : Int) := by
    have h := lat_lackV w0 w1
    rw [eM.out, eJ.out, ex.out, ey.out, ez.out] at h
    rw [IntKind.wrap_u64]; omega
  have hmay : Hid (mayV L0 = true → mayV L1 = true → decide (y = 0) = t) := by
    show _ → _ → _
    intro h1 h2
    rw [← ey.out, ← et.out]; exact lat_may w0 w1 h1 h2
  have U0 := Lib.hid u0
  have U1 := Lib.hid u1
  have UJ : Hid (∀ v ∈ J, v ≤ 18446744073709551615) := by
    show ∀ v ∈ J, _
    rw [← eJ.out]; exact join_bd w0 w1 u0 u1
  clear w0 w1 w2 u0 u1 u2
  obtain ⟨X, hX⟩ : ∃ X : Int, Hid ((x : Int) = X) := ⟨_, Lib.hid rfl⟩
  obtain ⟨Y, hY⟩ : ∃ Y : Int, Hid ((y : Int) = Y) := ⟨_, Lib.hid rfl⟩
  obtain ⟨Z, hZ⟩ : ∃ Z : Int, Hid ((z : Int) = Z) := ⟨_, Lib.hid rfl⟩
  rw [hX.out, hY.out, hZ.out] at hsum
  have V0 := (((Vs.nil w).new L0 _ rfl).new L1 _ rfl).new L2 _ rfl
  rw [show (w.alloc (.cells (vecA L0) 24)).heap.size = w.heap.size + 1 by simp, show ((w.alloc (.cells (vecA L0) 24)).alloc (.cells (vecA L1) 24)).heap.size = w.heap.size + 1 + 1 by simp] at V0
  have V1 : Vs w (((w.alloc (.cells (vecA L0) 24)).alloc (.cells (vecA L1) 24)).alloc (.cells (vecA L2) 24)) [(w.heap.size, L0), (w.heap.size + 1, L1), (w.heap.size + 1 + 1, L2)] := V0
  clear V0
  have r0 := Vs.load (w := w) (l := [(w.heap.size, L0), (w.heap.size + 1, L1), (w.heap.size + 1 + 1, L2)]) 0 rfl W0.out
  have r1 := Vs.load (w := w) (l := [(w.heap.size, L0), (w.heap.size + 1, L1), (w.heap.size + 1 + 1, L2)]) 1 rfl W1.out
  have r2 := Vs.load (w := w) (l := [(w.heap.size, L0), (w.heap.size + 1, L1), (w.heap.size + 1 + 1, L2)]) 2 rfl W2.out
  have bdL0L1 : ∀ W : World, (buildV 2 #[(0, .agg (vecA L0)), (1, .agg (vecA L1))]).run Try.prog W = _ := fun W => run_buildV (W := W) W0.out W1.out
  have bdL0J : ∀ W : World, (buildV 2 #[(0, .agg (vecA L0)), (1, .agg (vecA J))]).run Try.prog W = _ := fun W => run_buildV (W := W) W0.out HJ.out
  have bdL0M : ∀ W : World, (buildV 2 #[(0, .agg (vecA L0)), (1, .agg (vecA M))]).run Try.prog W = _ := fun W => run_buildV (W := W) W0.out HM.out
  have bdL1L0 : ∀ W : World, (buildV 2 #[(0, .agg (vecA L1)), (1, .agg (vecA L0))]).run Try.prog W = _ := fun W => run_buildV (W := W) W1.out W0.out
  have bdL1L2 : ∀ W : World, (buildV 2 #[(0, .agg (vecA L1)), (1, .agg (vecA L2))]).run Try.prog W = _ := fun W => run_buildV (W := W) W1.out W2.out
  have bdL0P : ∀ W : World, (buildV 2 #[(0, .agg (vecA L0)), (1, .agg (vecA P))]).run Try.prog W = _ := fun W => run_buildV (W := W) W0.out HP.out
  have bdL0L2 : ∀ W : World, (buildV 2 #[(0, .agg (vecA L0)), (1, .agg (vecA L2))]).run Try.prog W = _ := fun W => run_buildV (W := W) W0.out W2.out
  have bdMQ : ∀ W : World, (buildV 2 #[(0, .agg (vecA M)), (1, .agg (vecA Q))]).run Try.prog W = _ := fun W => run_buildV (W := W) HM.out HQ.out
  have bdL0S : ∀ W : World, (buildV 2 #[(0, .agg (vecA L0)), (1, .agg (vecA S))]).run Try.prog W = _ := fun W => run_buildV (W := W) W0.out HS.out
  have bdJT : ∀ W : World, (buildV 2 #[(0, .agg (vecA J)), (1, .agg (vecA T))]).run Try.prog W = _ := fun W => run_buildV (W := W) HJ.out HT.out
  have sJ : ∀ W : World, (storeV (.pointer (some ⟨W.heap.size, 0, none⟩)) (.agg (vecA J))).run Try.prog (W.alloc (.cells #[.int .u64 0, .int .u64 0, .int .u64 0, .int .u64 0, .int .u64 0, .int .u64 0] 24)) = .ok () (W.alloc (.cells (vecA J) 24)) := fun W => run_storeV_new HJ.out
  have sM : ∀ W : World, (storeV (.pointer (some ⟨W.heap.size, 0, none⟩)) (.agg (vecA M))).run Try.prog (W.alloc (.cells #[.int .u64 0, .int .u64 0, .int .u64 0, .int .u64 0, .int .u64 0, .int .u64 0] 24)) = .ok () (W.alloc (.cells (vecA M) 24)) := fun W => run_storeV_new HM.out
  go_enter Try.func7, Try.ntmps7
  go_wp2_with fail
  (with_reducible refine (join_new L0 L1 W0.out W1.out _ _ (by first | rfl | simp)).mono ?_)
  rintro e w2 ⟨rfl, hb⟩
  rw [eJ.out]
  have V2 := (V1.alloc _).next hb
  clear hb V1
  have V3 : Vs w (w2.alloc (.cells (vecA J) 24)) [(w.heap.size, L0), (w.heap.size + 1, L1), (w.heap.size + 1 + 1, L2), (w2.heap.size, J)] := V2.new J _ rfl
  clear V2 r0 r1 r2
  have r0 := Vs.load (w := w) (l := [(w.heap.size, L0), (w.heap.size + 1, L1), (w.heap.size + 1 + 1, L2), (w2.heap.size, J)]) 0 rfl W0.out
  have r1 := Vs.load (w := w) (l := [(w.heap.size, L0), (w.heap.size + 1, L1), (w.heap.size + 1 + 1, L2), (w2.heap.size, J)]) 1 rfl W1.out
  go_wp2_with fail
  (with_reducible refine (meet_new L0 L1 W0.out W1.out _ _ (by first | rfl | simp)).mono ?_)
  rintro e w4 ⟨rfl, hb⟩
  rw [eM.out]
  have V4 := (V3.alloc _).next hb
  clear hb V3
  have V5 : Vs w (w4.alloc (.cells (vecA M) 24)) [(w.heap.size, L0), (w.heap.size + 1, L1), (w.heap.size + 1 + 1, L2), (w2.heap.size, J), (w4.heap.size, M)] := V4.new M _ rfl
  clear V4 r0 r1
  obtain ⟨l, hl⟩ : ∃ l, Hid (l = [(w.heap.size, L0), (w.heap.size + 1, L1), (w.heap.size + 1 + 1, L2), (w2.heap.size, J), (w4.heap.size, M)]) := ⟨_, Lib.hid rfl⟩
  have r0 := Vs.load (w := w) (l := l) 0 (by rw [hl.out]; rfl) W0.out
  have r1 := Vs.load (w := w) (l := l) 1 (by rw [hl.out]; rfl) W1.out
  have r2 := Vs.load (w := w) (l := l) 2 (by rw [hl.out]; rfl) W2.out
  have r3 := Vs.load (w := w) (l := l) 3 (by rw [hl.out]; rfl) HJ.out
  have r4 := Vs.load (w := w) (l := l) 4 (by rw [hl.out]; rfl) HM.out
  rw [← hl.out] at V5
  go_wp2_with fail
  clear sJ sM
  rw [hl.out] at V5
  clear hl r0 r1 r2 r3 r4
  go_upto_region 3 with fail
  refine wp_region_plan (fun W => Vs w W [(w.heap.size, L0), (w.heap.size + 1, L1), (w.heap.size + 1 + 1, L2), (w2.heap.size, J), (w4.heap.size, M)]) Grows [IsV (.agg (vecA L0)), IsV (.agg (vecA J)), TwoV L0 J, IsV (.agg (vecA L0)), IsV (.agg (vecA L0)), IsV (.bool false), IsV (.bool false), IsV (.agg (vecA L0)), IsV (.agg (vecA M)), TwoV L0 M, IsV (.agg (vecA L0)), IsV (.agg (vecA L0)), IsV (.bool false), IsV (.bool false), IsV (.bool false), IsV (.agg (vecA J)), IsV (.agg (vecA L1)), IsV (.agg (vecA L0)), TwoV L1 L0, IsV (.agg (vecA J)), IsV (.bool false), IsV (.bool false), IsV (.bool false), IsV (.agg (vecA M)), IsV (.agg (vecA L1)), IsV (.agg (vecA L0)), TwoV L1 L0, IsV (.agg (vecA M)), IsV (.bool false), IsV (.bool false)] ([(3, .pointer (some ⟨w.heap.size, 0, none⟩)), (4, .pointer (some ⟨w.heap.size + 1, 0, none⟩)), (5, .pointer (some ⟨w.heap.size + 1 + 1, 0, none⟩)), (7, .pointer (some ⟨w2.heap.size, 0, none⟩)), (8, .pointer (some ⟨w4.heap.size, 0, none⟩))] : List (Nat × Value)) (⟨rfl, rfl, rfl, rfl, rfl, trivial⟩) (by kernel_rfl) (n := 125) (by kernel_rfl) rfl (by kernel_rfl) (Vs.drew V5) Grows.refl (StabAll.get ?_) ?_ ?_
  · repeat (first | exact trivial | refine ⟨stab_c _, ?_⟩ | refine ⟨stab_two _ _, ?_⟩ | refine ⟨fun _ _ _ _ _ _ _ => trivial, ?_⟩)
  · refine ⟨?_, ⟨?_, ⟨?_, ⟨?_, ⟨?_, ⟨?_, ⟨?_, ⟨?_, ⟨?_, ⟨?_, ⟨?_, ⟨?_, ⟨?_, ⟨?_, ⟨?_, ⟨?_, ⟨?_, ⟨?_, ⟨?_, ⟨?_, ⟨?_, ⟨?_, ⟨?_, ⟨?_, ⟨?_, ⟨?_, ⟨?_, ⟨?_, ⟨?_, ⟨?_, trivial⟩⟩⟩⟩⟩⟩⟩⟩⟩⟩⟩⟩⟩⟩⟩⟩⟩⟩⟩⟩⟩⟩⟩⟩⟩⟩⟩⟩⟩⟩
    · intro a W hS hE hD
      obtain ⟨e3, e4, e5, e7, e8, _⟩ := hE
      refine plan_free rfl ?_
      refine plan_value (ex_load e3 W0.out (hS.nth 0 rfl)) ⟨_, rfl, hS, Grows.refl _, rfl⟩
    · intro a W hS hE hD
      obtain ⟨e3, e4, e5, e7, e8, _⟩ := hE
      refine plan_free rfl ?_
      refine plan_value (ex_load e7 HJ.out (hS.nth 3 rfl)) ⟨_, rfl, hS, Grows.refl _, rfl⟩
    · intro a W hS hE hD
      obtain ⟨e3, e4, e5, e7, e8, _⟩ := hE
      have k17 : a.tmps.getD 17 undef = .agg (vecA L0) := hD 0 17 (by kernel_rfl)
      have k18 : a.tmps.getD 18 undef = .agg (vecA J) := hD 1 18 (by kernel_rfl)
      refine plan_free rfl ?_
      refine plan_value (ex_build k17 k18 W0.out HJ.out) ⟨_, rfl, hS.alloc _, Grows.alloc _ _, ⟨_, rfl, Blk.new _ _ _⟩⟩
    · intro a W hS hE hD
      obtain ⟨e3, e4, e5, e7, e8, _⟩ := hE
      obtain ⟨g19, k19, b19⟩ : TwoV L0 J (a.tmps.getD 19 undef) W := hD 2 19 (by kernel_rfl)
      refine plan_free rfl ?_
      refine plan_call (f := 30) (args := #[a.tmps.getD 19 undef]) (by kernel_rfl) ?_
      rw [k19]
      refine (meet_two L0 J W0.out HJ.out g19 2 W b19).mono ?_
      rintro e W2 ⟨rfl, hb⟩
      refine ⟨_, rfl, _, rfl, hS.next hb, hb, ?_⟩
      show _ = _
      rw [k1.out]
    · intro a W hS hE hD
      obtain ⟨e3, e4, e5, e7, e8, _⟩ := hE
      refine plan_free rfl ?_
      refine plan_value (ex_load e3 W0.out (hS.nth 0 rfl)) ⟨_, rfl, hS, Grows.refl _, rfl⟩
    · intro a W hS hE hD
      obtain ⟨e3, e4, e5, e7, e8, _⟩ := hE
      have k20 : a.tmps.getD 20 undef = .agg (vecA L0) := hD 3 20 (by kernel_rfl)
      have k21 : a.tmps.getD 21 undef = .agg (vecA L0) := hD 4 21 (by kernel_rfl)
      refine plan_free rfl ?_
      refine plan_value (v := .bool false) (w' := W) (by go_simp) ⟨_, rfl, hS, Grows.refl _, rfl⟩
    · intro a W hS hE hD
      obtain ⟨e3, e4, e5, e7, e8, _⟩ := hE
      have k22 : a.tmps.getD 22 undef = .bool false := hD 5 22 (by kernel_rfl)
      refine plan_free rfl ?_
      refine plan_value ex_move ⟨_, rfl, hS, Grows.refl _, ?_⟩
      exact k22
    · intro a W hS hE hD
      obtain ⟨e3, e4, e5, e7, e8, _⟩ := hE
      have k23 : a.tmps.getD 23 undef = .bool false := hD 6 23 (by kernel_rfl)
      refine plan_want rfl (by kernel_rfl) k23 ?_
      refine plan_value (ex_load e3 W0.out (hS.nth 0 rfl)) ⟨_, rfl, hS, Grows.refl _, rfl⟩
    · intro a W hS hE hD
      obtain ⟨e3, e4, e5, e7, e8, _⟩ := hE
      have k23 : a.tmps.getD 23 undef = .bool false := hD 6 23 (by kernel_rfl)
      refine plan_want rfl (by kernel_rfl) k23 ?_
      refine plan_value (ex_load e8 HM.out (hS.nth 4 rfl)) ⟨_, rfl, hS, Grows.refl _, rfl⟩
    · intro a W hS hE hD
      obtain ⟨e3, e4, e5, e7, e8, _⟩ := hE
      have k23 : a.tmps.getD 23 undef = .bool false := hD 6 23 (by kernel_rfl)
      have k24 : a.tmps.getD 24 undef = .agg (vecA L0) := hD 7 24 (by kernel_rfl)
      have k25 : a.tmps.getD 25 undef = .agg (vecA M) := hD 8 25 (by kernel_rfl)
      refine plan_want rfl (by kernel_rfl) k23 ?_
      refine plan_value (ex_build k24 k25 W0.out HM.out) ⟨_, rfl, hS.alloc _, Grows.alloc _ _, ⟨_, rfl, Blk.new _ _ _⟩⟩
    · intro a W hS hE hD
      obtain ⟨e3, e4, e5, e7, e8, _⟩ := hE
      have k23 : a.tmps.getD 23 undef = .bool false := hD 6 23 (by kernel_rfl)
      obtain ⟨g26, k26, b26⟩ : TwoV L0 M (a.tmps.getD 26 undef) W := hD 9 26 (by kernel_rfl)
      refine plan_want rfl (by kernel_rfl) k23 ?_
      refine plan_call (f := 28) (args := #[a.tmps.getD 26 undef]) (by kernel_rfl) ?_
      rw [k26]
      refine (join_two L0 M W0.out HM.out g26 2 W b26).mono ?_
      rintro e W2 ⟨rfl, hb⟩
      refine ⟨_, rfl, _, rfl, hS.next hb, hb, ?_⟩
      show _ = _
      rw [k2.out]
    · intro a W hS hE hD
      obtain ⟨e3, e4, e5, e7, e8, _⟩ := hE
      have k23 : a.tmps.getD 23 undef = .bool false := hD 6 23 (by kernel_rfl)
      refine plan_want rfl (by kernel_rfl) k23 ?_
      refine plan_value (ex_load e3 W0.out (hS.nth 0 rfl)) ⟨_, rfl, hS, Grows.refl _, rfl⟩
    · intro a W hS hE hD
      obtain ⟨e3, e4, e5, e7, e8, _⟩ := hE
      have k23 : a.tmps.getD 23 undef = .bool false := hD 6 23 (by kernel_rfl)
      have k27 : a.tmps.getD 27 undef = .agg (vecA L0) := hD 10 27 (by kernel_rfl)
      have k28 : a.tmps.getD 28 undef = .agg (vecA L0) := hD 11 28 (by kernel_rfl)
      refine plan_want rfl (by kernel_rfl) k23 ?_
      refine plan_value (v := .bool false) (w' := W) (by go_simp) ⟨_, rfl, hS, Grows.refl _, rfl⟩
    · intro a W hS hE hD
      obtain ⟨e3, e4, e5, e7, e8, _⟩ := hE
      have k23 : a.tmps.getD 23 undef = .bool false := hD 6 23 (by kernel_rfl)
      have k29 : a.tmps.getD 29 undef = .bool false := hD 12 29 (by kernel_rfl)
      refine plan_free rfl ?_
      refine plan_value (v := .bool false) (w' := W) (by go_simp) ⟨_, rfl, hS, Grows.refl _, rfl⟩
    · intro a W hS hE hD
      obtain ⟨e3, e4, e5, e7, e8, _⟩ := hE
      have k30 : a.tmps.getD 30 undef = .bool false := hD 13 30 (by kernel_rfl)
      refine plan_free rfl ?_
      refine plan_value ex_move ⟨_, rfl, hS, Grows.refl _, ?_⟩
      exact k30
    · intro a W hS hE hD
      obtain ⟨e3, e4, e5, e7, e8, _⟩ := hE
      have k31 : a.tmps.getD 31 undef = .bool false := hD 14 31 (by kernel_rfl)
      refine plan_want rfl (by kernel_rfl) k31 ?_
      refine plan_value (ex_load e7 HJ.out (hS.nth 3 rfl)) ⟨_, rfl, hS, Grows.refl _, rfl⟩
    · intro a W hS hE hD
      obtain ⟨e3, e4, e5, e7, e8, _⟩ := hE
      have k31 : a.tmps.getD 31 undef = .bool false := hD 14 31 (by kernel_rfl)
      refine plan_want rfl (by kernel_rfl) k31 ?_
      refine plan_value (ex_load e4 W1.out (hS.nth 1 rfl)) ⟨_, rfl, hS, Grows.refl _, rfl⟩
    · intro a W hS hE hD
      obtain ⟨e3, e4, e5, e7, e8, _⟩ := hE
      have k31 : a.tmps.getD 31 undef = .bool false := hD 14 31 (by kernel_rfl)
      refine plan_want rfl (by kernel_rfl) k31 ?_
      refine plan_value (ex_load e3 W0.out (hS.nth 0 rfl)) ⟨_, rfl, hS, Grows.refl _, rfl⟩
    · intro a W hS hE hD
      obtain ⟨e3, e4, e5, e7, e8, _⟩ := hE
      have k31 : a.tmps.getD 31 undef = .bool false := hD 14 31 (by kernel_rfl)
      have k33 : a.tmps.getD 33 undef = .agg (vecA L1) := hD 16 33 (by kernel_rfl)
      have k34 : a.tmps.getD 34 undef = .agg (vecA L0) := hD 17 34 (by kernel_rfl)
      refine plan_want rfl (by kernel_rfl) k31 ?_
      refine plan_value (ex_build k33 k34 W1.out W0.out) ⟨_, rfl, hS.alloc _, Grows.alloc _ _, ⟨_, rfl, Blk.new _ _ _⟩⟩
    · intro a W hS hE hD
      obtain ⟨e3, e4, e5, e7, e8, _⟩ := hE
      have k31 : a.tmps.getD 31 undef = .bool false := hD 14 31 (by kernel_rfl)
      obtain ⟨g35, k35, b35⟩ : TwoV L1 L0 (a.tmps.getD 35 undef) W := hD 18 35 (by kernel_rfl)
      refine plan_want rfl (by kernel_rfl) k31 ?_
      refine plan_call (f := 28) (args := #[a.tmps.getD 35 undef]) (by kernel_rfl) ?_
      rw [k35]
      refine (join_two L1 L0 W1.out W0.out g35 2 W b35).mono ?_
      rintro e W2 ⟨rfl, hb⟩
      refine ⟨_, rfl, _, rfl, hS.next hb, hb, ?_⟩
      show _ = _
      rw [k3.out]
    · intro a W hS hE hD
      obtain ⟨e3, e4, e5, e7, e8, _⟩ := hE
      have k31 : a.tmps.getD 31 undef = .bool false := hD 14 31 (by kernel_rfl)
      have k32 : a.tmps.getD 32 undef = .agg (vecA J) := hD 15 32 (by kernel_rfl)
      have k36 : a.tmps.getD 36 undef = .agg (vecA J) := hD 19 36 (by kernel_rfl)
      refine plan_want rfl (by kernel_rfl) k31 ?_
      refine plan_value (v := .bool false) (w' := W) (by go_simp) ⟨_, rfl, hS, Grows.refl _, rfl⟩
    · intro a W hS hE hD
      obtain ⟨e3, e4, e5, e7, e8, _⟩ := hE
      have k31 : a.tmps.getD 31 undef = .bool false := hD 14 31 (by kernel_rfl)
      have k37 : a.tmps.getD 37 undef = .bool false := hD 20 37 (by kernel_rfl)
      refine plan_free rfl ?_
      refine plan_value (v := .bool false) (w' := W) (by go_simp) ⟨_, rfl, hS, Grows.refl _, rfl⟩
    · intro a W hS hE hD
      obtain ⟨e3, e4, e5, e7, e8, _⟩ := hE
      have k38 : a.tmps.getD 38 undef = .bool false := hD 21 38 (by kernel_rfl)
      refine plan_free rfl ?_
      refine plan_value ex_move ⟨_, rfl, hS, Grows.refl _, ?_⟩
      exact k38
    · intro a W hS hE hD
      obtain ⟨e3, e4, e5, e7, e8, _⟩ := hE
      have k39 : a.tmps.getD 39 undef = .bool false := hD 22 39 (by kernel_rfl)
      refine plan_want rfl (by kernel_rfl) k39 ?_
      refine plan_value (ex_load e8 HM.out (hS.nth 4 rfl)) ⟨_, rfl, hS, Grows.refl _, rfl⟩
    · intro a W hS hE hD
      obtain ⟨e3, e4, e5, e7, e8, _⟩ := hE
      have k39 : a.tmps.getD 39 undef = .bool false := hD 22 39 (by kernel_rfl)
      refine plan_want rfl (by kernel_rfl) k39 ?_
      refine plan_value (ex_load e4 W1.out (hS.nth 1 rfl)) ⟨_, rfl, hS, Grows.refl _, rfl⟩
    · intro a W hS hE hD
      obtain ⟨e3, e4, e5, e7, e8, _⟩ := hE
      have k39 : a.tmps.getD 39 undef = .bool false := hD 22 39 (by kernel_rfl)
      refine plan_want rfl (by kernel_rfl) k39 ?_
      refine plan_value (ex_load e3 W0.out (hS.nth 0 rfl)) ⟨_, rfl, hS, Grows.refl _, rfl⟩
    · intro a W hS hE hD
      obtain ⟨e3, e4, e5, e7, e8, _⟩ := hE
      have k39 : a.tmps.getD 39 undef = .bool false := hD 22 39 (by kernel_rfl)
      have k41 : a.tmps.getD 41 undef = .agg (vecA L1) := hD 24 41 (by kernel_rfl)
      have k42 : a.tmps.getD 42 undef = .agg (vecA L0) := hD 25 42 (by kernel_rfl)
      refine plan_want rfl (by kernel_rfl) k39 ?_
      refine plan_value (ex_build k41 k42 W1.out W0.out) ⟨_, rfl, hS.alloc _, Grows.alloc _ _, ⟨_, rfl, Blk.new _ _ _⟩⟩
    · intro a W hS hE hD
      obtain ⟨e3, e4, e5, e7, e8, _⟩ := hE
      have k39 : a.tmps.getD 39 undef = .bool false := hD 22 39 (by kernel_rfl)
      obtain ⟨g43, k43, b43⟩ : TwoV L1 L0 (a.tmps.getD 43 undef) W := hD 26 43 (by kernel_rfl)
      refine plan_want rfl (by kernel_rfl) k39 ?_
      refine plan_call (f := 30) (args := #[a.tmps.getD 43 undef]) (by kernel_rfl) ?_
      rw [k43]
      refine (meet_two L1 L0 W1.out W0.out g43 2 W b43).mono ?_
      rintro e W2 ⟨rfl, hb⟩
      refine ⟨_, rfl, _, rfl, hS.next hb, hb, ?_⟩
      show _ = _
      rw [k4.out]
    · intro a W hS hE hD
      obtain ⟨e3, e4, e5, e7, e8, _⟩ := hE
      have k39 : a.tmps.getD 39 undef = .bool false := hD 22 39 (by kernel_rfl)
      have k40 : a.tmps.getD 40 undef = .agg (vecA M) := hD 23 40 (by kernel_rfl)
      have k44 : a.tmps.getD 44 undef = .agg (vecA M) := hD 27 44 (by kernel_rfl)
      refine plan_want rfl (by kernel_rfl) k39 ?_
      refine plan_value (v := .bool false) (w' := W) (by go_simp) ⟨_, rfl, hS, Grows.refl _, rfl⟩
    · intro a W hS hE hD
      obtain ⟨e3, e4, e5, e7, e8, _⟩ := hE
      have k39 : a.tmps.getD 39 undef = .bool false := hD 22 39 (by kernel_rfl)
      have k45 : a.tmps.getD 45 undef = .bool false := hD 28 45 (by kernel_rfl)
      refine plan_free rfl ?_
      refine plan_value (v := .bool false) (w' := W) (by go_simp) ⟨_, rfl, hS, Grows.refl _, rfl⟩
  · intro f w6 V6 hE
    have f46 : f 46 = .bool false := Ends.get hE 29 _ rfl 46 rfl
    clear hE
    simp only [setAll, List.setIfInBounds_toArray, List.set_cons_zero, List.set_cons_succ]
    rw [f46]; clear f46
    clear V5
    go_upto_region 5 with fail
    refine wp_region_plan (fun W => Vs w W [(w.heap.size, L0), (w.heap.size + 1, L1), (w.heap.size + 1 + 1, L2), (w2.heap.size, J), (w4.heap.size, M)]) Grows [IsV (.agg (vecA L0)), IsV (.agg (vecA L1)), IsV (.agg (vecA L2)), TwoV L1 L2, IsV (.agg (vecA P)), TwoV L0 P, IsV (.agg (vecA R)), IsV (.agg (vecA M)), IsV (.agg (vecA L0)), IsV (.agg (vecA L2)), TwoV L0 L2, IsV (.agg (vecA Q)), TwoV M Q, IsV (.agg (vecA R)), IsV (.bool false), IsV (.bool false), IsV (.agg (vecA L0)), IsV (.agg (vecA L1)), IsV (.agg (vecA L2)), TwoV L1 L2, IsV (.agg (vecA S)), TwoV L0 S, IsV (.agg (vecA U)), IsV (.agg (vecA J)), IsV (.agg (vecA L0)), IsV (.agg (vecA L2)), TwoV L0 L2, IsV (.agg (vecA T)), TwoV J T, IsV (.agg (vecA U)), IsV (.bool false), IsV (.bool false)] ([(3, .pointer (some ⟨w.heap.size, 0, none⟩)), (4, .pointer (some ⟨w.heap.size + 1, 0, none⟩)), (5, .pointer (some ⟨w.heap.size + 1 + 1, 0, none⟩)), (7, .pointer (some ⟨w2.heap.size, 0, none⟩)), (8, .pointer (some ⟨w4.heap.size, 0, none⟩))] : List (Nat × Value)) (⟨rfl, rfl, rfl, rfl, rfl, trivial⟩) (by kernel_rfl) (n := 125) (by kernel_rfl) rfl (by kernel_rfl) (Vs.drew V6) Grows.refl (StabAll.get ?_) ?_ ?_
    · repeat (first | exact trivial | refine ⟨stab_c _, ?_⟩ | refine ⟨stab_two _ _, ?_⟩ | refine ⟨fun _ _ _ _ _ _ _ => trivial, ?_⟩)
    · refine ⟨?_, ⟨?_, ⟨?_, ⟨?_, ⟨?_, ⟨?_, ⟨?_, ⟨?_, ⟨?_, ⟨?_, ⟨?_, ⟨?_, ⟨?_, ⟨?_, ⟨?_, ⟨?_, ⟨?_, ⟨?_, ⟨?_, ⟨?_, ⟨?_, ⟨?_, ⟨?_, ⟨?_, ⟨?_, ⟨?_, ⟨?_, ⟨?_, ⟨?_, ⟨?_, ⟨?_, ⟨?_, trivial⟩⟩⟩⟩⟩⟩⟩⟩⟩⟩⟩⟩⟩⟩⟩⟩⟩⟩⟩⟩⟩⟩⟩⟩⟩⟩⟩⟩⟩⟩⟩⟩
      · intro a W hS hE hD
        obtain ⟨e3, e4, e5, e7, e8, _⟩ := hE
        refine plan_free rfl ?_
        refine plan_value (ex_load e3 W0.out (hS.nth 0 rfl)) ⟨_, rfl, hS, Grows.refl _, rfl⟩
      · intro a W hS hE hD
        obtain ⟨e3, e4, e5, e7, e8, _⟩ := hE
        refine plan_free rfl ?_
        refine plan_value (ex_load e4 W1.out (hS.nth 1 rfl)) ⟨_, rfl, hS, Grows.refl _, rfl⟩
      · intro a W hS hE hD
        obtain ⟨e3, e4, e5, e7, e8, _⟩ := hE
        refine plan_free rfl ?_
        refine plan_value (ex_load e5 W2.out (hS.nth 2 rfl)) ⟨_, rfl, hS, Grows.refl _, rfl⟩
      · intro a W hS hE hD
        obtain ⟨e3, e4, e5, e7, e8, _⟩ := hE
        have k48 : a.tmps.getD 48 undef = .agg (vecA L1) := hD 1 48 (by kernel_rfl)
        have k49 : a.tmps.getD 49 undef = .agg (vecA L2) := hD 2 49 (by kernel_rfl)
        refine plan_free rfl ?_
        refine plan_value (ex_build k48 k49 W1.out W2.out) ⟨_, rfl, hS.alloc _, Grows.alloc _ _, ⟨_, rfl, Blk.new _ _ _⟩⟩
      · intro a W hS hE hD
        obtain ⟨e3, e4, e5, e7, e8, _⟩ := hE
        obtain ⟨g50, k50, b50⟩ : TwoV L1 L2 (a.tmps.getD 50 undef) W := hD 3 50 (by kernel_rfl)
        refine plan_free rfl ?_
        refine plan_call (f := 28) (args := #[a.tmps.getD 50 undef]) (by kernel_rfl) ?_
        rw [k50]
        refine (join_two L1 L2 W1.out W2.out g50 2 W b50).mono ?_
        rintro e W2 ⟨rfl, hb⟩
        refine ⟨_, rfl, _, rfl, hS.next hb, hb, ?_⟩
        show _ = _
        rw [eP.out]
      · intro a W hS hE hD
        obtain ⟨e3, e4, e5, e7, e8, _⟩ := hE
        have k47 : a.tmps.getD 47 undef = .agg (vecA L0) := hD 0 47 (by kernel_rfl)
        have k51 : a.tmps.getD 51 undef = .agg (vecA P) := hD 4 51 (by kernel_rfl)
        refine plan_free rfl ?_
        refine plan_value (ex_build k47 k51 W0.out HP.out) ⟨_, rfl, hS.alloc _, Grows.alloc _ _, ⟨_, rfl, Blk.new _ _ _⟩⟩
      · intro a W hS hE hD
        obtain ⟨e3, e4, e5, e7, e8, _⟩ := hE
        obtain ⟨g52, k52, b52⟩ : TwoV L0 P (a.tmps.getD 52 undef) W := hD 5 52 (by kernel_rfl)
        refine plan_free rfl ?_
        refine plan_call (f := 30) (args := #[a.tmps.getD 52 undef]) (by kernel_rfl) ?_
        rw [k52]
        refine (meet_two L0 P W0.out HP.out g52 2 W b52).mono ?_
        rintro e W2 ⟨rfl, hb⟩
        refine ⟨_, rfl, _, rfl, hS.next hb, hb, ?_⟩
        show _ = _
        rw [eR.out]
      · intro a W hS hE hD
        obtain ⟨e3, e4, e5, e7, e8, _⟩ := hE
        refine plan_free rfl ?_
        refine plan_value (ex_load e8 HM.out (hS.nth 4 rfl)) ⟨_, rfl, hS, Grows.refl _, rfl⟩
      · intro a W hS hE hD
        obtain ⟨e3, e4, e5, e7, e8, _⟩ := hE
        refine plan_free rfl ?_
        refine plan_value (ex_load e3 W0.out (hS.nth 0 rfl)) ⟨_, rfl, hS, Grows.refl _, rfl⟩
      · intro a W hS hE hD
        obtain ⟨e3, e4, e5, e7, e8, _⟩ := hE
        refine plan_free rfl ?_
        refine plan_value (ex_load e5 W2.out (hS.nth 2 rfl)) ⟨_, rfl, hS, Grows.refl _, rfl⟩
      · intro a W hS hE hD
        obtain ⟨e3, e4, e5, e7, e8, _⟩ := hE
        have k55 : a.tmps.getD 55 undef = .agg (vecA L0) := hD 8 55 (by kernel_rfl)
        have k56 : a.tmps.getD 56 undef = .agg (vecA L2) := hD 9 56 (by kernel_rfl)
        refine plan_free rfl ?_
        refine plan_value (ex_build k55 k56 W0.out W2.out) ⟨_, rfl, hS.alloc _, Grows.alloc _ _, ⟨_, rfl, Blk.new _ _ _⟩⟩
      · intro a W hS hE hD
        obtain ⟨e3, e4, e5, e7, e8, _⟩ := hE
        obtain ⟨g57, k57, b57⟩ : TwoV L0 L2 (a.tmps.getD 57 undef) W := hD 10 57 (by kernel_rfl)
        refine plan_free rfl ?_
        refine plan_call (f := 30) (args := #[a.tmps.getD 57 undef]) (by kernel_rfl) ?_
        rw [k57]
        refine (meet_two L0 L2 W0.out W2.out g57 2 W b57).mono ?_
        rintro e W2 ⟨rfl, hb⟩
        refine ⟨_, rfl, _, rfl, hS.next hb, hb, ?_⟩
        show _ = _
        rw [eQ.out]
      · intro a W hS hE hD
        obtain ⟨e3, e4, e5, e7, e8, _⟩ := hE
        have k54 : a.tmps.getD 54 undef = .agg (vecA M) := hD 7 54 (by kernel_rfl)
        have k58 : a.tmps.getD 58 undef = .agg (vecA Q) := hD 11 58 (by kernel_rfl)
        refine plan_free rfl ?_
        refine plan_value (ex_build k54 k58 HM.out HQ.out) ⟨_, rfl, hS.alloc _, Grows.alloc _ _, ⟨_, rfl, Blk.new _ _ _⟩⟩
      · intro a W hS hE hD
        obtain ⟨e3, e4, e5, e7, e8, _⟩ := hE
        obtain ⟨g59, k59, b59⟩ : TwoV M Q (a.tmps.getD 59 undef) W := hD 12 59 (by kernel_rfl)
        refine plan_free rfl ?_
        refine plan_call (f := 28) (args := #[a.tmps.getD 59 undef]) (by kernel_rfl) ?_
        rw [k59]
        refine (join_two M Q HM.out HQ.out g59 2 W b59).mono ?_
        rintro e W2 ⟨rfl, hb⟩
        refine ⟨_, rfl, _, rfl, hS.next hb, hb, ?_⟩
        show _ = _
        rw [k5.out]
      · intro a W hS hE hD
        obtain ⟨e3, e4, e5, e7, e8, _⟩ := hE
        have k53 : a.tmps.getD 53 undef = .agg (vecA R) := hD 6 53 (by kernel_rfl)
        have k60 : a.tmps.getD 60 undef = .agg (vecA R) := hD 13 60 (by kernel_rfl)
        refine plan_free rfl ?_
        refine plan_value (v := .bool false) (w' := W) (by go_simp) ⟨_, rfl, hS, Grows.refl _, rfl⟩
      · intro a W hS hE hD
        obtain ⟨e3, e4, e5, e7, e8, _⟩ := hE
        have k61 : a.tmps.getD 61 undef = .bool false := hD 14 61 (by kernel_rfl)
        refine plan_free rfl ?_
        refine plan_value ex_move ⟨_, rfl, hS, Grows.refl _, ?_⟩
        exact k61
      · intro a W hS hE hD
        obtain ⟨e3, e4, e5, e7, e8, _⟩ := hE
        have k62 : a.tmps.getD 62 undef = .bool false := hD 15 62 (by kernel_rfl)
        refine plan_want rfl (by kernel_rfl) k62 ?_
        refine plan_value (ex_load e3 W0.out (hS.nth 0 rfl)) ⟨_, rfl, hS, Grows.refl _, rfl⟩
      · intro a W hS hE hD
        obtain ⟨e3, e4, e5, e7, e8, _⟩ := hE
        have k62 : a.tmps.getD 62 undef = .bool false := hD 15 62 (by kernel_rfl)
        refine plan_want rfl (by kernel_rfl) k62 ?_
        refine plan_value (ex_load e4 W1.out (hS.nth 1 rfl)) ⟨_, rfl, hS, Grows.refl _, rfl⟩
      · intro a W hS hE hD
        obtain ⟨e3, e4, e5, e7, e8, _⟩ := hE
        have k62 : a.tmps.getD 62 undef = .bool false := hD 15 62 (by kernel_rfl)
        refine plan_want rfl (by kernel_rfl) k62 ?_
        refine plan_value (ex_load e5 W2.out (hS.nth 2 rfl)) ⟨_, rfl, hS, Grows.refl _, rfl⟩
      · intro a W hS hE hD
        obtain ⟨e3, e4, e5, e7, e8, _⟩ := hE
        have k62 : a.tmps.getD 62 undef = .bool false := hD 15 62 (by kernel_rfl)
        have k64 : a.tmps.getD 64 undef = .agg (vecA L1) := hD 17 64 (by kernel_rfl)
        have k65 : a.tmps.getD 65 undef = .agg (vecA L2) := hD 18 65 (by kernel_rfl)
        refine plan_want rfl (by kernel_rfl) k62 ?_
        refine plan_value (ex_build k64 k65 W1.out W2.out) ⟨_, rfl, hS.alloc _, Grows.alloc _ _, ⟨_, rfl, Blk.new _ _ _⟩⟩
      · intro a W hS hE hD
        obtain ⟨e3, e4, e5, e7, e8, _⟩ := hE
        have k62 : a.tmps.getD 62 undef = .bool false := hD 15 62 (by kernel_rfl)
        obtain ⟨g66, k66, b66⟩ : TwoV L1 L2 (a.tmps.getD 66 undef) W := hD 19 66 (by kernel_rfl)
        refine plan_want rfl (by kernel_rfl) k62 ?_
        refine plan_call (f := 30) (args := #[a.tmps.getD 66 undef]) (by kernel_rfl) ?_
        rw [k66]
        refine (meet_two L1 L2 W1.out W2.out g66 2 W b66).mono ?_
        rintro e W2 ⟨rfl, hb⟩
        refine ⟨_, rfl, _, rfl, hS.next hb, hb, ?_⟩
        show _ = _
        rw [eS.out]
      · intro a W hS hE hD
        obtain ⟨e3, e4, e5, e7, e8, _⟩ := hE
        have k62 : a.tmps.getD 62 undef = .bool false := hD 15 62 (by kernel_rfl)
        have k63 : a.tmps.getD 63 undef = .agg (vecA L0) := hD 16 63 (by kernel_rfl)
        have k67 : a.tmps.getD 67 undef = .agg (vecA S) := hD 20 67 (by kernel_rfl)
        refine plan_want rfl (by kernel_rfl) k62 ?_
        refine plan_value (ex_build k63 k67 W0.out HS.out) ⟨_, rfl, hS.alloc _, Grows.alloc _ _, ⟨_, rfl, Blk.new _ _ _⟩⟩
      · intro a W hS hE hD
        obtain ⟨e3, e4, e5, e7, e8, _⟩ := hE
        have k62 : a.tmps.getD 62 undef = .bool false := hD 15 62 (by kernel_rfl)
        obtain ⟨g68, k68, b68⟩ : TwoV L0 S (a.tmps.getD 68 undef) W := hD 21 68 (by kernel_rfl)
        refine plan_want rfl (by kernel_rfl) k62 ?_
        refine plan_call (f := 28) (args := #[a.tmps.getD 68 undef]) (by kernel_rfl) ?_
        rw [k68]
        refine (join_two L0 S W0.out HS.out g68 2 W b68).mono ?_
        rintro e W2 ⟨rfl, hb⟩
        refine ⟨_, rfl, _, rfl, hS.next hb, hb, ?_⟩
        show _ = _
        rw [eU.out]
      · intro a W hS hE hD
        obtain ⟨e3, e4, e5, e7, e8, _⟩ := hE
        have k62 : a.tmps.getD 62 undef = .bool false := hD 15 62 (by kernel_rfl)
        refine plan_want rfl (by kernel_rfl) k62 ?_
        refine plan_value (ex_load e7 HJ.out (hS.nth 3 rfl)) ⟨_, rfl, hS, Grows.refl _, rfl⟩
      · intro a W hS hE hD
        obtain ⟨e3, e4, e5, e7, e8, _⟩ := hE
        have k62 : a.tmps.getD 62 undef = .bool false := hD 15 62 (by kernel_rfl)
        refine plan_want rfl (by kernel_rfl) k62 ?_
        refine plan_value (ex_load e3 W0.out (hS.nth 0 rfl)) ⟨_, rfl, hS, Grows.refl _, rfl⟩
      · intro a W hS hE hD
        obtain ⟨e3, e4, e5, e7, e8, _⟩ := hE
        have k62 : a.tmps.getD 62 undef = .bool false := hD 15 62 (by kernel_rfl)
        refine plan_want rfl (by kernel_rfl) k62 ?_
        refine plan_value (ex_load e5 W2.out (hS.nth 2 rfl)) ⟨_, rfl, hS, Grows.refl _, rfl⟩
      · intro a W hS hE hD
        obtain ⟨e3, e4, e5, e7, e8, _⟩ := hE
        have k62 : a.tmps.getD 62 undef = .bool false := hD 15 62 (by kernel_rfl)
        have k71 : a.tmps.getD 71 undef = .agg (vecA L0) := hD 24 71 (by kernel_rfl)
        have k72 : a.tmps.getD 72 undef = .agg (vecA L2) := hD 25 72 (by kernel_rfl)
        refine plan_want rfl (by kernel_rfl) k62 ?_
        refine plan_value (ex_build k71 k72 W0.out W2.out) ⟨_, rfl, hS.alloc _, Grows.alloc _ _, ⟨_, rfl, Blk.new _ _ _⟩⟩
      · intro a W hS hE hD
        obtain ⟨e3, e4, e5, e7, e8, _⟩ := hE
        have k62 : a.tmps.getD 62 undef = .bool false := hD 15 62 (by kernel_rfl)
        obtain ⟨g73, k73, b73⟩ : TwoV L0 L2 (a.tmps.getD 73 undef) W := hD 26 73 (by kernel_rfl)
        refine plan_want rfl (by kernel_rfl) k62 ?_
        refine plan_call (f := 28) (args := #[a.tmps.getD 73 undef]) (by kernel_rfl) ?_
        rw [k73]
        refine (join_two L0 L2 W0.out W2.out g73 2 W b73).mono ?_
        rintro e W2 ⟨rfl, hb⟩
        refine ⟨_, rfl, _, rfl, hS.next hb, hb, ?_⟩
        show _ = _
        rw [eT.out]
      · intro a W hS hE hD
        obtain ⟨e3, e4, e5, e7, e8, _⟩ := hE
        have k62 : a.tmps.getD 62 undef = .bool false := hD 15 62 (by kernel_rfl)
        have k70 : a.tmps.getD 70 undef = .agg (vecA J) := hD 23 70 (by kernel_rfl)
        have k74 : a.tmps.getD 74 undef = .agg (vecA T) := hD 27 74 (by kernel_rfl)
        refine plan_want rfl (by kernel_rfl) k62 ?_
        refine plan_value (ex_build k70 k74 HJ.out HT.out) ⟨_, rfl, hS.alloc _, Grows.alloc _ _, ⟨_, rfl, Blk.new _ _ _⟩⟩
      · intro a W hS hE hD
        obtain ⟨e3, e4, e5, e7, e8, _⟩ := hE
        have k62 : a.tmps.getD 62 undef = .bool false := hD 15 62 (by kernel_rfl)
        obtain ⟨g75, k75, b75⟩ : TwoV J T (a.tmps.getD 75 undef) W := hD 28 75 (by kernel_rfl)
        refine plan_want rfl (by kernel_rfl) k62 ?_
        refine plan_call (f := 30) (args := #[a.tmps.getD 75 undef]) (by kernel_rfl) ?_
        rw [k75]
        refine (meet_two J T HJ.out HT.out g75 2 W b75).mono ?_
        rintro e W2 ⟨rfl, hb⟩
        refine ⟨_, rfl, _, rfl, hS.next hb, hb, ?_⟩
        show _ = _
        rw [k6.out]
      · intro a W hS hE hD
        obtain ⟨e3, e4, e5, e7, e8, _⟩ := hE
        have k62 : a.tmps.getD 62 undef = .bool false := hD 15 62 (by kernel_rfl)
        have k69 : a.tmps.getD 69 undef = .agg (vecA U) := hD 22 69 (by kernel_rfl)
        have k76 : a.tmps.getD 76 undef = .agg (vecA U) := hD 29 76 (by kernel_rfl)
        refine plan_want rfl (by kernel_rfl) k62 ?_
        refine plan_value (v := .bool false) (w' := W) (by go_simp) ⟨_, rfl, hS, Grows.refl _, rfl⟩
      · intro a W hS hE hD
        obtain ⟨e3, e4, e5, e7, e8, _⟩ := hE
        have k62 : a.tmps.getD 62 undef = .bool false := hD 15 62 (by kernel_rfl)
        have k77 : a.tmps.getD 77 undef = .bool false := hD 30 77 (by kernel_rfl)
        refine plan_free rfl ?_
        refine plan_value (v := .bool false) (w' := W) (by go_simp) ⟨_, rfl, hS, Grows.refl _, rfl⟩
    · intro f w7 V7 hE
      have f78 : f 78 = .bool false := Ends.get hE 31 _ rfl 78 rfl
      clear hE
      simp only [setAll, List.setIfInBounds_toArray, List.set_cons_zero, List.set_cons_succ]
      rw [f78]; clear f78
      clear V6
      go_upto_region 7 with fail
      refine wp_region_plan (fun W => Vs w W [(w.heap.size, L0), (w.heap.size + 1, L1), (w.heap.size + 1 + 1, L2), (w2.heap.size, J), (w4.heap.size, M)]) Grows [IsV (.agg (vecA L0)), IsV (.agg (vecA L1)), IsV (.int .u64 X), IsV (.agg (vecA L1)), IsV (.agg (vecA L0)), IsV (.int .u64 Y), IsV (.int .u64 Z), IsV (.agg (vecA M)), IsV (.agg (vecA J)), IsV (.int .u64 Z), IsV (.bool false), IsV (.bool false), IsV (.agg (vecA L0)), IsV (.agg (vecA L1)), IsV (.bool t), IsV (.agg (vecA J)), IsV (.agg (vecA L1)), IsV (.bool t), IsV (.bool false), IsV (.bool false), IsV (.bool false), IsV (.agg (vecA L0)), IsV (.agg (vecA L1)), IsV (.bool t), IsV (.agg (vecA M)), IsV (.agg (vecA L0)), IsV (.bool t), IsV (.bool false), IsV (.bool false)] ([(3, .pointer (some ⟨w.heap.size, 0, none⟩)), (4, .pointer (some ⟨w.heap.size + 1, 0, none⟩)), (5, .pointer (some ⟨w.heap.size + 1 + 1, 0, none⟩)), (7, .pointer (some ⟨w2.heap.size, 0, none⟩)), (8, .pointer (some ⟨w4.heap.size, 0, none⟩))] : List (Nat × Value)) (⟨rfl, rfl, rfl, rfl, rfl, trivial⟩) (by kernel_rfl) (n := 125) (by kernel_rfl) rfl (by kernel_rfl) (Vs.drew V7) Grows.refl (StabAll.get ?_) ?_ ?_
      · repeat (first | exact trivial | refine ⟨stab_c _, ?_⟩ | refine ⟨stab_two _ _, ?_⟩ | refine ⟨fun _ _ _ _ _ _ _ => trivial, ?_⟩)
      · refine ⟨?_, ⟨?_, ⟨?_, ⟨?_, ⟨?_, ⟨?_, ⟨?_, ⟨?_, ⟨?_, ⟨?_, ⟨?_, ⟨?_, ⟨?_, ⟨?_, ⟨?_, ⟨?_, ⟨?_, ⟨?_, ⟨?_, ⟨?_, ⟨?_, ⟨?_, ⟨?_, ⟨?_, ⟨?_, ⟨?_, ⟨?_, ⟨?_, ⟨?_, trivial⟩⟩⟩⟩⟩⟩⟩⟩⟩⟩⟩⟩⟩⟩⟩⟩⟩⟩⟩⟩⟩⟩⟩⟩⟩⟩⟩⟩⟩
        · intro a W hS hE hD
          obtain ⟨e3, e4, e5, e7, e8, _⟩ := hE
          refine plan_free rfl ?_
          refine plan_value (ex_load e3 W0.out (hS.nth 0 rfl)) ⟨_, rfl, hS, Grows.refl _, rfl⟩
        · intro a W hS hE hD
          obtain ⟨e3, e4, e5, e7, e8, _⟩ := hE
          refine plan_free rfl ?_
          refine plan_value (ex_load e4 W1.out (hS.nth 1 rfl)) ⟨_, rfl, hS, Grows.refl _, rfl⟩
        · intro a W hS hE hD
          obtain ⟨e3, e4, e5, e7, e8, _⟩ := hE
          have k79 : a.tmps.getD 79 undef = .agg (vecA L0) := hD 0 79 (by kernel_rfl)
          have k80 : a.tmps.getD 80 undef = .agg (vecA L1) := hD 1 80 (by kernel_rfl)
          refine plan_free rfl ?_
          refine plan_call (f := 26) (args := #[a.tmps.getD 79 undef, a.tmps.getD 80 undef]) (by kernel_rfl) ?_
          rw [k79, k80]
          refine (lack_any L0 L1 W0.out W1.out U1.out W).mono ?_
          rintro e W2 ⟨rfl, hb⟩
          refine ⟨_, rfl, _, rfl, hS.next hb, hb, ?_⟩
          show _ = _
          rw [ex.out, hX.out]
        · intro a W hS hE hD
          obtain ⟨e3, e4, e5, e7, e8, _⟩ := hE
          refine plan_free rfl ?_
          refine plan_value (ex_load e4 W1.out (hS.nth 1 rfl)) ⟨_, rfl, hS, Grows.refl _, rfl⟩
        · intro a W hS hE hD
          obtain ⟨e3, e4, e5, e7, e8, _⟩ := hE
          refine plan_free rfl ?_
          refine plan_value (ex_load e3 W0.out (hS.nth 0 rfl)) ⟨_, rfl, hS, Grows.refl _, rfl⟩
        · intro a W hS hE hD
          obtain ⟨e3, e4, e5, e7, e8, _⟩ := hE
          have k82 : a.tmps.getD 82 undef = .agg (vecA L1) := hD 3 82 (by kernel_rfl)
          have k83 : a.tmps.getD 83 undef = .agg (vecA L0) := hD 4 83 (by kernel_rfl)
          refine plan_free rfl ?_
          refine plan_call (f := 26) (args := #[a.tmps.getD 82 undef, a.tmps.getD 83 undef]) (by kernel_rfl) ?_
          rw [k82, k83]
          refine (lack_any L1 L0 W1.out W0.out U0.out W).mono ?_
          rintro e W2 ⟨rfl, hb⟩
          refine ⟨_, rfl, _, rfl, hS.next hb, hb, ?_⟩
          show _ = _
          rw [ey.out, hY.out]
        · intro a W hS hE hD
          obtain ⟨e3, e4, e5, e7, e8, _⟩ := hE
          have k81 : a.tmps.getD 81 undef = .int .u64 X := hD 2 81 (by kernel_rfl)
          have k84 : a.tmps.getD 84 undef = .int .u64 Y := hD 5 84 (by kernel_rfl)
          refine plan_free rfl ?_
          refine plan_value (v := .int .u64 Z) (w' := W) (by go_simp) ⟨_, rfl, hS, Grows.refl _, rfl⟩
        · intro a W hS hE hD
          obtain ⟨e3, e4, e5, e7, e8, _⟩ := hE
          refine plan_free rfl ?_
          refine plan_value (ex_load e8 HM.out (hS.nth 4 rfl)) ⟨_, rfl, hS, Grows.refl _, rfl⟩
        · intro a W hS hE hD
          obtain ⟨e3, e4, e5, e7, e8, _⟩ := hE
          refine plan_free rfl ?_
          refine plan_value (ex_load e7 HJ.out (hS.nth 3 rfl)) ⟨_, rfl, hS, Grows.refl _, rfl⟩
        · intro a W hS hE hD
          obtain ⟨e3, e4, e5, e7, e8, _⟩ := hE
          have k86 : a.tmps.getD 86 undef = .agg (vecA M) := hD 7 86 (by kernel_rfl)
          have k87 : a.tmps.getD 87 undef = .agg (vecA J) := hD 8 87 (by kernel_rfl)
          refine plan_free rfl ?_
          refine plan_call (f := 26) (args := #[a.tmps.getD 86 undef, a.tmps.getD 87 undef]) (by kernel_rfl) ?_
          rw [k86, k87]
          refine (lack_any M J HM.out HJ.out UJ.out W).mono ?_
          rintro e W2 ⟨rfl, hb⟩
          refine ⟨_, rfl, _, rfl, hS.next hb, hb, ?_⟩
          show _ = _
          rw [ez.out, hZ.out]
        · intro a W hS hE hD
          obtain ⟨e3, e4, e5, e7, e8, _⟩ := hE
          have k85 : a.tmps.getD 85 undef = .int .u64 Z := hD 6 85 (by kernel_rfl)
          have k88 : a.tmps.getD 88 undef = .int .u64 Z := hD 9 88 (by kernel_rfl)
          refine plan_free rfl ?_
          refine plan_value (v := .bool false) (w' := W) (by go_simp) ⟨_, rfl, hS, Grows.refl _, rfl⟩
        · intro a W hS hE hD
          obtain ⟨e3, e4, e5, e7, e8, _⟩ := hE
          have k89 : a.tmps.getD 89 undef = .bool false := hD 10 89 (by kernel_rfl)
          refine plan_free rfl ?_
          refine plan_value ex_move ⟨_, rfl, hS, Grows.refl _, ?_⟩
          exact k89
        · intro a W hS hE hD
          obtain ⟨e3, e4, e5, e7, e8, _⟩ := hE
          have k90 : a.tmps.getD 90 undef = .bool false := hD 11 90 (by kernel_rfl)
          refine plan_want rfl (by kernel_rfl) k90 ?_
          refine plan_value (ex_load e3 W0.out (hS.nth 0 rfl)) ⟨_, rfl, hS, Grows.refl _, rfl⟩
        · intro a W hS hE hD
          obtain ⟨e3, e4, e5, e7, e8, _⟩ := hE
          have k90 : a.tmps.getD 90 undef = .bool false := hD 11 90 (by kernel_rfl)
          refine plan_want rfl (by kernel_rfl) k90 ?_
          refine plan_value (ex_load e4 W1.out (hS.nth 1 rfl)) ⟨_, rfl, hS, Grows.refl _, rfl⟩
        · intro a W hS hE hD
          obtain ⟨e3, e4, e5, e7, e8, _⟩ := hE
          have k90 : a.tmps.getD 90 undef = .bool false := hD 11 90 (by kernel_rfl)
          have k91 : a.tmps.getD 91 undef = .agg (vecA L0) := hD 12 91 (by kernel_rfl)
          have k92 : a.tmps.getD 92 undef = .agg (vecA L1) := hD 13 92 (by kernel_rfl)
          refine plan_want rfl (by kernel_rfl) k90 ?_
          refine plan_call (f := 22) (args := #[a.tmps.getD 91 undef, a.tmps.getD 92 undef]) (by kernel_rfl) ?_
          rw [k91, k92]
          refine (less_any L0 L1 W0.out W1.out W).mono ?_
          rintro e W2 ⟨rfl, hb⟩
          refine ⟨_, rfl, _, rfl, hS.next hb, hb, ?_⟩
          show _ = _
          rw [et.out]
        · intro a W hS hE hD
          obtain ⟨e3, e4, e5, e7, e8, _⟩ := hE
          have k90 : a.tmps.getD 90 undef = .bool false := hD 11 90 (by kernel_rfl)
          refine plan_want rfl (by kernel_rfl) k90 ?_
          refine plan_value (ex_load e7 HJ.out (hS.nth 3 rfl)) ⟨_, rfl, hS, Grows.refl _, rfl⟩
        · intro a W hS hE hD
          obtain ⟨e3, e4, e5, e7, e8, _⟩ := hE
          have k90 : a.tmps.getD 90 undef = .bool false := hD 11 90 (by kernel_rfl)
          refine plan_want rfl (by kernel_rfl) k90 ?_
          refine plan_value (ex_load e4 W1.out (hS.nth 1 rfl)) ⟨_, rfl, hS, Grows.refl _, rfl⟩
        · intro a W hS hE hD
          obtain ⟨e3, e4, e5, e7, e8, _⟩ := hE
          have k90 : a.tmps.getD 90 undef = .bool false := hD 11 90 (by kernel_rfl)
          have k94 : a.tmps.getD 94 undef = .agg (vecA J) := hD 15 94 (by kernel_rfl)
          have k95 : a.tmps.getD 95 undef = .agg (vecA L1) := hD 16 95 (by kernel_rfl)
          refine plan_want rfl (by kernel_rfl) k90 ?_
          refine plan_value (v := .bool t) (w' := W) (by go_simp) ⟨_, rfl, hS, Grows.refl _, rfl⟩
        · intro a W hS hE hD
          obtain ⟨e3, e4, e5, e7, e8, _⟩ := hE
          have k90 : a.tmps.getD 90 undef = .bool false := hD 11 90 (by kernel_rfl)
          have k93 : a.tmps.getD 93 undef = .bool t := hD 14 93 (by kernel_rfl)
          have k96 : a.tmps.getD 96 undef = .bool t := hD 17 96 (by kernel_rfl)
          refine plan_want rfl (by kernel_rfl) k90 ?_
          refine plan_value (v := .bool false) (w' := W) (by go_simp) ⟨_, rfl, hS, Grows.refl _, rfl⟩
        · intro a W hS hE hD
          obtain ⟨e3, e4, e5, e7, e8, _⟩ := hE
          have k90 : a.tmps.getD 90 undef = .bool false := hD 11 90 (by kernel_rfl)
          have k97 : a.tmps.getD 97 undef = .bool false := hD 18 97 (by kernel_rfl)
          refine plan_free rfl ?_
          refine plan_value (v := .bool false) (w' := W) (by go_simp) ⟨_, rfl, hS, Grows.refl _, rfl⟩
        · intro a W hS hE hD
          obtain ⟨e3, e4, e5, e7, e8, _⟩ := hE
          have k98 : a.tmps.getD 98 undef = .bool false := hD 19 98 (by kernel_rfl)
          refine plan_free rfl ?_
          refine plan_value ex_move ⟨_, rfl, hS, Grows.refl _, ?_⟩
          exact k98
        · intro a W hS hE hD
          obtain ⟨e3, e4, e5, e7, e8, _⟩ := hE
          have k99 : a.tmps.getD 99 undef = .bool false := hD 20 99 (by kernel_rfl)
          refine plan_want rfl (by kernel_rfl) k99 ?_
          refine plan_value (ex_load e3 W0.out (hS.nth 0 rfl)) ⟨_, rfl, hS, Grows.refl _, rfl⟩
        · intro a W hS hE hD
          obtain ⟨e3, e4, e5, e7, e8, _⟩ := hE
          have k99 : a.tmps.getD 99 undef = .bool false := hD 20 99 (by kernel_rfl)
          refine plan_want rfl (by kernel_rfl) k99 ?_
          refine plan_value (ex_load e4 W1.out (hS.nth 1 rfl)) ⟨_, rfl, hS, Grows.refl _, rfl⟩
        · intro a W hS hE hD
          obtain ⟨e3, e4, e5, e7, e8, _⟩ := hE
          have k99 : a.tmps.getD 99 undef = .bool false := hD 20 99 (by kernel_rfl)
          have k100 : a.tmps.getD 100 undef = .agg (vecA L0) := hD 21 100 (by kernel_rfl)
          have k101 : a.tmps.getD 101 undef = .agg (vecA L1) := hD 22 101 (by kernel_rfl)
          refine plan_want rfl (by kernel_rfl) k99 ?_
          refine plan_call (f := 22) (args := #[a.tmps.getD 100 undef, a.tmps.getD 101 undef]) (by kernel_rfl) ?_
          rw [k100, k101]
          refine (less_any L0 L1 W0.out W1.out W).mono ?_
          rintro e W2 ⟨rfl, hb⟩
          refine ⟨_, rfl, _, rfl, hS.next hb, hb, ?_⟩
          show _ = _
          rw [et.out]
        · intro a W hS hE hD
          obtain ⟨e3, e4, e5, e7, e8, _⟩ := hE
          have k99 : a.tmps.getD 99 undef = .bool false := hD 20 99 (by kernel_rfl)
          refine plan_want rfl (by kernel_rfl) k99 ?_
          refine plan_value (ex_load e8 HM.out (hS.nth 4 rfl)) ⟨_, rfl, hS, Grows.refl _, rfl⟩
        · intro a W hS hE hD
          obtain ⟨e3, e4, e5, e7, e8, _⟩ := hE
          have k99 : a.tmps.getD 99 undef = .bool false := hD 20 99 (by kernel_rfl)
          refine plan_want rfl (by kernel_rfl) k99 ?_
          refine plan_value (ex_load e3 W0.out (hS.nth 0 rfl)) ⟨_, rfl, hS, Grows.refl _, rfl⟩
        · intro a W hS hE hD
          obtain ⟨e3, e4, e5, e7, e8, _⟩ := hE
          have k99 : a.tmps.getD 99 undef = .bool false := hD 20 99 (by kernel_rfl)
          have k103 : a.tmps.getD 103 undef = .agg (vecA M) := hD 24 103 (by kernel_rfl)
          have k104 : a.tmps.getD 104 undef = .agg (vecA L0) := hD 25 104 (by kernel_rfl)
          refine plan_want rfl (by kernel_rfl) k99 ?_
          refine plan_value (v := .bool t) (w' := W) (by go_simp) ⟨_, rfl, hS, Grows.refl _, rfl⟩
        · intro a W hS hE hD
          obtain ⟨e3, e4, e5, e7, e8, _⟩ := hE
          have k99 : a.tmps.getD 99 undef = .bool false := hD 20 99 (by kernel_rfl)
          have k102 : a.tmps.getD 102 undef = .bool t := hD 23 102 (by kernel_rfl)
          have k105 : a.tmps.getD 105 undef = .bool t := hD 26 105 (by kernel_rfl)
          refine plan_want rfl (by kernel_rfl) k99 ?_
          refine plan_value (v := .bool false) (w' := W) (by go_simp) ⟨_, rfl, hS, Grows.refl _, rfl⟩
        · intro a W hS hE hD
          obtain ⟨e3, e4, e5, e7, e8, _⟩ := hE
          have k99 : a.tmps.getD 99 undef = .bool false := hD 20 99 (by kernel_rfl)
          have k106 : a.tmps.getD 106 undef = .bool false := hD 27 106 (by kernel_rfl)
          refine plan_free rfl ?_
          refine plan_value (v := .bool false) (w' := W) (by go_simp) ⟨_, rfl, hS, Grows.refl _, rfl⟩
      · intro f w8 V8 hE
        have f107 : f 107 = .bool false := Ends.get hE 28 _ rfl 107 rfl
        clear hE
        simp only [setAll, List.setIfInBounds_toArray, List.set_cons_zero, List.set_cons_succ]
        rw [f107]; clear f107
        clear V7
        have NX := Lib.hid (show t = decide (Y = 0) ∨ ¬ (mayV L0 = true ∧ mayV L1 = true) from by
          by_cases h1 : mayV L0 = true
          · by_cases h2 : mayV L1 = true
            · refine .inl ?_
              rw [← hmay.out h1 h2, ← hY.out, decide_eq_decide]; omega
            · exact .inr fun h => h2 h.2
          · exact .inr fun h => h1 h.1)
        clear hmay
        obtain ⟨m0, em0⟩ : ∃ b, Hid (mayV L0 = b) := ⟨_, Lib.hid rfl⟩
        obtain ⟨m1, em1⟩ : ∃ b, Hid (mayV L1 = b) := ⟨_, Lib.hid rfl⟩
        rw [em0.out, em1.out] at NX
        clear hX hZ ex ez
        have HE : Hid ((m0 = false) ∨ (m0 = true ∧ m1 = false) ∨ (m0 = true ∧ m1 = true ∧ t = true ∧ Y = 0) ∨ (m0 = true ∧ m1 = true ∧ t = false ∧ ¬ Y = 0)) := by
          have h := NX.out
          cases m0
          · exact .inl rfl
          · cases m1
            · exact .inr (.inl ⟨rfl, rfl⟩)
            · rcases h with h | h
              · by_cases hy : Y = 0
                · exact .inr (.inr (.inl ⟨rfl, rfl, by rw [h, decide_eq_true hy], hy⟩))
                · exact .inr (.inr (.inr ⟨rfl, rfl, by rw [h, decide_eq_false hy], hy⟩))
              · exact absurd ⟨rfl, rfl⟩ h
        clear NX
        go_upto_region 9 with fail
        rcases HE.out with hh | ⟨hh, hk⟩ | ⟨hh, hk, ht, hy⟩ | ⟨hh, hk, ht, hy⟩
        · subst hh
          clear HE
          refine wp_region_plan (fun W => Vs w W [(w.heap.size, L0), (w.heap.size + 1, L1), (w.heap.size + 1 + 1, L2), (w2.heap.size, J), (w4.heap.size, M)]) Grows [IsV (.agg (vecA L0)), IsV (.bool false), IsV (.bool false), IsV (undef), IsV (undef), IsV (.bool false), IsV (.bool false), IsV (undef), IsV (undef), IsV (undef), IsV (undef), IsV (undef), IsV (undef), IsV (undef), IsV (undef), IsV (.bool false)] ([(3, .pointer (some ⟨w.heap.size, 0, none⟩)), (4, .pointer (some ⟨w.heap.size + 1, 0, none⟩))] : List (Nat × Value)) (⟨rfl, rfl, trivial⟩) (by kernel_rfl) (n := 125) (by kernel_rfl) rfl (by kernel_rfl) (Vs.drew V8) Grows.refl (StabAll.get ?_) ?_ ?_
          · repeat (first | exact trivial | refine ⟨stab_c _, ?_⟩ | refine ⟨stab_two _ _, ?_⟩ | refine ⟨fun _ _ _ _ _ _ _ => trivial, ?_⟩)
          · refine ⟨?_, ⟨?_, ⟨?_, ⟨?_, ⟨?_, ⟨?_, ⟨?_, ⟨?_, ⟨?_, ⟨?_, ⟨?_, ⟨?_, ⟨?_, ⟨?_, ⟨?_, ⟨?_, trivial⟩⟩⟩⟩⟩⟩⟩⟩⟩⟩⟩⟩⟩⟩⟩⟩
            · intro a W hS hE hD
              obtain ⟨e3, e4, _⟩ := hE
              refine plan_free rfl ?_
              refine plan_value (ex_load e3 W0.out (hS.nth 0 rfl)) ⟨_, rfl, hS, Grows.refl _, rfl⟩
            · intro a W hS hE hD
              obtain ⟨e3, e4, _⟩ := hE
              have k108 : a.tmps.getD 108 undef = .agg (vecA L0) := hD 0 108 (by kernel_rfl)
              refine plan_free rfl ?_
              refine plan_call (f := 20) (args := #[a.tmps.getD 108 undef]) (by kernel_rfl) ?_
              rw [k108]
              refine (may_any L0 W0.out W).mono ?_
              rintro e W2 ⟨rfl, hb⟩
              refine ⟨_, rfl, _, rfl, hS.next hb, hb, ?_⟩
              show _ = _
              rw [em0.out]
            · intro a W hS hE hD
              obtain ⟨e3, e4, _⟩ := hE
              have k109 : a.tmps.getD 109 undef = .bool false := hD 1 109 (by kernel_rfl)
              refine plan_free rfl ?_
              refine plan_value ex_move ⟨_, rfl, hS, Grows.refl _, ?_⟩
              exact k109
            · intro a W hS hE hD
              obtain ⟨e3, e4, _⟩ := hE
              have k110 : a.tmps.getD 110 undef = .bool false := hD 2 110 (by kernel_rfl)
              refine plan_skip rfl (by kernel_rfl) k110 rfl ?_
              exact rfl
            · intro a W hS hE hD
              obtain ⟨e3, e4, _⟩ := hE
              have k110 : a.tmps.getD 110 undef = .bool false := hD 2 110 (by kernel_rfl)
              refine plan_skip rfl (by kernel_rfl) k110 rfl ?_
              exact rfl
            · intro a W hS hE hD
              obtain ⟨e3, e4, _⟩ := hE
              have k110 : a.tmps.getD 110 undef = .bool false := hD 2 110 (by kernel_rfl)
              have k112 : a.tmps.getD 112 undef = undef := hD 4 112 (by kernel_rfl)
              refine plan_free rfl ?_
              refine plan_value (v := .bool false) (w' := W) (by go_simp) ⟨_, rfl, hS, Grows.refl _, rfl⟩
            · intro a W hS hE hD
              obtain ⟨e3, e4, _⟩ := hE
              have k113 : a.tmps.getD 113 undef = .bool false := hD 5 113 (by kernel_rfl)
              refine plan_free rfl ?_
              refine plan_value ex_move ⟨_, rfl, hS, Grows.refl _, ?_⟩
              exact k113
            · intro a W hS hE hD
              obtain ⟨e3, e4, _⟩ := hE
              have k114 : a.tmps.getD 114 undef = .bool false := hD 6 114 (by kernel_rfl)
              refine plan_skip rfl (by kernel_rfl) k114 rfl ?_
              exact rfl
            · intro a W hS hE hD
              obtain ⟨e3, e4, _⟩ := hE
              have k114 : a.tmps.getD 114 undef = .bool false := hD 6 114 (by kernel_rfl)
              refine plan_skip rfl (by kernel_rfl) k114 rfl ?_
              exact rfl
            · intro a W hS hE hD
              obtain ⟨e3, e4, _⟩ := hE
              have k114 : a.tmps.getD 114 undef = .bool false := hD 6 114 (by kernel_rfl)
              refine plan_skip rfl (by kernel_rfl) k114 rfl ?_
              exact rfl
            · intro a W hS hE hD
              obtain ⟨e3, e4, _⟩ := hE
              have k114 : a.tmps.getD 114 undef = .bool false := hD 6 114 (by kernel_rfl)
              refine plan_skip rfl (by kernel_rfl) k114 rfl ?_
              exact rfl
            · intro a W hS hE hD
              obtain ⟨e3, e4, _⟩ := hE
              have k114 : a.tmps.getD 114 undef = .bool false := hD 6 114 (by kernel_rfl)
              refine plan_skip rfl (by kernel_rfl) k114 rfl ?_
              exact rfl
            · intro a W hS hE hD
              obtain ⟨e3, e4, _⟩ := hE
              have k114 : a.tmps.getD 114 undef = .bool false := hD 6 114 (by kernel_rfl)
              refine plan_skip rfl (by kernel_rfl) k114 rfl ?_
              exact rfl
            · intro a W hS hE hD
              obtain ⟨e3, e4, _⟩ := hE
              have k114 : a.tmps.getD 114 undef = .bool false := hD 6 114 (by kernel_rfl)
              refine plan_skip rfl (by kernel_rfl) k114 rfl ?_
              exact rfl
            · intro a W hS hE hD
              obtain ⟨e3, e4, _⟩ := hE
              have k114 : a.tmps.getD 114 undef = .bool false := hD 6 114 (by kernel_rfl)
              refine plan_skip rfl (by kernel_rfl) k114 rfl ?_
              exact rfl
            · intro a W hS hE hD
              obtain ⟨e3, e4, _⟩ := hE
              have k114 : a.tmps.getD 114 undef = .bool false := hD 6 114 (by kernel_rfl)
              have k122 : a.tmps.getD 122 undef = undef := hD 14 122 (by kernel_rfl)
              refine plan_free rfl ?_
              refine plan_value (v := .bool false) (w' := W) (by go_simp) ⟨_, rfl, hS, Grows.refl _, rfl⟩
          · intro f w9 V9 hE
            have f123 : f 123 = .bool false := Ends.get hE 15 _ rfl 123 rfl
            clear hE
            simp only [setAll, List.setIfInBounds_toArray, List.set_cons_zero, List.set_cons_succ]
            rw [f123]; clear f123
            clear V8
            go_wp2_with fail
            (refine (vworks_any _).mono ?_)
            rintro e w10 ⟨rfl, hb⟩
            have hbel := (V9.next hb).bel
            clear V9 hb
            go_wp2_with fail
            go_ret
            exact ⟨rfl, hbel⟩
        · subst hh hk
          clear HE
          refine wp_region_plan (fun W => Vs w W [(w.heap.size, L0), (w.heap.size + 1, L1), (w.heap.size + 1 + 1, L2), (w2.heap.size, J), (w4.heap.size, M)]) Grows [IsV (.agg (vecA L0)), IsV (.bool true), IsV (.bool true), IsV (.agg (vecA L1)), IsV (.bool false), IsV (.bool false), IsV (.bool false), IsV (undef), IsV (undef), IsV (undef), IsV (undef), IsV (undef), IsV (undef), IsV (undef), IsV (undef), IsV (.bool false)] ([(3, .pointer (some ⟨w.heap.size, 0, none⟩)), (4, .pointer (some ⟨w.heap.size + 1, 0, none⟩))] : List (Nat × Value)) (⟨rfl, rfl, trivial⟩) (by kernel_rfl) (n := 125) (by kernel_rfl) rfl (by kernel_rfl) (Vs.drew V8) Grows.refl (StabAll.get ?_) ?_ ?_
          · repeat (first | exact trivial | refine ⟨stab_c _, ?_⟩ | refine ⟨stab_two _ _, ?_⟩ | refine ⟨fun _ _ _ _ _ _ _ => trivial, ?_⟩)
          · refine ⟨?_, ⟨?_, ⟨?_, ⟨?_, ⟨?_, ⟨?_, ⟨?_, ⟨?_, ⟨?_, ⟨?_, ⟨?_, ⟨?_, ⟨?_, ⟨?_, ⟨?_, ⟨?_, trivial⟩⟩⟩⟩⟩⟩⟩⟩⟩⟩⟩⟩⟩⟩⟩⟩
            · intro a W hS hE hD
              obtain ⟨e3, e4, _⟩ := hE
              refine plan_free rfl ?_
              refine plan_value (ex_load e3 W0.out (hS.nth 0 rfl)) ⟨_, rfl, hS, Grows.refl _, rfl⟩
            · intro a W hS hE hD
              obtain ⟨e3, e4, _⟩ := hE
              have k108 : a.tmps.getD 108 undef = .agg (vecA L0) := hD 0 108 (by kernel_rfl)
              refine plan_free rfl ?_
              refine plan_call (f := 20) (args := #[a.tmps.getD 108 undef]) (by kernel_rfl) ?_
              rw [k108]
              refine (may_any L0 W0.out W).mono ?_
              rintro e W2 ⟨rfl, hb⟩
              refine ⟨_, rfl, _, rfl, hS.next hb, hb, ?_⟩
              show _ = _
              rw [em0.out]
            · intro a W hS hE hD
              obtain ⟨e3, e4, _⟩ := hE
              have k109 : a.tmps.getD 109 undef = .bool true := hD 1 109 (by kernel_rfl)
              refine plan_free rfl ?_
              refine plan_value ex_move ⟨_, rfl, hS, Grows.refl _, ?_⟩
              exact k109
            · intro a W hS hE hD
              obtain ⟨e3, e4, _⟩ := hE
              have k110 : a.tmps.getD 110 undef = .bool true := hD 2 110 (by kernel_rfl)
              refine plan_want rfl (by kernel_rfl) k110 ?_
              refine plan_value (ex_load e4 W1.out (hS.nth 1 rfl)) ⟨_, rfl, hS, Grows.refl _, rfl⟩
            · intro a W hS hE hD
              obtain ⟨e3, e4, _⟩ := hE
              have k110 : a.tmps.getD 110 undef = .bool true := hD 2 110 (by kernel_rfl)
              have k111 : a.tmps.getD 111 undef = .agg (vecA L1) := hD 3 111 (by kernel_rfl)
              refine plan_want rfl (by kernel_rfl) k110 ?_
              refine plan_call (f := 20) (args := #[a.tmps.getD 111 undef]) (by kernel_rfl) ?_
              rw [k111]
              refine (may_any L1 W1.out W).mono ?_
              rintro e W2 ⟨rfl, hb⟩
              refine ⟨_, rfl, _, rfl, hS.next hb, hb, ?_⟩
              show _ = _
              rw [em1.out]
            · intro a W hS hE hD
              obtain ⟨e3, e4, _⟩ := hE
              have k110 : a.tmps.getD 110 undef = .bool true := hD 2 110 (by kernel_rfl)
              have k112 : a.tmps.getD 112 undef = .bool false := hD 4 112 (by kernel_rfl)
              refine plan_free rfl ?_
              refine plan_value (v := .bool false) (w' := W) (by go_simp) ⟨_, rfl, hS, Grows.refl _, rfl⟩
            · intro a W hS hE hD
              obtain ⟨e3, e4, _⟩ := hE
              have k113 : a.tmps.getD 113 undef = .bool false := hD 5 113 (by kernel_rfl)
              refine plan_free rfl ?_
              refine plan_value ex_move ⟨_, rfl, hS, Grows.refl _, ?_⟩
              exact k113
            · intro a W hS hE hD
              obtain ⟨e3, e4, _⟩ := hE
              have k114 : a.tmps.getD 114 undef = .bool false := hD 6 114 (by kernel_rfl)
              refine plan_skip rfl (by kernel_rfl) k114 rfl ?_
              exact rfl
            · intro a W hS hE hD
              obtain ⟨e3, e4, _⟩ := hE
              have k114 : a.tmps.getD 114 undef = .bool false := hD 6 114 (by kernel_rfl)
              refine plan_skip rfl (by kernel_rfl) k114 rfl ?_
              exact rfl
            · intro a W hS hE hD
              obtain ⟨e3, e4, _⟩ := hE
              have k114 : a.tmps.getD 114 undef = .bool false := hD 6 114 (by kernel_rfl)
              refine plan_skip rfl (by kernel_rfl) k114 rfl ?_
              exact rfl
            · intro a W hS hE hD
              obtain ⟨e3, e4, _⟩ := hE
              have k114 : a.tmps.getD 114 undef = .bool false := hD 6 114 (by kernel_rfl)
              refine plan_skip rfl (by kernel_rfl) k114 rfl ?_
              exact rfl
            · intro a W hS hE hD
              obtain ⟨e3, e4, _⟩ := hE
              have k114 : a.tmps.getD 114 undef = .bool false := hD 6 114 (by kernel_rfl)
              refine plan_skip rfl (by kernel_rfl) k114 rfl ?_
              exact rfl
            · intro a W hS hE hD
              obtain ⟨e3, e4, _⟩ := hE
              have k114 : a.tmps.getD 114 undef = .bool false := hD 6 114 (by kernel_rfl)
              refine plan_skip rfl (by kernel_rfl) k114 rfl ?_
              exact rfl
            · intro a W hS hE hD
              obtain ⟨e3, e4, _⟩ := hE
              have k114 : a.tmps.getD 114 undef = .bool false := hD 6 114 (by kernel_rfl)
              refine plan_skip rfl (by kernel_rfl) k114 rfl ?_
              exact rfl
            · intro a W hS hE hD
              obtain ⟨e3, e4, _⟩ := hE
              have k114 : a.tmps.getD 114 undef = .bool false := hD 6 114 (by kernel_rfl)
              refine plan_skip rfl (by kernel_rfl) k114 rfl ?_
              exact rfl
            · intro a W hS hE hD
              obtain ⟨e3, e4, _⟩ := hE
              have k114 : a.tmps.getD 114 undef = .bool false := hD 6 114 (by kernel_rfl)
              have k122 : a.tmps.getD 122 undef = undef := hD 14 122 (by kernel_rfl)
              refine plan_free rfl ?_
              refine plan_value (v := .bool false) (w' := W) (by go_simp) ⟨_, rfl, hS, Grows.refl _, rfl⟩
          · intro f w9 V9 hE
            have f123 : f 123 = .bool false := Ends.get hE 15 _ rfl 123 rfl
            clear hE
            simp only [setAll, List.setIfInBounds_toArray, List.set_cons_zero, List.set_cons_succ]
            rw [f123]; clear f123
            clear V8
            go_wp2_with fail
            (refine (vworks_any _).mono ?_)
            rintro e w10 ⟨rfl, hb⟩
            have hbel := (V9.next hb).bel
            clear V9 hb
            go_wp2_with fail
            go_ret
            exact ⟨rfl, hbel⟩
        · subst hh hk ht
          clear HE
          refine wp_region_plan (fun W => Vs w W [(w.heap.size, L0), (w.heap.size + 1, L1), (w.heap.size + 1 + 1, L2), (w2.heap.size, J), (w4.heap.size, M)]) Grows [IsV (.agg (vecA L0)), IsV (.bool true), IsV (.bool true), IsV (.agg (vecA L1)), IsV (.bool true), IsV (.bool true), IsV (.bool true), IsV (.agg (vecA L0)), IsV (.agg (vecA L1)), IsV (.bool true), IsV (.agg (vecA L1)), IsV (.agg (vecA L0)), IsV (.int .u64 Y), IsV (.bool true), IsV (.bool false), IsV (.bool false)] ([(3, .pointer (some ⟨w.heap.size, 0, none⟩)), (4, .pointer (some ⟨w.heap.size + 1, 0, none⟩))] : List (Nat × Value)) (⟨rfl, rfl, trivial⟩) (by kernel_rfl) (n := 125) (by kernel_rfl) rfl (by kernel_rfl) (Vs.drew V8) Grows.refl (StabAll.get ?_) ?_ ?_
          · repeat (first | exact trivial | refine ⟨stab_c _, ?_⟩ | refine ⟨stab_two _ _, ?_⟩ | refine ⟨fun _ _ _ _ _ _ _ => trivial, ?_⟩)
          · refine ⟨?_, ⟨?_, ⟨?_, ⟨?_, ⟨?_, ⟨?_, ⟨?_, ⟨?_, ⟨?_, ⟨?_, ⟨?_, ⟨?_, ⟨?_, ⟨?_, ⟨?_, ⟨?_, trivial⟩⟩⟩⟩⟩⟩⟩⟩⟩⟩⟩⟩⟩⟩⟩⟩
            · intro a W hS hE hD
              obtain ⟨e3, e4, _⟩ := hE
              refine plan_free rfl ?_
              refine plan_value (ex_load e3 W0.out (hS.nth 0 rfl)) ⟨_, rfl, hS, Grows.refl _, rfl⟩
            · intro a W hS hE hD
              obtain ⟨e3, e4, _⟩ := hE
              have k108 : a.tmps.getD 108 undef = .agg (vecA L0) := hD 0 108 (by kernel_rfl)
              refine plan_free rfl ?_
              refine plan_call (f := 20) (args := #[a.tmps.getD 108 undef]) (by kernel_rfl) ?_
              rw [k108]
              refine (may_any L0 W0.out W).mono ?_
              rintro e W2 ⟨rfl, hb⟩
              refine ⟨_, rfl, _, rfl, hS.next hb, hb, ?_⟩
              show _ = _
              rw [em0.out]
            · intro a W hS hE hD
              obtain ⟨e3, e4, _⟩ := hE
              have k109 : a.tmps.getD 109 undef = .bool true := hD 1 109 (by kernel_rfl)
              refine plan_free rfl ?_
              refine plan_value ex_move ⟨_, rfl, hS, Grows.refl _, ?_⟩
              exact k109
            · intro a W hS hE hD
              obtain ⟨e3, e4, _⟩ := hE
              have k110 : a.tmps.getD 110 undef = .bool true := hD 2 110 (by kernel_rfl)
              refine plan_want rfl (by kernel_rfl) k110 ?_
              refine plan_value (ex_load e4 W1.out (hS.nth 1 rfl)) ⟨_, rfl, hS, Grows.refl _, rfl⟩
            · intro a W hS hE hD
              obtain ⟨e3, e4, _⟩ := hE
              have k110 : a.tmps.getD 110 undef = .bool true := hD 2 110 (by kernel_rfl)
              have k111 : a.tmps.getD 111 undef = .agg (vecA L1) := hD 3 111 (by kernel_rfl)
              refine plan_want rfl (by kernel_rfl) k110 ?_
              refine plan_call (f := 20) (args := #[a.tmps.getD 111 undef]) (by kernel_rfl) ?_
              rw [k111]
              refine (may_any L1 W1.out W).mono ?_
              rintro e W2 ⟨rfl, hb⟩
              refine ⟨_, rfl, _, rfl, hS.next hb, hb, ?_⟩
              show _ = _
              rw [em1.out]
            · intro a W hS hE hD
              obtain ⟨e3, e4, _⟩ := hE
              have k110 : a.tmps.getD 110 undef = .bool true := hD 2 110 (by kernel_rfl)
              have k112 : a.tmps.getD 112 undef = .bool true := hD 4 112 (by kernel_rfl)
              refine plan_free rfl ?_
              refine plan_value (v := .bool true) (w' := W) (by go_simp) ⟨_, rfl, hS, Grows.refl _, rfl⟩
            · intro a W hS hE hD
              obtain ⟨e3, e4, _⟩ := hE
              have k113 : a.tmps.getD 113 undef = .bool true := hD 5 113 (by kernel_rfl)
              refine plan_free rfl ?_
              refine plan_value ex_move ⟨_, rfl, hS, Grows.refl _, ?_⟩
              exact k113
            · intro a W hS hE hD
              obtain ⟨e3, e4, _⟩ := hE
              have k114 : a.tmps.getD 114 undef = .bool true := hD 6 114 (by kernel_rfl)
              refine plan_want rfl (by kernel_rfl) k114 ?_
              refine plan_value (ex_load e3 W0.out (hS.nth 0 rfl)) ⟨_, rfl, hS, Grows.refl _, rfl⟩
            · intro a W hS hE hD
              obtain ⟨e3, e4, _⟩ := hE
              have k114 : a.tmps.getD 114 undef = .bool true := hD 6 114 (by kernel_rfl)
              refine plan_want rfl (by kernel_rfl) k114 ?_
              refine plan_value (ex_load e4 W1.out (hS.nth 1 rfl)) ⟨_, rfl, hS, Grows.refl _, rfl⟩
            · intro a W hS hE hD
              obtain ⟨e3, e4, _⟩ := hE
              have k114 : a.tmps.getD 114 undef = .bool true := hD 6 114 (by kernel_rfl)
              have k115 : a.tmps.getD 115 undef = .agg (vecA L0) := hD 7 115 (by kernel_rfl)
              have k116 : a.tmps.getD 116 undef = .agg (vecA L1) := hD 8 116 (by kernel_rfl)
              refine plan_want rfl (by kernel_rfl) k114 ?_
              refine plan_call (f := 22) (args := #[a.tmps.getD 115 undef, a.tmps.getD 116 undef]) (by kernel_rfl) ?_
              rw [k115, k116]
              refine (less_any L0 L1 W0.out W1.out W).mono ?_
              rintro e W2 ⟨rfl, hb⟩
              refine ⟨_, rfl, _, rfl, hS.next hb, hb, ?_⟩
              show _ = _
              rw [et.out]
            · intro a W hS hE hD
              obtain ⟨e3, e4, _⟩ := hE
              have k114 : a.tmps.getD 114 undef = .bool true := hD 6 114 (by kernel_rfl)
              refine plan_want rfl (by kernel_rfl) k114 ?_
              refine plan_value (ex_load e4 W1.out (hS.nth 1 rfl)) ⟨_, rfl, hS, Grows.refl _, rfl⟩
            · intro a W hS hE hD
              obtain ⟨e3, e4, _⟩ := hE
              have k114 : a.tmps.getD 114 undef = .bool true := hD 6 114 (by kernel_rfl)
              refine plan_want rfl (by kernel_rfl) k114 ?_
              refine plan_value (ex_load e3 W0.out (hS.nth 0 rfl)) ⟨_, rfl, hS, Grows.refl _, rfl⟩
            · intro a W hS hE hD
              obtain ⟨e3, e4, _⟩ := hE
              have k114 : a.tmps.getD 114 undef = .bool true := hD 6 114 (by kernel_rfl)
              have k118 : a.tmps.getD 118 undef = .agg (vecA L1) := hD 10 118 (by kernel_rfl)
              have k119 : a.tmps.getD 119 undef = .agg (vecA L0) := hD 11 119 (by kernel_rfl)
              refine plan_want rfl (by kernel_rfl) k114 ?_
              refine plan_call (f := 26) (args := #[a.tmps.getD 118 undef, a.tmps.getD 119 undef]) (by kernel_rfl) ?_
              rw [k118, k119]
              refine (lack_any L1 L0 W1.out W0.out U0.out W).mono ?_
              rintro e W2 ⟨rfl, hb⟩
              refine ⟨_, rfl, _, rfl, hS.next hb, hb, ?_⟩
              show _ = _
              rw [ey.out, hY.out]
            · intro a W hS hE hD
              obtain ⟨e3, e4, _⟩ := hE
              have k114 : a.tmps.getD 114 undef = .bool true := hD 6 114 (by kernel_rfl)
              have k120 : a.tmps.getD 120 undef = .int .u64 Y := hD 12 120 (by kernel_rfl)
              refine plan_want rfl (by kernel_rfl) k114 ?_
              refine plan_value (v := .bool true) (w' := W) (by go_simp) ⟨_, rfl, hS, Grows.refl _, rfl⟩
            · intro a W hS hE hD
              obtain ⟨e3, e4, _⟩ := hE
              have k114 : a.tmps.getD 114 undef = .bool true := hD 6 114 (by kernel_rfl)
              have k117 : a.tmps.getD 117 undef = .bool true := hD 9 117 (by kernel_rfl)
              have k121 : a.tmps.getD 121 undef = .bool true := hD 13 121 (by kernel_rfl)
              refine plan_want rfl (by kernel_rfl) k114 ?_
              refine plan_value (v := .bool false) (w' := W) (by go_simp) ⟨_, rfl, hS, Grows.refl _, rfl⟩
            · intro a W hS hE hD
              obtain ⟨e3, e4, _⟩ := hE
              have k114 : a.tmps.getD 114 undef = .bool true := hD 6 114 (by kernel_rfl)
              have k122 : a.tmps.getD 122 undef = .bool false := hD 14 122 (by kernel_rfl)
              refine plan_free rfl ?_
              refine plan_value (v := .bool false) (w' := W) (by go_simp) ⟨_, rfl, hS, Grows.refl _, rfl⟩
          · intro f w9 V9 hE
            have f123 : f 123 = .bool false := Ends.get hE 15 _ rfl 123 rfl
            clear hE
            simp only [setAll, List.setIfInBounds_toArray, List.set_cons_zero, List.set_cons_succ]
            rw [f123]; clear f123
            clear V8
            go_wp2_with fail
            (refine (vworks_any _).mono ?_)
            rintro e w10 ⟨rfl, hb⟩
            have hbel := (V9.next hb).bel
            clear V9 hb
            go_wp2_with fail
            go_ret
            exact ⟨rfl, hbel⟩
        · subst hh hk ht
          clear HE
          refine wp_region_plan (fun W => Vs w W [(w.heap.size, L0), (w.heap.size + 1, L1), (w.heap.size + 1 + 1, L2), (w2.heap.size, J), (w4.heap.size, M)]) Grows [IsV (.agg (vecA L0)), IsV (.bool true), IsV (.bool true), IsV (.agg (vecA L1)), IsV (.bool true), IsV (.bool true), IsV (.bool true), IsV (.agg (vecA L0)), IsV (.agg (vecA L1)), IsV (.bool false), IsV (.agg (vecA L1)), IsV (.agg (vecA L0)), IsV (.int .u64 Y), IsV (.bool false), IsV (.bool false), IsV (.bool false)] ([(3, .pointer (some ⟨w.heap.size, 0, none⟩)), (4, .pointer (some ⟨w.heap.size + 1, 0, none⟩))] : List (Nat × Value)) (⟨rfl, rfl, trivial⟩) (by kernel_rfl) (n := 125) (by kernel_rfl) rfl (by kernel_rfl) (Vs.drew V8) Grows.refl (StabAll.get ?_) ?_ ?_
          · repeat (first | exact trivial | refine ⟨stab_c _, ?_⟩ | refine ⟨stab_two _ _, ?_⟩ | refine ⟨fun _ _ _ _ _ _ _ => trivial, ?_⟩)
          · refine ⟨?_, ⟨?_, ⟨?_, ⟨?_, ⟨?_, ⟨?_, ⟨?_, ⟨?_, ⟨?_, ⟨?_, ⟨?_, ⟨?_, ⟨?_, ⟨?_, ⟨?_, ⟨?_, trivial⟩⟩⟩⟩⟩⟩⟩⟩⟩⟩⟩⟩⟩⟩⟩⟩
            · intro a W hS hE hD
              obtain ⟨e3, e4, _⟩ := hE
              refine plan_free rfl ?_
              refine plan_value (ex_load e3 W0.out (hS.nth 0 rfl)) ⟨_, rfl, hS, Grows.refl _, rfl⟩
            · intro a W hS hE hD
              obtain ⟨e3, e4, _⟩ := hE
              have k108 : a.tmps.getD 108 undef = .agg (vecA L0) := hD 0 108 (by kernel_rfl)
              refine plan_free rfl ?_
              refine plan_call (f := 20) (args := #[a.tmps.getD 108 undef]) (by kernel_rfl) ?_
              rw [k108]
              refine (may_any L0 W0.out W).mono ?_
              rintro e W2 ⟨rfl, hb⟩
              refine ⟨_, rfl, _, rfl, hS.next hb, hb, ?_⟩
              show _ = _
              rw [em0.out]
            · intro a W hS hE hD
              obtain ⟨e3, e4, _⟩ := hE
              have k109 : a.tmps.getD 109 undef = .bool true := hD 1 109 (by kernel_rfl)
              refine plan_free rfl ?_
              refine plan_value ex_move ⟨_, rfl, hS, Grows.refl _, ?_⟩
              exact k109
            · intro a W hS hE hD
              obtain ⟨e3, e4, _⟩ := hE
              have k110 : a.tmps.getD 110 undef = .bool true := hD 2 110 (by kernel_rfl)
              refine plan_want rfl (by kernel_rfl) k110 ?_
              refine plan_value (ex_load e4 W1.out (hS.nth 1 rfl)) ⟨_, rfl, hS, Grows.refl _, rfl⟩
            · intro a W hS hE hD
              obtain ⟨e3, e4, _⟩ := hE
              have k110 : a.tmps.getD 110 undef = .bool true := hD 2 110 (by kernel_rfl)
              have k111 : a.tmps.getD 111 undef = .agg (vecA L1) := hD 3 111 (by kernel_rfl)
              refine plan_want rfl (by kernel_rfl) k110 ?_
              refine plan_call (f := 20) (args := #[a.tmps.getD 111 undef]) (by kernel_rfl) ?_
              rw [k111]
              refine (may_any L1 W1.out W).mono ?_
              rintro e W2 ⟨rfl, hb⟩
              refine ⟨_, rfl, _, rfl, hS.next hb, hb, ?_⟩
              show _ = _
              rw [em1.out]
            · intro a W hS hE hD
              obtain ⟨e3, e4, _⟩ := hE
              have k110 : a.tmps.getD 110 undef = .bool true := hD 2 110 (by kernel_rfl)
              have k112 : a.tmps.getD 112 undef = .bool true := hD 4 112 (by kernel_rfl)
              refine plan_free rfl ?_
              refine plan_value (v := .bool true) (w' := W) (by go_simp) ⟨_, rfl, hS, Grows.refl _, rfl⟩
            · intro a W hS hE hD
              obtain ⟨e3, e4, _⟩ := hE
              have k113 : a.tmps.getD 113 undef = .bool true := hD 5 113 (by kernel_rfl)
              refine plan_free rfl ?_
              refine plan_value ex_move ⟨_, rfl, hS, Grows.refl _, ?_⟩
              exact k113
            · intro a W hS hE hD
              obtain ⟨e3, e4, _⟩ := hE
              have k114 : a.tmps.getD 114 undef = .bool true := hD 6 114 (by kernel_rfl)
              refine plan_want rfl (by kernel_rfl) k114 ?_
              refine plan_value (ex_load e3 W0.out (hS.nth 0 rfl)) ⟨_, rfl, hS, Grows.refl _, rfl⟩
            · intro a W hS hE hD
              obtain ⟨e3, e4, _⟩ := hE
              have k114 : a.tmps.getD 114 undef = .bool true := hD 6 114 (by kernel_rfl)
              refine plan_want rfl (by kernel_rfl) k114 ?_
              refine plan_value (ex_load e4 W1.out (hS.nth 1 rfl)) ⟨_, rfl, hS, Grows.refl _, rfl⟩
            · intro a W hS hE hD
              obtain ⟨e3, e4, _⟩ := hE
              have k114 : a.tmps.getD 114 undef = .bool true := hD 6 114 (by kernel_rfl)
              have k115 : a.tmps.getD 115 undef = .agg (vecA L0) := hD 7 115 (by kernel_rfl)
              have k116 : a.tmps.getD 116 undef = .agg (vecA L1) := hD 8 116 (by kernel_rfl)
              refine plan_want rfl (by kernel_rfl) k114 ?_
              refine plan_call (f := 22) (args := #[a.tmps.getD 115 undef, a.tmps.getD 116 undef]) (by kernel_rfl) ?_
              rw [k115, k116]
              refine (less_any L0 L1 W0.out W1.out W).mono ?_
              rintro e W2 ⟨rfl, hb⟩
              refine ⟨_, rfl, _, rfl, hS.next hb, hb, ?_⟩
              show _ = _
              rw [et.out]
            · intro a W hS hE hD
              obtain ⟨e3, e4, _⟩ := hE
              have k114 : a.tmps.getD 114 undef = .bool true := hD 6 114 (by kernel_rfl)
              refine plan_want rfl (by kernel_rfl) k114 ?_
              refine plan_value (ex_load e4 W1.out (hS.nth 1 rfl)) ⟨_, rfl, hS, Grows.refl _, rfl⟩
            · intro a W hS hE hD
              obtain ⟨e3, e4, _⟩ := hE
              have k114 : a.tmps.getD 114 undef = .bool true := hD 6 114 (by kernel_rfl)
              refine plan_want rfl (by kernel_rfl) k114 ?_
              refine plan_value (ex_load e3 W0.out (hS.nth 0 rfl)) ⟨_, rfl, hS, Grows.refl _, rfl⟩
            · intro a W hS hE hD
              obtain ⟨e3, e4, _⟩ := hE
              have k114 : a.tmps.getD 114 undef = .bool true := hD 6 114 (by kernel_rfl)
              have k118 : a.tmps.getD 118 undef = .agg (vecA L1) := hD 10 118 (by kernel_rfl)
              have k119 : a.tmps.getD 119 undef = .agg (vecA L0) := hD 11 119 (by kernel_rfl)
              refine plan_want rfl (by kernel_rfl) k114 ?_
              refine plan_call (f := 26) (args := #[a.tmps.getD 118 undef, a.tmps.getD 119 undef]) (by kernel_rfl) ?_
              rw [k118, k119]
              refine (lack_any L1 L0 W1.out W0.out U0.out W).mono ?_
              rintro e W2 ⟨rfl, hb⟩
              refine ⟨_, rfl, _, rfl, hS.next hb, hb, ?_⟩
              show _ = _
              rw [ey.out, hY.out]
            · intro a W hS hE hD
              obtain ⟨e3, e4, _⟩ := hE
              have k114 : a.tmps.getD 114 undef = .bool true := hD 6 114 (by kernel_rfl)
              have k120 : a.tmps.getD 120 undef = .int .u64 Y := hD 12 120 (by kernel_rfl)
              refine plan_want rfl (by kernel_rfl) k114 ?_
              refine plan_value (v := .bool false) (w' := W) (by go_simp) ⟨_, rfl, hS, Grows.refl _, rfl⟩
            · intro a W hS hE hD
              obtain ⟨e3, e4, _⟩ := hE
              have k114 : a.tmps.getD 114 undef = .bool true := hD 6 114 (by kernel_rfl)
              have k117 : a.tmps.getD 117 undef = .bool false := hD 9 117 (by kernel_rfl)
              have k121 : a.tmps.getD 121 undef = .bool false := hD 13 121 (by kernel_rfl)
              refine plan_want rfl (by kernel_rfl) k114 ?_
              refine plan_value (v := .bool false) (w' := W) (by go_simp) ⟨_, rfl, hS, Grows.refl _, rfl⟩
            · intro a W hS hE hD
              obtain ⟨e3, e4, _⟩ := hE
              have k114 : a.tmps.getD 114 undef = .bool true := hD 6 114 (by kernel_rfl)
              have k122 : a.tmps.getD 122 undef = .bool false := hD 14 122 (by kernel_rfl)
              refine plan_free rfl ?_
              refine plan_value (v := .bool false) (w' := W) (by go_simp) ⟨_, rfl, hS, Grows.refl _, rfl⟩
          · intro f w9 V9 hE
            have f123 : f 123 = .bool false := Ends.get hE 15 _ rfl 123 rfl
            clear hE
            simp only [setAll, List.setIfInBounds_toArray, List.set_cons_zero, List.set_cons_succ]
            rw [f123]; clear f123
            clear V8
            go_wp2_with fail
            (refine (vworks_any _).mono ?_)
            rintro e w10 ⟨rfl, hb⟩
            have hbel := (V9.next hb).bel
            clear V9 hb
            go_wp2_with fail
            go_ret
            exact ⟨rfl, hbel⟩

set_option maxRecDepth 100000 in
theorem lifted (os : Os) (started : os.Started) (H : Type) (enc : TypeId × Value → H) :
    ReturnsInHanded {} Try.checked os 7 .any (Rows.vectorLatticeSpec.pre6 enc Try.prog Try.f7 Rows.vectorLatticeRow.domain false) (Rows.vectorLatticeSpec.post enc Try.prog Try.f7 false true false false) := by
  refine returnsInHanded_of_change (C := Try.checked) own started (by kernel_rfl) Try.func7
    (ChangeSpec.witness6 (enc := enc) (C := Try.checked) false ⟨#[], #[.agg #[.int .u64 0, .int .u64 0, .int .u64 0, .int .u64 0, .int .u64 0, .int .u64 0], .agg #[.int .u64 0, .int .u64 0, .int .u64 0, .int .u64 0, .int .u64 0, .int .u64 0], .agg #[.int .u64 0, .int .u64 0, .int .u64 0, .int .u64 0, .int .u64 0, .int .u64 0]], []⟩ 8 (by kernel_rfl) (by kernel_rfl) (by kernel_rfl) (by kernel_rfl)) ?_
  intro W base args ds gs before hval0 hW hcnd _
  have hval : ∀ (j : Nat) t v, Try.f7.params[j]? = some t → args[j]? = some v → Value.okWide Try.prog W .any base t v := hval0
  have hW' := hW
  obtain ⟨p, q, hA0, hV, rfl, hfz, hnd⟩ := hW
  have hA : DataW.TrodAll enc Try.prog W 0 (fun _ => true) true Try.f7.params.toList args.toList ds p := hA0
  rw [Try.params7] at hA hval
  obtain ⟨v0, vs0, d0, ds0, p0, q0, hargs, rfl, rfl, h0, r0⟩ := trodAll_cons hA
  obtain ⟨v1, vs1, d1, ds1, p1, q1, rfl, rfl, rfl, h1, r1⟩ := trodAll_cons r0
  obtain ⟨v2, vs2, d2, ds2, p2, q2, rfl, rfl, rfl, h2, r2⟩ := trodAll_cons r1
  obtain ⟨rfl, rfl, rfl⟩ := trodAll_nil r2
  obtain rfl : args = #[v0, v1, v2] := by cases args; simp_all
  obtain ⟨rfl, rfl⟩ := trodVars_none hV
  have k0 := h0
  have lt0 : ∀ x ∈ p0, x.block < W.heap.size := by obtain ⟨m, hm⟩ := k0; exact DataW.trod_lt m _ _ _ hm
  obtain ⟨L0, rfl, w0, u0⟩ := open_vec (hval 0 24 v0 rfl rfl) h0
  have k1 := h1
  have lt1 : ∀ x ∈ p1, x.block < W.heap.size := by obtain ⟨m, hm⟩ := k1; exact DataW.trod_lt m _ _ _ hm
  obtain ⟨L1, rfl, w1, u1⟩ := open_vec (hval 1 24 v1 rfl rfl) h1
  have k2 := h2
  have lt2 : ∀ x ∈ p2, x.block < W.heap.size := by obtain ⟨m, hm⟩ := k2; exact DataW.trod_lt m _ _ _ hm
  obtain ⟨L2, rfl, w2, u2⟩ := open_vec (hval 2 24 v2 rfl rfl) h2
  clear hA0 hval0
  refine (walk L0 L1 L2 W w0 u0 w1 u1 w2 u2).mono fun e W' ⟨he, bel⟩ => ?_
  subst he
  exact ⟨_, rfl, _, _, _, [], _, [], hW', trodAll_mk1 (shut_bool Try.underlying4 _), (trodAll_cons_mk (Below.trod laidOut (by kernel_rfl) (of_decide_eq_true (by kernel_rfl)) k0 bel lt0) (trodAll_cons_mk (Below.trod laidOut (by kernel_rfl) (of_decide_eq_true (by kernel_rfl)) k1 bel lt1) (trodAll_cons_mk (Below.trod laidOut (by kernel_rfl) (of_decide_eq_true (by kernel_rfl)) k2 bel lt2) trodAll_mk0))), rfl, bel.frame _, fun h => by cases h⟩

theorem over : Rows.vectorLatticeRow.holds Try.pinned (OpenSpec.ofChange Rows.vectorLatticeSpec) :=
  OpenClaim.holds_of_wide 7 Try.f7 rfl rfl rfl rfl rfl rfl rfl ⟨rfl, rfl, rfl, rfl, rfl⟩ rfl rfl rfl rfl rfl (by kernel_rfl) Try.func7 (by kernel_rfl)
    (of_decide_eq_true (by kernel_rfl)) (by unfold Func.isWrapper; first | (rw [if_pos (by decide +kernel)]; kernel_rfl) | (rw [if_neg (by decide +kernel)]; exact ⟨rfl, rfl⟩))
    (fun os started H enc _ => lifted os started H enc)

theorem proved : Rows.VectorLatticeSaid := over
#print axioms proved
end Go.Proofs.Ytdliklkfhakmhaa.vectorLattice
