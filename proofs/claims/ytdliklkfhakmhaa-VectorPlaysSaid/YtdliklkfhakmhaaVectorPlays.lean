/-
  For every two vectors, every slice of vectors, every number of a region and every number of an event: which may be, which is less, the greatest and the least numbers, what is known and what comes next are the document's; no further conditions.
-/
import Derived.Test.YtdliklkfhakmhaaRows
import Derived.WalkKit
import Derived.ProofKit
import Derived.OpenShut
import Derived.ShutString
import Derived.ChangeOld
import Derived.Below
import Derived.Test.YtdliklkfhakmhaaVecU
import Derived.Test.YtdliklkfhakmhaaVecO
import Derived.Deep.DeepCutAuto
namespace Go.Proofs.Ytdliklkfhakmhaa.vectorPlays
open Go.ChangeShapes Go.WideShapes Go.ChangeAt Go.RowKit
open Go.ChangeMaps (open_string shut_string)
set_option linter.unusedVariables false

theorem own : ownKnob Try.prog.godebug = none := by kernel_rfl
theorem laidOut : laidOutB Try.prog = true := by kernel_rfl

attribute [local go_sem ↓] exec_loadV exec_storeV exec_buildV Go.wp_at_zero Go.wp_at_succ

set_option maxRecDepth 100000 in
set_option maxHeartbeats 4000000 in
theorem walk (L0 : List Nat) (L1 : List Nat) (A2 : Option Addr) (l2 : List (List Nat)) (c2 : Nat) (a3 : Int) (a4 : Int) (w : World) (w0 : L0.length = 6) (u0 : ∀ x ∈ L0, x ≤ 18446744073709551615) (w1 : L1.length = 6) (u1 : ∀ x ∈ L1, x ≤ 18446744073709551615) (w2 : Vecs w w.heap.size A2 l2) (u2 : ∀ L ∈ l2, L.length = 6 ∧ ∀ x ∈ L, x ≤ 18446744073709551615) (g2 : l2.length ≤ c2) (m2 : c2 ≤ maxLen) (w3 : (Lit.int .i64 a3).wf = true) (w4 : (Lit.int .u64 a4).wf = true) :
    Calls Try.prog 3 #[.agg (vecA L0), .agg (vecA L1), .slice A2 l2.length c2, .int .i64 a3, .int .u64 a4] w fun e w' => e = .returned (.bool true) ∧ Below w.heap.size w w' := by
  obtain ⟨n2, hn2⟩ : ∃ n, Hid (n = l2.length) := ⟨_, Lib.hid rfl⟩
  obtain ⟨s, rfl, _⟩ := wf_nat w4
  have W0 := Lib.hid w0
  have W1 := Lib.hid w1
  have D2 := Lib.hid w2
  have S2 := Lib.hid (fun v hv => (u2 v hv).1 : ∀ v ∈ l2, v.length = 6)
  have U1 := Lib.hid u1
  have hzw : Calls Try.prog 3 #[.agg (vecA L0), .agg (vecA L1), .slice A2 n2 c2, .int .i64 a3, .int .u64 (s : Int)] w fun e w' => e = .returned (.bool true) ∧ Below w.heap.size w w' := by
    clear w0 w1 w2 w3 w4 u0 u1 u2 g2 m2
    have z0 := ((Below.refl w.heap.size w).alloc (Nat.le_refl _) (.cells (vecA L0) 24)).alloc (by simp) (.cells (vecA L1) 24)
    by_cases h50 : 50 < n2
    · have h1 : (50 : Int) < (n2 : Int) := by omega
      go_enter Try.func3, Try.ntmps3
      go_wp2_with fail
      refine (vworks_any _).mono ?_
      rintro e w2 ⟨rfl, hb2⟩
      have zf := z0.trans (hb2.mono z0.size)
      go_wp2_with fail
      go_ret
      exact ⟨rfl, zf⟩
    · have h1 : ¬ (50 : Int) < (n2 : Int) := by omega
      obtain ⟨p, ep⟩ : ∃ p, Hid (nextV L0 a3 = p) := ⟨_, Lib.hid rfl⟩
      obtain ⟨pn, pe⟩ := p
      obtain ⟨x, ex⟩ : ∃ p, Hid (withV L0 a3 s = p) := ⟨_, Lib.hid rfl⟩
      have HM6 : Hid (x.1.length = 6) := by show _ = _; rw [← ex.out]; exact withV_len L0 W0.out a3 s
      obtain ⟨M, xe⟩ := x
      have HM : Hid (M.length = 6) := HM6.out
      clear HM6
      obtain ⟨t1, et1⟩ : ∃ t, Hid (mayV L0 = t) := ⟨_, Lib.hid rfl⟩
      obtain ⟨t2, et2⟩ : ∃ t, Hid (lessV L0 L1 = t) := ⟨_, Lib.hid rfl⟩
      obtain ⟨t3, et3⟩ : ∃ t, Hid (hasZ L0 a3 s = t) := ⟨_, Lib.hid rfl⟩
      obtain ⟨q, eq⟩ : ∃ q : Int, Hid (((lackV L0 L1 : Nat) : Int) = q) := ⟨_, Lib.hid rfl⟩
      have NX : Hid (∀ W, Calls Try.prog 16 #[.agg (vecA L0), .int .i64 a3] W fun e w' => e = .returned (.tuple #[.int .u64 (pn : Int), .int .i64 pe]) ∧ Below W.heap.size W w') := by
        intro W; have := next_all L0 W0.out a3 W; rw [ep.out] at this; exact this
      have RNX : Hid (∀ W, Calls Try.prog 17 #[.agg (vecA L0), .int .i64 a3] W fun e w' => e = .returned (.tuple #[.int .u64 (pn : Int), .int .i64 pe]) ∧ Below W.heap.size W w') := by
        intro W; have := rnext_all L0 W0.out a3 W; rw [ep.out] at this; exact this
      have WI : Hid (∀ W, Calls Try.prog 18 #[.agg (vecA L0), .int .i64 a3, .int .u64 (s : Int)] W fun e w' => e = .returned (.tuple #[.agg (vecA M), .int .i64 xe]) ∧ Below W.heap.size W w') := by
        intro W; have := with_all L0 W0.out a3 s W; rw [ex.out] at this; exact this
      have RWI : Hid (∀ W, Calls Try.prog 19 #[.agg (vecA L0), .int .i64 a3, .int .u64 (s : Int)] W fun e w' => e = .returned (.tuple #[.agg (vecA M), .int .i64 xe]) ∧ Below W.heap.size W w') := by
        intro W; have := rwith_all L0 W0.out a3 s W; rw [ex.out] at this; exact this
      have HA : Hid (∀ W, Calls Try.prog 24 #[.agg (vecA L0), .int .i64 a3, .int .u64 (s : Int)] W fun e w' => e = .returned (.bool t3) ∧ Below W.heap.size W w') := by
        intro W; have := has_all L0 W0.out a3 s W; rw [et3.out] at this; exact this
      have RHA : Hid (∀ W, Calls Try.prog 25 #[.agg (vecA L0), .int .i64 a3, .int .u64 (s : Int)] W fun e w' => e = .returned (.bool t3) ∧ Below W.heap.size W w') := by
        intro W; have := rhas_all L0 W0.out a3 s W; rw [et3.out] at this; exact this
      obtain ⟨σ, eσ⟩ : ∃ σ : Int, Hid ((s : Int) = σ) := ⟨_, Lib.hid rfl⟩
      obtain ⟨π, eπ⟩ : ∃ π : Int, Hid ((pn : Int) = π) := ⟨_, Lib.hid rfl⟩
      rw [eσ.out] at WI RWI HA RHA
      rw [eσ.out]
      rw [eπ.out] at NX RNX
      clear eσ eπ ep ex et3
      have qM : ∀ W, (Op.equalIn 10000 24 (.agg (vecA M)) (.agg (vecA M))).run Try.prog W = .ok true W := vec_same HM.out rfl
      have V0 := ((Vs.nil w).new L0 _ rfl).new L1 _ rfl
      rw [show (w.alloc (.cells (vecA L0) 24)).heap.size = w.heap.size + 1 by simp] at V0
      have V1 : Vs w ((w.alloc (.cells (vecA L0) 24)).alloc (.cells (vecA L1) 24)) [(w.heap.size, L0), (w.heap.size + 1, L1)] := V0
      have r0 := Vs.load (w := w) (l := [(w.heap.size, L0), (w.heap.size + 1, L1)]) 0 rfl W0.out
      have sM : ∀ W : World, (storeV (.pointer (some ⟨W.heap.size, 0, none⟩)) (.agg (vecA M))).run Try.prog (W.alloc (.cells #[.int .u64 0, .int .u64 0, .int .u64 0, .int .u64 0, .int .u64 0, .int .u64 0] 24)) = .ok () (W.alloc (.cells (vecA M) 24)) := fun W => run_storeV_new HM.out
      clear V0 z0
      go_enter Try.func3, Try.ntmps3
      go_wp2_with fail
      refine (NX.out _).mono ?_
      rintro e w2 ⟨rfl, hb⟩
      have V2 := V1.next hb
      clear V1 hb
      go_wp2_with fail
      refine (RNX.out _).mono ?_
      rintro e w3 ⟨rfl, hb⟩
      have V3 := V2.next hb
      clear V2 hb
      go_wp2_with fail
      refine (WI.out _).mono ?_
      rintro e w4 ⟨rfl, hb⟩
      have V4 := V3.next hb
      have V5 : Vs w (w4.alloc (.cells (vecA M) 24)) [(w.heap.size, L0), (w.heap.size + 1, L1), (w4.heap.size, M)] := V4.new M _ rfl
      have r0 := Vs.load (w := w) (l := [(w.heap.size, L0), (w.heap.size + 1, L1), (w4.heap.size, M)]) 0 rfl W0.out
      clear V3 V4 hb
      go_wp2_with fail
      refine (RWI.out _).mono ?_
      rintro e w6 ⟨rfl, hb⟩
      have V6 := V5.next hb
      have V7 : Vs w (w6.alloc (.cells (vecA M) 24)) [(w.heap.size, L0), (w.heap.size + 1, L1), (w4.heap.size, M), (w6.heap.size, M)] := V6.new M _ rfl
      clear V5 V6 hb r0
      go_wp2_with fail
      clear sM r0
      --PLAN--
      refine wp_region_plan (fun W => Vs w W [(w.heap.size, L0), (w.heap.size + 1, L1), (w4.heap.size, M), (w6.heap.size, M)]) Grows [IsV (.int .u64 π), IsV (.int .u64 π), IsV (.bool false), IsV (.bool false), IsV (.int .i64 pe), IsV (.int .i64 pe), IsV (.bool false), IsV (.bool false), IsV (.bool false), IsV (.agg (vecA M)), IsV (.agg (vecA M)), IsV (.bool false), IsV (.bool false), IsV (.bool false), IsV (.int .i64 xe), IsV (.int .i64 xe), IsV (.bool false), IsV (.bool false), IsV (.bool false), IsV (.agg (vecA L0)), IsV (.bool t1), IsV (.agg (vecA L0)), IsV (.bool t1), IsV (.bool false), IsV (.bool false), IsV (.bool false), IsV (.agg (vecA L0)), IsV (.agg (vecA L1)), IsV (.bool t2), IsV (.agg (vecA L0)), IsV (.agg (vecA L1)), IsV (.bool t2), IsV (.bool false), IsV (.bool false), IsV (.bool false), IsV (.agg (vecA L0)), IsV (.int .i64 a3), IsV (.int .u64 σ), IsV (.bool t3), IsV (.agg (vecA L0)), IsV (.int .i64 a3), IsV (.int .u64 σ), IsV (.bool t3), IsV (.bool false), IsV (.bool false), IsV (.bool false), IsV (.agg (vecA L0)), IsV (.agg (vecA L1)), IsV (.int .u64 q), IsV (.agg (vecA L0)), IsV (.agg (vecA L1)), IsV (.int .u64 q), IsV (.bool false), IsV (.bool false)] ([(3, .int .i64 a3), (4, .int .u64 σ), (5, .pointer (some ⟨w.heap.size, 0, none⟩)), (6, .pointer (some ⟨w.heap.size + 1, 0, none⟩)), (11, .int .u64 π), (12, .int .i64 pe), (13, .int .u64 π), (14, .int .i64 pe), (15, .pointer (some ⟨w4.heap.size, 0, none⟩)), (16, .int .i64 xe), (17, .pointer (some ⟨w6.heap.size, 0, none⟩)), (18, .int .i64 xe)] : List (Nat × Value)) (⟨rfl, rfl, rfl, rfl, rfl, rfl, rfl, rfl, rfl, rfl, rfl, rfl, trivial⟩) (by kernel_rfl) (n := 141) (by kernel_rfl) rfl (by kernel_rfl) (Vs.drew V7) Grows.refl (StabAll.get ?_) ?_ ?_
      · repeat (first | exact trivial | refine ⟨stab_c _, ?_⟩ | refine ⟨stab_two _ _, ?_⟩ | refine ⟨fun _ _ _ _ _ _ _ => trivial, ?_⟩)
      · refine ⟨?_, ⟨?_, ⟨?_, ⟨?_, ⟨?_, ⟨?_, ⟨?_, ⟨?_, ⟨?_, ⟨?_, ⟨?_, ⟨?_, ⟨?_, ⟨?_, ⟨?_, ⟨?_, ⟨?_, ⟨?_, ⟨?_, ⟨?_, ⟨?_, ⟨?_, ⟨?_, ⟨?_, ⟨?_, ⟨?_, ⟨?_, ⟨?_, ⟨?_, ⟨?_, ⟨?_, ⟨?_, ⟨?_, ⟨?_, ⟨?_, ⟨?_, ⟨?_, ⟨?_, ⟨?_, ⟨?_, ⟨?_, ⟨?_, ⟨?_, ⟨?_, ⟨?_, ⟨?_, ⟨?_, ⟨?_, ⟨?_, ⟨?_, ⟨?_, ⟨?_, ⟨?_, ⟨?_, trivial⟩⟩⟩⟩⟩⟩⟩⟩⟩⟩⟩⟩⟩⟩⟩⟩⟩⟩⟩⟩⟩⟩⟩⟩⟩⟩⟩⟩⟩⟩⟩⟩⟩⟩⟩⟩⟩⟩⟩⟩⟩⟩⟩⟩⟩⟩⟩⟩⟩⟩⟩⟩⟩⟩
        · intro a W hS hE hD
          obtain ⟨e3, e4, e5, e6, e11, e12, e13, e14, e15, e16, e17, e18, _⟩ := hE
          refine plan_free rfl ?_
          refine plan_value ex_move ⟨_, rfl, hS, Grows.refl _, ?_⟩
          exact e11
        · intro a W hS hE hD
          obtain ⟨e3, e4, e5, e6, e11, e12, e13, e14, e15, e16, e17, e18, _⟩ := hE
          refine plan_free rfl ?_
          refine plan_value ex_move ⟨_, rfl, hS, Grows.refl _, ?_⟩
          exact e13
        · intro a W hS hE hD
          obtain ⟨e3, e4, e5, e6, e11, e12, e13, e14, e15, e16, e17, e18, _⟩ := hE
          have k51 : a.tmps.getD 51 undef = .int .u64 π := hD 0 51 (by kernel_rfl)
          have k52 : a.tmps.getD 52 undef = .int .u64 π := hD 1 52 (by kernel_rfl)
          refine plan_free rfl ?_
          refine plan_value (v := .bool false) (w' := W) (by go_simp) ⟨_, rfl, hS, Grows.refl _, rfl⟩
        · intro a W hS hE hD
          obtain ⟨e3, e4, e5, e6, e11, e12, e13, e14, e15, e16, e17, e18, _⟩ := hE
          have k53 : a.tmps.getD 53 undef = .bool false := hD 2 53 (by kernel_rfl)
          refine plan_free rfl ?_
          refine plan_value ex_move ⟨_, rfl, hS, Grows.refl _, ?_⟩
          exact k53
        · intro a W hS hE hD
          obtain ⟨e3, e4, e5, e6, e11, e12, e13, e14, e15, e16, e17, e18, _⟩ := hE
          have k54 : a.tmps.getD 54 undef = .bool false := hD 3 54 (by kernel_rfl)
          refine plan_want rfl (by kernel_rfl) k54 ?_
          refine plan_value ex_move ⟨_, rfl, hS, Grows.refl _, ?_⟩
          exact e12
        · intro a W hS hE hD
          obtain ⟨e3, e4, e5, e6, e11, e12, e13, e14, e15, e16, e17, e18, _⟩ := hE
          have k54 : a.tmps.getD 54 undef = .bool false := hD 3 54 (by kernel_rfl)
          refine plan_want rfl (by kernel_rfl) k54 ?_
          refine plan_value ex_move ⟨_, rfl, hS, Grows.refl _, ?_⟩
          exact e14
        · intro a W hS hE hD
          obtain ⟨e3, e4, e5, e6, e11, e12, e13, e14, e15, e16, e17, e18, _⟩ := hE
          have k54 : a.tmps.getD 54 undef = .bool false := hD 3 54 (by kernel_rfl)
          have k55 : a.tmps.getD 55 undef = .int .i64 pe := hD 4 55 (by kernel_rfl)
          have k56 : a.tmps.getD 56 undef = .int .i64 pe := hD 5 56 (by kernel_rfl)
          refine plan_want rfl (by kernel_rfl) k54 ?_
          refine plan_value (v := .bool false) (w' := W) (by go_simp) ⟨_, rfl, hS, Grows.refl _, rfl⟩
        · intro a W hS hE hD
          obtain ⟨e3, e4, e5, e6, e11, e12, e13, e14, e15, e16, e17, e18, _⟩ := hE
          have k54 : a.tmps.getD 54 undef = .bool false := hD 3 54 (by kernel_rfl)
          have k57 : a.tmps.getD 57 undef = .bool false := hD 6 57 (by kernel_rfl)
          refine plan_free rfl ?_
          refine plan_value (v := .bool false) (w' := W) (by go_simp) ⟨_, rfl, hS, Grows.refl _, rfl⟩
        · intro a W hS hE hD
          obtain ⟨e3, e4, e5, e6, e11, e12, e13, e14, e15, e16, e17, e18, _⟩ := hE
          have k58 : a.tmps.getD 58 undef = .bool false := hD 7 58 (by kernel_rfl)
          refine plan_free rfl ?_
          refine plan_value ex_move ⟨_, rfl, hS, Grows.refl _, ?_⟩
          exact k58
        · intro a W hS hE hD
          obtain ⟨e3, e4, e5, e6, e11, e12, e13, e14, e15, e16, e17, e18, _⟩ := hE
          have k59 : a.tmps.getD 59 undef = .bool false := hD 8 59 (by kernel_rfl)
          refine plan_want rfl (by kernel_rfl) k59 ?_
          refine plan_value (ex_load e15 HM.out (hS.nth 2 rfl)) ⟨_, rfl, hS, Grows.refl _, rfl⟩
        · intro a W hS hE hD
          obtain ⟨e3, e4, e5, e6, e11, e12, e13, e14, e15, e16, e17, e18, _⟩ := hE
          have k59 : a.tmps.getD 59 undef = .bool false := hD 8 59 (by kernel_rfl)
          refine plan_want rfl (by kernel_rfl) k59 ?_
          refine plan_value (ex_load e17 HM.out (hS.nth 3 rfl)) ⟨_, rfl, hS, Grows.refl _, rfl⟩
        · intro a W hS hE hD
          obtain ⟨e3, e4, e5, e6, e11, e12, e13, e14, e15, e16, e17, e18, _⟩ := hE
          have k59 : a.tmps.getD 59 undef = .bool false := hD 8 59 (by kernel_rfl)
          have k60 : a.tmps.getD 60 undef = .agg (vecA M) := hD 9 60 (by kernel_rfl)
          have k61 : a.tmps.getD 61 undef = .agg (vecA M) := hD 10 61 (by kernel_rfl)
          refine plan_want rfl (by kernel_rfl) k59 ?_
          refine plan_value (v := .bool false) (w' := W) (by go_simp) ⟨_, rfl, hS, Grows.refl _, rfl⟩
        · intro a W hS hE hD
          obtain ⟨e3, e4, e5, e6, e11, e12, e13, e14, e15, e16, e17, e18, _⟩ := hE
          have k59 : a.tmps.getD 59 undef = .bool false := hD 8 59 (by kernel_rfl)
          have k62 : a.tmps.getD 62 undef = .bool false := hD 11 62 (by kernel_rfl)
          refine plan_free rfl ?_
          refine plan_value (v := .bool false) (w' := W) (by go_simp) ⟨_, rfl, hS, Grows.refl _, rfl⟩
        · intro a W hS hE hD
          obtain ⟨e3, e4, e5, e6, e11, e12, e13, e14, e15, e16, e17, e18, _⟩ := hE
          have k63 : a.tmps.getD 63 undef = .bool false := hD 12 63 (by kernel_rfl)
          refine plan_free rfl ?_
          refine plan_value ex_move ⟨_, rfl, hS, Grows.refl _, ?_⟩
          exact k63
        · intro a W hS hE hD
          obtain ⟨e3, e4, e5, e6, e11, e12, e13, e14, e15, e16, e17, e18, _⟩ := hE
          have k64 : a.tmps.getD 64 undef = .bool false := hD 13 64 (by kernel_rfl)
          refine plan_want rfl (by kernel_rfl) k64 ?_
          refine plan_value ex_move ⟨_, rfl, hS, Grows.refl _, ?_⟩
          exact e16
        · intro a W hS hE hD
          obtain ⟨e3, e4, e5, e6, e11, e12, e13, e14, e15, e16, e17, e18, _⟩ := hE
          have k64 : a.tmps.getD 64 undef = .bool false := hD 13 64 (by kernel_rfl)
          refine plan_want rfl (by kernel_rfl) k64 ?_
          refine plan_value ex_move ⟨_, rfl, hS, Grows.refl _, ?_⟩
          exact e18
        · intro a W hS hE hD
          obtain ⟨e3, e4, e5, e6, e11, e12, e13, e14, e15, e16, e17, e18, _⟩ := hE
          have k64 : a.tmps.getD 64 undef = .bool false := hD 13 64 (by kernel_rfl)
          have k65 : a.tmps.getD 65 undef = .int .i64 xe := hD 14 65 (by kernel_rfl)
          have k66 : a.tmps.getD 66 undef = .int .i64 xe := hD 15 66 (by kernel_rfl)
          refine plan_want rfl (by kernel_rfl) k64 ?_
          refine plan_value (v := .bool false) (w' := W) (by go_simp) ⟨_, rfl, hS, Grows.refl _, rfl⟩
        · intro a W hS hE hD
          obtain ⟨e3, e4, e5, e6, e11, e12, e13, e14, e15, e16, e17, e18, _⟩ := hE
          have k64 : a.tmps.getD 64 undef = .bool false := hD 13 64 (by kernel_rfl)
          have k67 : a.tmps.getD 67 undef = .bool false := hD 16 67 (by kernel_rfl)
          refine plan_free rfl ?_
          refine plan_value (v := .bool false) (w' := W) (by go_simp) ⟨_, rfl, hS, Grows.refl _, rfl⟩
        · intro a W hS hE hD
          obtain ⟨e3, e4, e5, e6, e11, e12, e13, e14, e15, e16, e17, e18, _⟩ := hE
          have k68 : a.tmps.getD 68 undef = .bool false := hD 17 68 (by kernel_rfl)
          refine plan_free rfl ?_
          refine plan_value ex_move ⟨_, rfl, hS, Grows.refl _, ?_⟩
          exact k68
        · intro a W hS hE hD
          obtain ⟨e3, e4, e5, e6, e11, e12, e13, e14, e15, e16, e17, e18, _⟩ := hE
          have k69 : a.tmps.getD 69 undef = .bool false := hD 18 69 (by kernel_rfl)
          refine plan_want rfl (by kernel_rfl) k69 ?_
          refine plan_value (ex_load e5 W0.out (hS.nth 0 rfl)) ⟨_, rfl, hS, Grows.refl _, rfl⟩
        · intro a W hS hE hD
          obtain ⟨e3, e4, e5, e6, e11, e12, e13, e14, e15, e16, e17, e18, _⟩ := hE
          have k69 : a.tmps.getD 69 undef = .bool false := hD 18 69 (by kernel_rfl)
          have k70 : a.tmps.getD 70 undef = .agg (vecA L0) := hD 19 70 (by kernel_rfl)
          refine plan_want rfl (by kernel_rfl) k69 ?_
          refine plan_call (f := 20) (args := #[a.tmps.getD 70 undef]) (by kernel_rfl) ?_
          rw [k70]
          refine (may_any L0 W0.out W).mono ?_
          rintro e W2 ⟨rfl, hb⟩
          refine ⟨_, rfl, _, rfl, hS.next hb, hb, ?_⟩
          show _ = _
          rw [et1.out]
        · intro a W hS hE hD
          obtain ⟨e3, e4, e5, e6, e11, e12, e13, e14, e15, e16, e17, e18, _⟩ := hE
          have k69 : a.tmps.getD 69 undef = .bool false := hD 18 69 (by kernel_rfl)
          refine plan_want rfl (by kernel_rfl) k69 ?_
          refine plan_value (ex_load e5 W0.out (hS.nth 0 rfl)) ⟨_, rfl, hS, Grows.refl _, rfl⟩
        · intro a W hS hE hD
          obtain ⟨e3, e4, e5, e6, e11, e12, e13, e14, e15, e16, e17, e18, _⟩ := hE
          have k69 : a.tmps.getD 69 undef = .bool false := hD 18 69 (by kernel_rfl)
          have k72 : a.tmps.getD 72 undef = .agg (vecA L0) := hD 21 72 (by kernel_rfl)
          refine plan_want rfl (by kernel_rfl) k69 ?_
          refine plan_call (f := 21) (args := #[a.tmps.getD 72 undef]) (by kernel_rfl) ?_
          rw [k72]
          refine (rmay_any L0 W0.out W).mono ?_
          rintro e W2 ⟨rfl, hb⟩
          refine ⟨_, rfl, _, rfl, hS.next hb, hb, ?_⟩
          show _ = _
          rw [et1.out]
        · intro a W hS hE hD
          obtain ⟨e3, e4, e5, e6, e11, e12, e13, e14, e15, e16, e17, e18, _⟩ := hE
          have k69 : a.tmps.getD 69 undef = .bool false := hD 18 69 (by kernel_rfl)
          have k71 : a.tmps.getD 71 undef = .bool t1 := hD 20 71 (by kernel_rfl)
          have k73 : a.tmps.getD 73 undef = .bool t1 := hD 22 73 (by kernel_rfl)
          refine plan_want rfl (by kernel_rfl) k69 ?_
          refine plan_value (v := .bool false) (w' := W) (by go_simp) ⟨_, rfl, hS, Grows.refl _, rfl⟩
        · intro a W hS hE hD
          obtain ⟨e3, e4, e5, e6, e11, e12, e13, e14, e15, e16, e17, e18, _⟩ := hE
          have k69 : a.tmps.getD 69 undef = .bool false := hD 18 69 (by kernel_rfl)
          have k74 : a.tmps.getD 74 undef = .bool false := hD 23 74 (by kernel_rfl)
          refine plan_free rfl ?_
          refine plan_value (v := .bool false) (w' := W) (by go_simp) ⟨_, rfl, hS, Grows.refl _, rfl⟩
        · intro a W hS hE hD
          obtain ⟨e3, e4, e5, e6, e11, e12, e13, e14, e15, e16, e17, e18, _⟩ := hE
          have k75 : a.tmps.getD 75 undef = .bool false := hD 24 75 (by kernel_rfl)
          refine plan_free rfl ?_
          refine plan_value ex_move ⟨_, rfl, hS, Grows.refl _, ?_⟩
          exact k75
        · intro a W hS hE hD
          obtain ⟨e3, e4, e5, e6, e11, e12, e13, e14, e15, e16, e17, e18, _⟩ := hE
          have k76 : a.tmps.getD 76 undef = .bool false := hD 25 76 (by kernel_rfl)
          refine plan_want rfl (by kernel_rfl) k76 ?_
          refine plan_value (ex_load e5 W0.out (hS.nth 0 rfl)) ⟨_, rfl, hS, Grows.refl _, rfl⟩
        · intro a W hS hE hD
          obtain ⟨e3, e4, e5, e6, e11, e12, e13, e14, e15, e16, e17, e18, _⟩ := hE
          have k76 : a.tmps.getD 76 undef = .bool false := hD 25 76 (by kernel_rfl)
          refine plan_want rfl (by kernel_rfl) k76 ?_
          refine plan_value (ex_load e6 W1.out (hS.nth 1 rfl)) ⟨_, rfl, hS, Grows.refl _, rfl⟩
        · intro a W hS hE hD
          obtain ⟨e3, e4, e5, e6, e11, e12, e13, e14, e15, e16, e17, e18, _⟩ := hE
          have k76 : a.tmps.getD 76 undef = .bool false := hD 25 76 (by kernel_rfl)
          have k77 : a.tmps.getD 77 undef = .agg (vecA L0) := hD 26 77 (by kernel_rfl)
          have k78 : a.tmps.getD 78 undef = .agg (vecA L1) := hD 27 78 (by kernel_rfl)
          refine plan_want rfl (by kernel_rfl) k76 ?_
          refine plan_call (f := 22) (args := #[a.tmps.getD 77 undef, a.tmps.getD 78 undef]) (by kernel_rfl) ?_
          rw [k77, k78]
          refine (less_any L0 L1 W0.out W1.out W).mono ?_
          rintro e W2 ⟨rfl, hb⟩
          refine ⟨_, rfl, _, rfl, hS.next hb, hb, ?_⟩
          show _ = _
          rw [et2.out]
        · intro a W hS hE hD
          obtain ⟨e3, e4, e5, e6, e11, e12, e13, e14, e15, e16, e17, e18, _⟩ := hE
          have k76 : a.tmps.getD 76 undef = .bool false := hD 25 76 (by kernel_rfl)
          refine plan_want rfl (by kernel_rfl) k76 ?_
          refine plan_value (ex_load e5 W0.out (hS.nth 0 rfl)) ⟨_, rfl, hS, Grows.refl _, rfl⟩
        · intro a W hS hE hD
          obtain ⟨e3, e4, e5, e6, e11, e12, e13, e14, e15, e16, e17, e18, _⟩ := hE
          have k76 : a.tmps.getD 76 undef = .bool false := hD 25 76 (by kernel_rfl)
          refine plan_want rfl (by kernel_rfl) k76 ?_
          refine plan_value (ex_load e6 W1.out (hS.nth 1 rfl)) ⟨_, rfl, hS, Grows.refl _, rfl⟩
        · intro a W hS hE hD
          obtain ⟨e3, e4, e5, e6, e11, e12, e13, e14, e15, e16, e17, e18, _⟩ := hE
          have k76 : a.tmps.getD 76 undef = .bool false := hD 25 76 (by kernel_rfl)
          have k80 : a.tmps.getD 80 undef = .agg (vecA L0) := hD 29 80 (by kernel_rfl)
          have k81 : a.tmps.getD 81 undef = .agg (vecA L1) := hD 30 81 (by kernel_rfl)
          refine plan_want rfl (by kernel_rfl) k76 ?_
          refine plan_call (f := 23) (args := #[a.tmps.getD 80 undef, a.tmps.getD 81 undef]) (by kernel_rfl) ?_
          rw [k80, k81]
          refine (rless_any L0 L1 W0.out W1.out W).mono ?_
          rintro e W2 ⟨rfl, hb⟩
          refine ⟨_, rfl, _, rfl, hS.next hb, hb, ?_⟩
          show _ = _
          rw [et2.out]
        · intro a W hS hE hD
          obtain ⟨e3, e4, e5, e6, e11, e12, e13, e14, e15, e16, e17, e18, _⟩ := hE
          have k76 : a.tmps.getD 76 undef = .bool false := hD 25 76 (by kernel_rfl)
          have k79 : a.tmps.getD 79 undef = .bool t2 := hD 28 79 (by kernel_rfl)
          have k82 : a.tmps.getD 82 undef = .bool t2 := hD 31 82 (by kernel_rfl)
          refine plan_want rfl (by kernel_rfl) k76 ?_
          refine plan_value (v := .bool false) (w' := W) (by go_simp) ⟨_, rfl, hS, Grows.refl _, rfl⟩
        · intro a W hS hE hD
          obtain ⟨e3, e4, e5, e6, e11, e12, e13, e14, e15, e16, e17, e18, _⟩ := hE
          have k76 : a.tmps.getD 76 undef = .bool false := hD 25 76 (by kernel_rfl)
          have k83 : a.tmps.getD 83 undef = .bool false := hD 32 83 (by kernel_rfl)
          refine plan_free rfl ?_
          refine plan_value (v := .bool false) (w' := W) (by go_simp) ⟨_, rfl, hS, Grows.refl _, rfl⟩
        · intro a W hS hE hD
          obtain ⟨e3, e4, e5, e6, e11, e12, e13, e14, e15, e16, e17, e18, _⟩ := hE
          have k84 : a.tmps.getD 84 undef = .bool false := hD 33 84 (by kernel_rfl)
          refine plan_free rfl ?_
          refine plan_value ex_move ⟨_, rfl, hS, Grows.refl _, ?_⟩
          exact k84
        · intro a W hS hE hD
          obtain ⟨e3, e4, e5, e6, e11, e12, e13, e14, e15, e16, e17, e18, _⟩ := hE
          have k85 : a.tmps.getD 85 undef = .bool false := hD 34 85 (by kernel_rfl)
          refine plan_want rfl (by kernel_rfl) k85 ?_
          refine plan_value (ex_load e5 W0.out (hS.nth 0 rfl)) ⟨_, rfl, hS, Grows.refl _, rfl⟩
        · intro a W hS hE hD
          obtain ⟨e3, e4, e5, e6, e11, e12, e13, e14, e15, e16, e17, e18, _⟩ := hE
          have k85 : a.tmps.getD 85 undef = .bool false := hD 34 85 (by kernel_rfl)
          refine plan_want rfl (by kernel_rfl) k85 ?_
          refine plan_value ex_move ⟨_, rfl, hS, Grows.refl _, ?_⟩
          exact e3
        · intro a W hS hE hD
          obtain ⟨e3, e4, e5, e6, e11, e12, e13, e14, e15, e16, e17, e18, _⟩ := hE
          have k85 : a.tmps.getD 85 undef = .bool false := hD 34 85 (by kernel_rfl)
          refine plan_want rfl (by kernel_rfl) k85 ?_
          refine plan_value ex_move ⟨_, rfl, hS, Grows.refl _, ?_⟩
          exact e4
        · intro a W hS hE hD
          obtain ⟨e3, e4, e5, e6, e11, e12, e13, e14, e15, e16, e17, e18, _⟩ := hE
          have k85 : a.tmps.getD 85 undef = .bool false := hD 34 85 (by kernel_rfl)
          have k86 : a.tmps.getD 86 undef = .agg (vecA L0) := hD 35 86 (by kernel_rfl)
          have k87 : a.tmps.getD 87 undef = .int .i64 a3 := hD 36 87 (by kernel_rfl)
          have k88 : a.tmps.getD 88 undef = .int .u64 σ := hD 37 88 (by kernel_rfl)
          refine plan_want rfl (by kernel_rfl) k85 ?_
          refine plan_call (f := 24) (args := #[a.tmps.getD 86 undef, a.tmps.getD 87 undef, a.tmps.getD 88 undef]) (by kernel_rfl) ?_
          rw [k86, k87, k88]
          refine (HA.out W).mono ?_
          rintro e W2 ⟨rfl, hb⟩
          refine ⟨_, rfl, _, rfl, hS.next hb, hb, ?_⟩
          exact rfl
        · intro a W hS hE hD
          obtain ⟨e3, e4, e5, e6, e11, e12, e13, e14, e15, e16, e17, e18, _⟩ := hE
          have k85 : a.tmps.getD 85 undef = .bool false := hD 34 85 (by kernel_rfl)
          refine plan_want rfl (by kernel_rfl) k85 ?_
          refine plan_value (ex_load e5 W0.out (hS.nth 0 rfl)) ⟨_, rfl, hS, Grows.refl _, rfl⟩
        · intro a W hS hE hD
          obtain ⟨e3, e4, e5, e6, e11, e12, e13, e14, e15, e16, e17, e18, _⟩ := hE
          have k85 : a.tmps.getD 85 undef = .bool false := hD 34 85 (by kernel_rfl)
          refine plan_want rfl (by kernel_rfl) k85 ?_
          refine plan_value ex_move ⟨_, rfl, hS, Grows.refl _, ?_⟩
          exact e3
        · intro a W hS hE hD
          obtain ⟨e3, e4, e5, e6, e11, e12, e13, e14, e15, e16, e17, e18, _⟩ := hE
          have k85 : a.tmps.getD 85 undef = .bool false := hD 34 85 (by kernel_rfl)
          refine plan_want rfl (by kernel_rfl) k85 ?_
          refine plan_value ex_move ⟨_, rfl, hS, Grows.refl _, ?_⟩
          exact e4
        · intro a W hS hE hD
          obtain ⟨e3, e4, e5, e6, e11, e12, e13, e14, e15, e16, e17, e18, _⟩ := hE
          have k85 : a.tmps.getD 85 undef = .bool false := hD 34 85 (by kernel_rfl)
          have k90 : a.tmps.getD 90 undef = .agg (vecA L0) := hD 39 90 (by kernel_rfl)
          have k91 : a.tmps.getD 91 undef = .int .i64 a3 := hD 40 91 (by kernel_rfl)
          have k92 : a.tmps.getD 92 undef = .int .u64 σ := hD 41 92 (by kernel_rfl)
          refine plan_want rfl (by kernel_rfl) k85 ?_
          refine plan_call (f := 25) (args := #[a.tmps.getD 90 undef, a.tmps.getD 91 undef, a.tmps.getD 92 undef]) (by kernel_rfl) ?_
          rw [k90, k91, k92]
          refine (RHA.out W).mono ?_
          rintro e W2 ⟨rfl, hb⟩
          refine ⟨_, rfl, _, rfl, hS.next hb, hb, ?_⟩
          exact rfl
        · intro a W hS hE hD
          obtain ⟨e3, e4, e5, e6, e11, e12, e13, e14, e15, e16, e17, e18, _⟩ := hE
          have k85 : a.tmps.getD 85 undef = .bool false := hD 34 85 (by kernel_rfl)
          have k89 : a.tmps.getD 89 undef = .bool t3 := hD 38 89 (by kernel_rfl)
          have k93 : a.tmps.getD 93 undef = .bool t3 := hD 42 93 (by kernel_rfl)
          refine plan_want rfl (by kernel_rfl) k85 ?_
          refine plan_value (v := .bool false) (w' := W) (by go_simp) ⟨_, rfl, hS, Grows.refl _, rfl⟩
        · intro a W hS hE hD
          obtain ⟨e3, e4, e5, e6, e11, e12, e13, e14, e15, e16, e17, e18, _⟩ := hE
          have k85 : a.tmps.getD 85 undef = .bool false := hD 34 85 (by kernel_rfl)
          have k94 : a.tmps.getD 94 undef = .bool false := hD 43 94 (by kernel_rfl)
          refine plan_free rfl ?_
          refine plan_value (v := .bool false) (w' := W) (by go_simp) ⟨_, rfl, hS, Grows.refl _, rfl⟩
        · intro a W hS hE hD
          obtain ⟨e3, e4, e5, e6, e11, e12, e13, e14, e15, e16, e17, e18, _⟩ := hE
          have k95 : a.tmps.getD 95 undef = .bool false := hD 44 95 (by kernel_rfl)
          refine plan_free rfl ?_
          refine plan_value ex_move ⟨_, rfl, hS, Grows.refl _, ?_⟩
          exact k95
        · intro a W hS hE hD
          obtain ⟨e3, e4, e5, e6, e11, e12, e13, e14, e15, e16, e17, e18, _⟩ := hE
          have k96 : a.tmps.getD 96 undef = .bool false := hD 45 96 (by kernel_rfl)
          refine plan_want rfl (by kernel_rfl) k96 ?_
          refine plan_value (ex_load e5 W0.out (hS.nth 0 rfl)) ⟨_, rfl, hS, Grows.refl _, rfl⟩
        · intro a W hS hE hD
          obtain ⟨e3, e4, e5, e6, e11, e12, e13, e14, e15, e16, e17, e18, _⟩ := hE
          have k96 : a.tmps.getD 96 undef = .bool false := hD 45 96 (by kernel_rfl)
          refine plan_want rfl (by kernel_rfl) k96 ?_
          refine plan_value (ex_load e6 W1.out (hS.nth 1 rfl)) ⟨_, rfl, hS, Grows.refl _, rfl⟩
        · intro a W hS hE hD
          obtain ⟨e3, e4, e5, e6, e11, e12, e13, e14, e15, e16, e17, e18, _⟩ := hE
          have k96 : a.tmps.getD 96 undef = .bool false := hD 45 96 (by kernel_rfl)
          have k97 : a.tmps.getD 97 undef = .agg (vecA L0) := hD 46 97 (by kernel_rfl)
          have k98 : a.tmps.getD 98 undef = .agg (vecA L1) := hD 47 98 (by kernel_rfl)
          refine plan_want rfl (by kernel_rfl) k96 ?_
          refine plan_call (f := 26) (args := #[a.tmps.getD 97 undef, a.tmps.getD 98 undef]) (by kernel_rfl) ?_
          rw [k97, k98]
          refine (lack_any L0 L1 W0.out W1.out U1.out W).mono ?_
          rintro e W2 ⟨rfl, hb⟩
          refine ⟨_, rfl, _, rfl, hS.next hb, hb, ?_⟩
          show _ = _
          rw [eq.out]
        · intro a W hS hE hD
          obtain ⟨e3, e4, e5, e6, e11, e12, e13, e14, e15, e16, e17, e18, _⟩ := hE
          have k96 : a.tmps.getD 96 undef = .bool false := hD 45 96 (by kernel_rfl)
          refine plan_want rfl (by kernel_rfl) k96 ?_
          refine plan_value (ex_load e5 W0.out (hS.nth 0 rfl)) ⟨_, rfl, hS, Grows.refl _, rfl⟩
        · intro a W hS hE hD
          obtain ⟨e3, e4, e5, e6, e11, e12, e13, e14, e15, e16, e17, e18, _⟩ := hE
          have k96 : a.tmps.getD 96 undef = .bool false := hD 45 96 (by kernel_rfl)
          refine plan_want rfl (by kernel_rfl) k96 ?_
          refine plan_value (ex_load e6 W1.out (hS.nth 1 rfl)) ⟨_, rfl, hS, Grows.refl _, rfl⟩
        · intro a W hS hE hD
          obtain ⟨e3, e4, e5, e6, e11, e12, e13, e14, e15, e16, e17, e18, _⟩ := hE
          have k96 : a.tmps.getD 96 undef = .bool false := hD 45 96 (by kernel_rfl)
          have k100 : a.tmps.getD 100 undef = .agg (vecA L0) := hD 49 100 (by kernel_rfl)
          have k101 : a.tmps.getD 101 undef = .agg (vecA L1) := hD 50 101 (by kernel_rfl)
          refine plan_want rfl (by kernel_rfl) k96 ?_
          refine plan_call (f := 27) (args := #[a.tmps.getD 100 undef, a.tmps.getD 101 undef]) (by kernel_rfl) ?_
          rw [k100, k101]
          refine (rlack_any L0 L1 W0.out W1.out U1.out W).mono ?_
          rintro e W2 ⟨rfl, hb⟩
          refine ⟨_, rfl, _, rfl, hS.next hb, hb, ?_⟩
          show _ = _
          rw [eq.out]
        · intro a W hS hE hD
          obtain ⟨e3, e4, e5, e6, e11, e12, e13, e14, e15, e16, e17, e18, _⟩ := hE
          have k96 : a.tmps.getD 96 undef = .bool false := hD 45 96 (by kernel_rfl)
          have k99 : a.tmps.getD 99 undef = .int .u64 q := hD 48 99 (by kernel_rfl)
          have k102 : a.tmps.getD 102 undef = .int .u64 q := hD 51 102 (by kernel_rfl)
          refine plan_want rfl (by kernel_rfl) k96 ?_
          refine plan_value (v := .bool false) (w' := W) (by go_simp) ⟨_, rfl, hS, Grows.refl _, rfl⟩
        · intro a W hS hE hD
          obtain ⟨e3, e4, e5, e6, e11, e12, e13, e14, e15, e16, e17, e18, _⟩ := hE
          have k96 : a.tmps.getD 96 undef = .bool false := hD 45 96 (by kernel_rfl)
          have k103 : a.tmps.getD 103 undef = .bool false := hD 52 103 (by kernel_rfl)
          refine plan_free rfl ?_
          refine plan_value (v := .bool false) (w' := W) (by go_simp) ⟨_, rfl, hS, Grows.refl _, rfl⟩
      · intro f w7 V8 hE
        have f104 : f 104 = .bool false := Ends.get hE 53 _ rfl 104 rfl
        clear hE
        simp only [setAll, List.setIfInBounds_toArray, List.set_cons_zero, List.set_cons_succ]
        rw [f104]; clear f104
        clear V7 NX RNX WI RWI HA RHA et1 et2 eq qM
        obtain ⟨J, eJ⟩ : ∃ J, Hid (joinV l2 = J) := ⟨_, Lib.hid rfl⟩
        obtain ⟨N, eN⟩ : ∃ N, Hid (meetV l2 = N) := ⟨_, Lib.hid rfl⟩
        have HJ : Hid (J.length = 6) := by show _ = _; rw [← eJ.out]; exact joinV_len S2.out
        have HN : Hid (N.length = 6) := by show _ = _; rw [← eN.out]; exact meetV_len S2.out
        have qJ : ∀ W, (Op.equalIn 10000 24 (.agg (vecA J)) (.agg (vecA J))).run Try.prog W = .ok true W := vec_same HJ.out rfl
        have qN : ∀ W, (Op.equalIn 10000 24 (.agg (vecA N)) (.agg (vecA N))).run Try.prog W = .ok true W := vec_same HN.out rfl
        have qZ : ∀ W, (Op.equalIn 10000 24 (.agg (vecA Z6)) (.agg #[.int .u64 0, .int .u64 0, .int .u64 0, .int .u64 0, .int .u64 0, .int .u64 0])).run Try.prog W = .ok true W := vec_same (L := Z6) (M := Z6) rfl rfl
        have bd := run_buildV0
        have z8 := V8.bel
        have n50 : n2 ≤ 1099511627776 := by omega
        have N50 := Lib.hid n50
        clear V8 h50 h1 n50
        go_wp2_with (refine wpList_copyV rfl _ _ rfl w7.heap.size A2 n2 c2 w.heap.size l2 rfl rfl (Blk.new w7 _ _) (D2.out.below (z8.alloc z8.size _)) S2.out hn2.out N50.out ?_; intro A9 c9 w9 hV9 hg9; have z9 : Below w.heap.size w w9 := (z8.alloc z8.size _).grown hg9 (by simp; have := z8.size; omega) (fun k hk => by injection hk with hk; have := z8.size; omega); clear hg9 z8)
        clear bd
        have NM : l2.length ≤ 1099511627776 := by rw [← hn2.out]; exact N50.out
        have NMH := Lib.hid NM
        clear NM
        refine (join_any A9 n2 c9 l2 w9 hV9 S2.out hn2.out NMH.out).mono ?_
        rintro e w10 ⟨rfl, hb⟩
        rw [eJ.out]
        have V10 := (hV9.below hb).more hb.size
        have z10 := z9.trans (hb.mono z9.size)
        clear hV9 z9 hb
        go_wp2_with fail
        refine (rall_any A2 n2 c2 l2 w10 ((D2.out.below z10).more z10.size) S2.out hn2.out NMH.out).mono ?_
        rintro e w11 ⟨rfl, hb⟩
        rw [eJ.out]
        have V11 := (V10.below hb).more hb.size
        have z11 := z10.trans (hb.mono z10.size)
        clear V10 z10 hb
        go_wp2_with fail
        refine (meet_any A9 n2 c9 l2 w11 V11 S2.out hn2.out NMH.out).mono ?_
        rintro e w12 ⟨rfl, hb⟩
        rw [eN.out]
        have V12 := (V11.below hb).more hb.size
        have z12 := z11.trans (hb.mono z11.size)
        clear V11 z11 hb
        go_wp2_with fail
        refine (rleast_any A2 n2 c2 l2 w12 ((D2.out.below z12).more z12.size) S2.out hn2.out NMH.out).mono ?_
        rintro e w13 ⟨rfl, hb⟩
        rw [eN.out]
        have V13 := (V12.below hb).more hb.size
        have z13 := z12.trans (hb.mono z12.size)
        clear V12 z12 hb
        go_wp2_with fail
        refine (join_any none 0 0 [] w13 (fun h => absurd h (by simp)) (fun v hv => by cases hv) rfl (by simp)).mono ?_
        rintro e w14 ⟨rfl, hb⟩
        rw [show joinV [] = Z6 from rfl]
        have V14 := (V13.below hb).more hb.size
        have z14 := z13.trans (hb.mono z13.size)
        clear V13 z13 hb
        go_wp2_with fail
        clear qJ qN qZ
        go_loopw [20] (fun v wr => ∃ i : Nat, i ≤ n2 ∧ v = .int .i64 (i : Int) ∧ Vecs wr wr.heap.size A9 l2 ∧ Below w.heap.size w wr) (fun v _ => n2 - (intOf v).toNat)
        case atStart => exact ⟨0, by omega, rfl, V14, z14⟩
        case round =>
          clear V14 z14
          obtain ⟨i, hi, rfl, hV, hz⟩ := hrel
          by_cases hlt : i < n2
          · have n50 := N50.out
            have hil : i < l2.length := by rw [← hn2.out]; exact hlt
            have hq := hV
            obtain ⟨b1, o1, rfl, hB1, hc1⟩ := hV (by omega)
            obtain ⟨b2, o2, rfl, hB2, hc2⟩ := D2.out (by omega)
            have r1 := (hc1 i l2[i] (List.getElem?_eq_getElem hil)).2
            have r2 := range_below hz hB2 (hc2 i l2[i] (List.getElem?_eq_getElem hil)).2
            have h6 := Lib.hid (hc1 i l2[i] (List.getElem?_eq_getElem hil)).1
            generalize l2[i] = X at r1 r2 h6
            have qX : ∀ W, (Op.equalIn 10000 24 (.agg (vecA X)) (.agg (vecA X))).run Try.prog W = .ok true W := vec_same h6.out rfl
            have HQ := Lib.hid hq
            have HZ := Lib.hid hz
            have e1 : ∀ W, (W.rangeAt b1 (o1 + i * 6) (vecL X) ∧ W.rangeAt b2 (o2 + i * 6) (vecL X)) → (loadV (.pointer (some ⟨b1, o1 + i * 6, none⟩))).run Try.prog W = .ok (.agg (vecA X)) W := fun W h => run_loadV_mid h6.out h.1
            have e2 : ∀ W, (W.rangeAt b1 (o1 + i * 6) (vecL X) ∧ W.rangeAt b2 (o2 + i * 6) (vecL X)) → (loadV (.pointer (some ⟨b2, o2 + i * 6, none⟩))).run Try.prog W = .ok (.agg (vecA X)) W := fun W h => run_loadV_mid h6.out h.2
            have hs : (wr.rangeAt b1 (o1 + i * 6) (vecL X) ∧ wr.rangeAt b2 (o2 + i * 6) (vecL X)) := ⟨r1, r2⟩
            have HS := Lib.hid hs
            clear hc1 hc2 r1 r2 hs hq hz hV
            go_wp2_with fail
            go_region_held (fun W => W.rangeAt b1 (o1 + i * 6) (vecL X) ∧ W.rangeAt b2 (o2 + i * 6) (vecL X)) (first | (exact HS.out)) (first | fail)
            go_wp2_with fail
            go_roundw
            case rel => exact ⟨i + 1, by omega, by go_num, HQ.out, HZ.out.drew⟩
            case measure => simp [intOf]; omega
          · have hge : ¬ ((i : Int) < (n2 : Int)) := by omega
            clear hV
            go_wp2_with fail
            refine (vworks_any _).mono ?_
            rintro e w15 ⟨rfl, hb⟩
            have z15 := hz.trans (hb.mono hz.size)
            clear hb hz
            go_wp2_with fail
            go_ret
            exact ⟨rfl, z15⟩
  rw [← hn2.out]
  exact hzw

set_option maxRecDepth 100000 in
theorem lifted (os : Os) (started : os.Started) (H : Type) (enc : TypeId × Value → H) :
    ReturnsInHanded {} Try.checked os 3 .any (Rows.vectorPlaysSpec.pre6 enc Try.prog Try.f3 Rows.vectorPlaysRow.domain false) (Rows.vectorPlaysSpec.post enc Try.prog Try.f3 false true false false) := by
  refine returnsInHanded_of_change (C := Try.checked) own started (by kernel_rfl) Try.func3
    (ChangeSpec.witness6 (enc := enc) (C := Try.checked) false ⟨#[], #[.agg #[.int .u64 0, .int .u64 0, .int .u64 0, .int .u64 0, .int .u64 0, .int .u64 0], .agg #[.int .u64 0, .int .u64 0, .int .u64 0, .int .u64 0, .int .u64 0, .int .u64 0], .slice none 0 0, .int .i64 0, .int .u64 0], []⟩ 8 (by kernel_rfl) (by kernel_rfl) (by kernel_rfl) (by kernel_rfl)) ?_
  intro W base args ds gs before hval0 hW hcnd _
  have hval : ∀ (j : Nat) t v, Try.f3.params[j]? = some t → args[j]? = some v → Value.okWide Try.prog W .any base t v := hval0
  have hW' := hW
  obtain ⟨p, q, hA0, hV, rfl, hfz, hnd⟩ := hW
  have hA : DataW.TrodAll enc Try.prog W 0 (fun _ => true) true Try.f3.params.toList args.toList ds p := hA0
  rw [Try.params3] at hA hval
  obtain ⟨v0, vs0, d0, ds0, p0, q0, hargs, rfl, rfl, h0, r0⟩ := trodAll_cons hA
  obtain ⟨v1, vs1, d1, ds1, p1, q1, rfl, rfl, rfl, h1, r1⟩ := trodAll_cons r0
  obtain ⟨v2, vs2, d2, ds2, p2, q2, rfl, rfl, rfl, h2, r2⟩ := trodAll_cons r1
  obtain ⟨v3, vs3, d3, ds3, p3, q3, rfl, rfl, rfl, h3, r3⟩ := trodAll_cons r2
  obtain ⟨v4, vs4, d4, ds4, p4, q4, rfl, rfl, rfl, h4, r4⟩ := trodAll_cons r3
  obtain ⟨rfl, rfl, rfl⟩ := trodAll_nil r4
  obtain rfl : args = #[v0, v1, v2, v3, v4] := by cases args; simp_all
  obtain ⟨rfl, rfl⟩ := trodVars_none hV
  have k0 := h0
  have lt0 : ∀ x ∈ p0, x.block < W.heap.size := by obtain ⟨m, hm⟩ := k0; exact DataW.trod_lt m _ _ _ hm
  obtain ⟨L0, rfl, w0, u0⟩ := open_vec (hval 0 24 v0 rfl rfl) h0
  have k1 := h1
  have lt1 : ∀ x ∈ p1, x.block < W.heap.size := by obtain ⟨m, hm⟩ := k1; exact DataW.trod_lt m _ _ _ hm
  obtain ⟨L1, rfl, w1, u1⟩ := open_vec (hval 1 24 v1 rfl rfl) h1
  obtain ⟨A2, n2, c2, rfl⟩ := okWide_slice Try.underlying25 (hval 2 25 v2 rfl rfl)
  have k2 := h2
  have lt2 : ∀ x ∈ p2, x.block < W.heap.size := by obtain ⟨m, hm⟩ := k2; exact DataW.trod_lt m _ _ _ hm
  obtain ⟨g2, m2, l2, rfl, w2, u2⟩ := open_vecs h2
  obtain ⟨a3, rfl, rfl, rfl, w3⟩ := open_int Try.underlying3 (hval 3 3 v3 rfl rfl) h3
  obtain ⟨a4, rfl, rfl, rfl, w4⟩ := open_int Try.underlying22 (hval 4 22 v4 rfl rfl) h4
  clear hA0 hval0
  refine (walk L0 L1 A2 l2 c2 a3 a4 W w0 u0 w1 u1 w2 u2 g2 m2 w3 w4).mono fun e W' ⟨he, bel⟩ => ?_
  subst he
  exact ⟨_, rfl, _, _, _, [], _, [], hW', trodAll_mk1 (shut_bool Try.underlying4 _), (trodAll_cons_mk (Below.trod laidOut (by kernel_rfl) (of_decide_eq_true (by kernel_rfl)) k0 bel lt0) (trodAll_cons_mk (Below.trod laidOut (by kernel_rfl) (of_decide_eq_true (by kernel_rfl)) k1 bel lt1) (trodAll_cons_mk (Below.trod laidOut (by kernel_rfl) (of_decide_eq_true (by kernel_rfl)) k2 bel lt2) (trodAll_cons_mk (shut_int Try.underlying3 w3) (trodAll_cons_mk (shut_int Try.underlying22 w4) trodAll_mk0))))), rfl, bel.frame _, fun h => by cases h⟩

theorem over : Rows.vectorPlaysRow.holds Try.pinned (OpenSpec.ofChange Rows.vectorPlaysSpec) :=
  OpenClaim.holds_of_wide 3 Try.f3 rfl rfl rfl rfl rfl rfl rfl ⟨rfl, rfl, rfl, rfl, rfl⟩ rfl rfl rfl rfl rfl (by kernel_rfl) Try.func3 (by kernel_rfl)
    (of_decide_eq_true (by kernel_rfl)) (by unfold Func.isWrapper; first | (rw [if_pos (by decide +kernel)]; kernel_rfl) | (rw [if_neg (by decide +kernel)]; exact ⟨rfl, rfl⟩))
    (fun os started H enc _ => lifted os started H enc)

theorem proved : Rows.VectorPlaysSaid := over
#print axioms proved
end Go.Proofs.Ytdliklkfhakmhaa.vectorPlays
