/-
  For every slice of vectors, every vector, every order and every repeating of them, and every event: each of those that are joined is at most the Join, the Join is at most whatever all of them are, and what is known by one is known by it; no further conditions.
-/
import Derived.Test.YtdliklkfhakmhaaRows
import Derived.WalkKit
import Derived.ProofKit
import Derived.OpenShut
import Derived.ShutString
import Derived.ChangeOld
import Derived.Below
import Derived.Test.YtdliklkfhakmhaaJoinMath
import Derived.Test.YtdliklkfhakmhaaGosC
import Derived.Deep.DeepCutAuto
namespace Go.Proofs.Ytdliklkfhakmhaa.vectorJoins
open Go.ChangeShapes Go.WideShapes Go.ChangeAt Go.RowKit
open Go.ChangeMaps (open_string shut_string)
set_option linter.unusedVariables false

theorem own : ownKnob Try.prog.godebug = none := by kernel_rfl
theorem laidOut : laidOutB Try.prog = true := by kernel_rfl

attribute [local go_sem ↓] exec_loadV exec_storeV exec_buildV Go.wp_at_zero Go.wp_at_succ
theorem all_snoc (l : List (List Nat)) (f : List Nat → Bool) (i : Nat) (h : i < l.length) : (l.take (i + 1)).all f = ((l.take i).all f && f l[i]) := by
  rw [List.take_succ_eq_append_getElem h, List.all_append]; simp

set_option maxRecDepth 100000 in
set_option maxHeartbeats 4000000 in
theorem walk (A0 : Option Addr) (l0 : List (List Nat)) (c0 : Nat) (L1 : List Nat) (A2 : Option Addr) (b2 : List UInt8) (c2 : Nat) (a3 : Int) (a4 : Int) (w : World) (w0 : Vecs w w.heap.size A0 l0) (u0 : ∀ L ∈ l0, L.length = 6 ∧ ∀ x ∈ L, x ≤ 18446744073709551615) (g0 : l0.length ≤ c0) (m0 : c0 ≤ maxLen) (w1 : L1.length = 6) (u1 : ∀ x ∈ L1, x ≤ 18446744073709551615) (w2 : Bytes w w.heap.size A2 b2) (l2 : b2.length ≤ c2) (m2 : c2 ≤ maxLen) (w3 : (Lit.int .i64 a3).wf = true) (w4 : (Lit.int .u64 a4).wf = true) :
    Calls Try.prog 5 #[.slice A0 l0.length c0, .agg (vecA L1), .slice A2 b2.length c2, .int .i64 a3, .int .u64 a4] w fun e w' => e = .returned (.bool true) ∧ Below w.heap.size w w' := by
  obtain ⟨n0, hn0⟩ : ∃ n, Hid (n = l0.length) := ⟨_, Lib.hid rfl⟩
  obtain ⟨nb, hnb⟩ : ∃ n, Hid (n = b2.length) := ⟨_, Lib.hid rfl⟩
  obtain ⟨s, rfl, _⟩ := wf_nat w4
  have W1 := Lib.hid w1
  have D0 := Lib.hid w0
  have D2 := Lib.hid w2
  have S0 := Lib.hid (fun v hv => (u0 v hv).1 : ∀ v ∈ l0, v.length = 6)
  have U1 := Lib.hid u1
  have hzw : Calls Try.prog 5 #[.slice A0 n0 c0, .agg (vecA L1), .slice A2 nb c2, .int .i64 a3, .int .u64 (s : Int)] w fun e w' => e = .returned (.bool true) ∧ Below w.heap.size w w' := by
    clear w0 w1 w2 w3 w4 u0 u1 g0 m0 l2 m2
    have z0 := (Below.refl w.heap.size w).alloc (Nat.le_refl _) (.cells (vecA L1) 24)
    by_cases h50 : 50 < n0
    · have h1 : (50 : Int) < (n0 : Int) := by omega
      go_enter Try.func5, Try.ntmps5
      go_wp2_with fail
      refine (vworks_any _).mono ?_
      rintro e w2 ⟨rfl, hb2⟩
      have zf := z0.trans (hb2.mono z0.size)
      go_wp2_with fail
      go_ret
      exact ⟨rfl, zf⟩
    by_cases h100 : 100 < nb
    · have h1 : ¬ (50 : Int) < (n0 : Int) := by omega
      have h2 : (100 : Int) < (nb : Int) := by omega
      go_enter Try.func5, Try.ntmps5
      go_wp2_with fail
      refine (vworks_any _).mono ?_
      rintro e w2 ⟨rfl, hb2⟩
      have zf := z0.trans (hb2.mono z0.size)
      go_wp2_with fail
      go_ret
      exact ⟨rfl, zf⟩
    have h1 : ¬ (50 : Int) < (n0 : Int) := by omega
    have h2 : ¬ (100 : Int) < (nb : Int) := by omega
    obtain ⟨J, eJ⟩ : ∃ J, Hid (joinV l0 = J) := ⟨_, Lib.hid rfl⟩
    obtain ⟨M, eM⟩ : ∃ M, Hid (meetV l0 = M) := ⟨_, Lib.hid rfl⟩
    have HJ : Hid (J.length = 6) := by show _ = _; rw [← eJ.out]; exact joinV_len S0.out
    have HM : Hid (M.length = 6) := by show _ = _; rw [← eM.out]; exact meetV_len S0.out
    have N0 := Lib.hid (show n0 ≤ 50 by omega)
    have NB := Lib.hid (show nb ≤ 100 by omega)
    have NL := Lib.hid (show l0.length ≤ 1099511627776 by rw [← hn0.out]; omega)
    obtain ⟨σ, eσ⟩ : ∃ σ : Int, Hid ((s : Int) = σ) := ⟨_, Lib.hid rfl⟩
    rw [eσ.out]
    have sJ : ∀ W : World, (storeV (.pointer (some ⟨W.heap.size, 0, none⟩)) (.agg (vecA J))).run Try.prog (W.alloc (.cells #[.int .u64 0, .int .u64 0, .int .u64 0, .int .u64 0, .int .u64 0, .int .u64 0] 24)) = .ok () (W.alloc (.cells (vecA J) 24)) := fun W => run_storeV_new HJ.out
    have sM : ∀ W : World, (storeV (.pointer (some ⟨W.heap.size, 0, none⟩)) (.agg (vecA M))).run Try.prog (W.alloc (.cells #[.int .u64 0, .int .u64 0, .int .u64 0, .int .u64 0, .int .u64 0, .int .u64 0] 24)) = .ok () (W.alloc (.cells (vecA M) 24)) := fun W => run_storeV_new HM.out
    have V1 := (Vs.nil w).new L1 _ rfl
    clear h50 h100
    go_enter Try.func5, Try.ntmps5
    go_wp2_with fail
    refine (join_any A0 n0 c0 l0 _ ((D0.out.below V1.bel).more V1.bel.size) S0.out hn0.out NL.out).mono ?_
    rintro e w2 ⟨rfl, hb⟩
    rw [eJ.out]
    have V2 := V1.next hb
    have V3 : Vs w (w2.alloc (.cells (vecA J) 24)) [(w.heap.size, L1), (w2.heap.size, J)] := V2.new J _ rfl
    clear V1 V2 hb
    go_wp2_with fail
    refine (meet_any A0 n0 c0 l0 _ ((D0.out.below V3.bel).more V3.bel.size) S0.out hn0.out NL.out).mono ?_
    rintro e w4 ⟨rfl, hb⟩
    rw [eM.out]
    have V4 := V3.next hb
    have V5 : Vs w (w4.alloc (.cells (vecA M) 24)) [(w.heap.size, L1), (w2.heap.size, J), (w4.heap.size, M)] := V4.new M _ rfl
    clear V3 V4 hb z0 h1 h2
    go_wp2_with fail
    clear sJ sM
    go_loopw [13, 14] (fun fl v wr => ∃ i : Nat, i ≤ n0 ∧ v = .int .i64 (i : Int) ∧ fl = .bool ((l0.take i).all fun u => lessV u L1) ∧ Vs w wr [(w.heap.size, L1), (w2.heap.size, J), (w4.heap.size, M)]) (fun _ v _ => n0 - (intOf v).toNat)
    case atStart => exact ⟨0, by omega, rfl, rfl, V5⟩
    case round =>
      clear V5
      obtain ⟨i, hi, rfl, rfl, V6⟩ := hrel
      by_cases hlt : i < n0
      · have hil : i < l0.length := by rw [← hn0.out]; exact hlt
        obtain ⟨b, off, rfl, hB, hc⟩ := D0.out (by omega)
        obtain ⟨h6, hr⟩ := hc i l0[i] (List.getElem?_eq_getElem hil)
        have hmem : l0[i] ∈ l0 := List.getElem_mem hil
        have k1 : Hid (lessV l0[i] J = true) := by show _ = _; rw [← eJ.out]; exact join_ge l0 S0.out hmem
        have k2 : Hid (lessV M l0[i] = true) := by show _ = _; rw [← eM.out]; exact meet_ge l0 S0.out hmem
        have hsucc := all_snoc l0 (fun u => lessV u L1) i hil
        have HR := Lib.hid hr
        have HB := Lib.hid hB
        have HX := Lib.hid h6
        have HI := Lib.hid hlt
        generalize l0[i] = X at k1 k2 hsucc HR HX
        generalize (l0.take i).all (fun u => lessV u L1) = tt at hsucc ⊢
        obtain ⟨t3, et3⟩ : ∃ t, Hid (hasZ X a3 s = t) := ⟨_, Lib.hid rfl⟩
        obtain ⟨t4, et4⟩ : ∃ t, Hid (lessV X L1 = t) := ⟨_, Lib.hid rfl⟩
        have HSU : Hid ((l0.take (i + 1)).all (fun u => lessV u L1) = (tt && t4)) := by show _ = _; rw [hsucc, ← et4.out]
        have k3 : Hid (t3 = true → hasZ J a3 s = true) := by show _ → _; intro h; exact has_mono k1.out a3 s (by rw [et3.out]; exact h)
        have HA : Hid (∀ W, Calls Try.prog 24 #[.agg (vecA X), .int .i64 a3, .int .u64 σ] W fun e w' => e = .returned (.bool t3) ∧ Below W.heap.size W w') := by
          intro W; have := has_all X HX.out a3 s W; rw [et3.out, eσ.out] at this; exact this
        have HJA : Hid (t3 = true → ∀ W, Calls Try.prog 24 #[.agg (vecA J), .int .i64 a3, .int .u64 σ] W fun e w' => e = .returned (.bool true) ∧ Below W.heap.size W w') := by
          intro h W; have := has_all J HJ.out a3 s W; rw [k3.out h, eσ.out] at this; exact this
        have hi1 : (0 : Int) ≤ (i : Int) := by omega
        have hi2 : (i : Int) < (n0 : Int) := by omega
        clear hc hr hB h6 hil hmem hsucc k3 et3
        go_wp2_with fail
        cases t3
        · skip
          refine wp_region_plan (fun W => Vs w W [(w.heap.size, L1), (w2.heap.size, J), (w4.heap.size, M)]) Grows [IsV (.slice (some ⟨b, off, none⟩) n0 c0), IsV (.int .i64 (i : Int)), IsV (.pointer (some ⟨b, off + i * 6, none⟩)), IsV (.agg (vecA X)), IsV (.agg (vecA J)), IsV (.bool true), IsV (.bool false), IsV (.bool false), IsV (.agg (vecA M)), IsV (.slice (some ⟨b, off, none⟩) n0 c0), IsV (.int .i64 (i : Int)), IsV (.pointer (some ⟨b, off + i * 6, none⟩)), IsV (.agg (vecA X)), IsV (.bool true), IsV (.bool false), IsV (.bool false), IsV (.bool false), IsV (.slice (some ⟨b, off, none⟩) n0 c0), IsV (.int .i64 (i : Int)), IsV (.pointer (some ⟨b, off + i * 6, none⟩)), IsV (.agg (vecA X)), IsV (.int .i64 a3), IsV (.int .u64 σ), IsV (.bool false), IsV (.bool false), IsV (undef), IsV (undef), IsV (undef), IsV (undef), IsV (undef), IsV (.bool false), IsV (.bool false)] ([(0, .slice (some ⟨b, off, none⟩) n0 c0), (3, .int .i64 a3), (4, .int .u64 σ), (11, .pointer (some ⟨w2.heap.size, 0, none⟩)), (12, .pointer (some ⟨w4.heap.size, 0, none⟩)), (14, .int .i64 (i : Int))] : List (Nat × Value)) (⟨rfl, rfl, rfl, rfl, rfl, rfl, trivial⟩) (n := 160) (by kernel_rfl) rfl (by kernel_rfl) (Vs.drew V6) Grows.refl (StabAll.get ?_) ?_ ?_
          · repeat (first | exact trivial | refine ⟨stab_c _, ?_⟩ | refine ⟨stab_two _ _, ?_⟩ | refine ⟨fun _ _ _ _ _ _ _ => trivial, ?_⟩)
          · refine ⟨?_, ⟨?_, ⟨?_, ⟨?_, ⟨?_, ⟨?_, ⟨?_, ⟨?_, ⟨?_, ⟨?_, ⟨?_, ⟨?_, ⟨?_, ⟨?_, ⟨?_, ⟨?_, ⟨?_, ⟨?_, ⟨?_, ⟨?_, ⟨?_, ⟨?_, ⟨?_, ⟨?_, ⟨?_, ⟨?_, ⟨?_, ⟨?_, ⟨?_, ⟨?_, ⟨?_, ⟨?_, trivial⟩⟩⟩⟩⟩⟩⟩⟩⟩⟩⟩⟩⟩⟩⟩⟩⟩⟩⟩⟩⟩⟩⟩⟩⟩⟩⟩⟩⟩⟩⟩⟩
            · intro a W hS hE hD
              obtain ⟨x0, _, _, _, _, _, _⟩ := hE
              have e0 := x0 (by kernel_rfl)
              refine plan_free rfl ?_
              refine plan_value ex_move ⟨_, rfl, hS, Grows.refl _, ?_⟩
              exact e0
            · intro a W hS hE hD
              obtain ⟨_, _, _, _, _, x14, _⟩ := hE
              have e14 := x14 (by kernel_rfl)
              refine plan_free rfl ?_
              refine plan_value ex_move ⟨_, rfl, hS, Grows.refl _, ?_⟩
              exact e14
            · intro a W hS hE hD
              have k37 : a.tmps.getD 37 undef = .slice (some ⟨b, off, none⟩) n0 c0 := hD 0 37 (by kernel_rfl)
              have k38 : a.tmps.getD 38 undef = .int .i64 (i : Int) := hD 1 38 (by kernel_rfl)
              refine plan_free rfl ?_
              refine plan_value (v := .pointer (some ⟨b, off + i * 6, none⟩)) (w' := W) (by go_simp) ⟨_, rfl, hS, Grows.refl _, rfl⟩
            · intro a W hS hE hD
              have k39 : a.tmps.getD 39 undef = .pointer (some ⟨b, off + i * 6, none⟩) := hD 2 39 (by kernel_rfl)
              refine plan_free rfl ?_
              refine plan_value (ex_load_mid k39 HX.out (range_below hS.bel HB.out HR.out)) ⟨_, rfl, hS, Grows.refl _, rfl⟩
            · intro a W hS hE hD
              obtain ⟨_, _, _, x11, _, _, _⟩ := hE
              have e11 := x11 (by kernel_rfl)
              refine plan_free rfl ?_
              refine plan_value (ex_load e11 HJ.out (hS.nth 1 rfl)) ⟨_, rfl, hS, Grows.refl _, rfl⟩
            · intro a W hS hE hD
              have k40 : a.tmps.getD 40 undef = .agg (vecA X) := hD 3 40 (by kernel_rfl)
              have k41 : a.tmps.getD 41 undef = .agg (vecA J) := hD 4 41 (by kernel_rfl)
              refine plan_free rfl ?_
              refine plan_call (f := 22) (args := #[a.tmps.getD 40 undef, a.tmps.getD 41 undef]) (by kernel_rfl) ?_
              rw [k40, k41]
              refine (less_any X J HX.out HJ.out W).mono ?_
              rintro e W2 ⟨rfl, hb⟩
              refine ⟨_, rfl, _, rfl, hS.next hb, hb, ?_⟩
              show _ = _
              rw [k1.out]
            · intro a W hS hE hD
              have k42 : a.tmps.getD 42 undef = .bool true := hD 5 42 (by kernel_rfl)
              refine plan_free rfl ?_
              refine plan_value (v := .bool false) (w' := W) (by go_simp) ⟨_, rfl, hS, Grows.refl _, rfl⟩
            · intro a W hS hE hD
              have k43 : a.tmps.getD 43 undef = .bool false := hD 6 43 (by kernel_rfl)
              refine plan_free rfl ?_
              refine plan_value ex_move ⟨_, rfl, hS, Grows.refl _, ?_⟩
              exact k43
            · intro a W hS hE hD
              obtain ⟨_, _, _, _, x12, _, _⟩ := hE
              have e12 := x12 (by kernel_rfl)
              have k44 : a.tmps.getD 44 undef = .bool false := hD 7 44 (by kernel_rfl)
              refine plan_want rfl (by kernel_rfl) k44 ?_
              refine plan_value (ex_load e12 HM.out (hS.nth 2 rfl)) ⟨_, rfl, hS, Grows.refl _, rfl⟩
            · intro a W hS hE hD
              obtain ⟨x0, _, _, _, _, _, _⟩ := hE
              have e0 := x0 (by kernel_rfl)
              have k44 : a.tmps.getD 44 undef = .bool false := hD 7 44 (by kernel_rfl)
              refine plan_want rfl (by kernel_rfl) k44 ?_
              refine plan_value ex_move ⟨_, rfl, hS, Grows.refl _, ?_⟩
              exact e0
            · intro a W hS hE hD
              obtain ⟨_, _, _, _, _, x14, _⟩ := hE
              have e14 := x14 (by kernel_rfl)
              have k44 : a.tmps.getD 44 undef = .bool false := hD 7 44 (by kernel_rfl)
              refine plan_want rfl (by kernel_rfl) k44 ?_
              refine plan_value ex_move ⟨_, rfl, hS, Grows.refl _, ?_⟩
              exact e14
            · intro a W hS hE hD
              have k44 : a.tmps.getD 44 undef = .bool false := hD 7 44 (by kernel_rfl)
              have k46 : a.tmps.getD 46 undef = .slice (some ⟨b, off, none⟩) n0 c0 := hD 9 46 (by kernel_rfl)
              have k47 : a.tmps.getD 47 undef = .int .i64 (i : Int) := hD 10 47 (by kernel_rfl)
              refine plan_want rfl (by kernel_rfl) k44 ?_
              refine plan_value (v := .pointer (some ⟨b, off + i * 6, none⟩)) (w' := W) (by go_simp) ⟨_, rfl, hS, Grows.refl _, rfl⟩
            · intro a W hS hE hD
              have k44 : a.tmps.getD 44 undef = .bool false := hD 7 44 (by kernel_rfl)
              have k48 : a.tmps.getD 48 undef = .pointer (some ⟨b, off + i * 6, none⟩) := hD 11 48 (by kernel_rfl)
              refine plan_want rfl (by kernel_rfl) k44 ?_
              refine plan_value (ex_load_mid k48 HX.out (range_below hS.bel HB.out HR.out)) ⟨_, rfl, hS, Grows.refl _, rfl⟩
            · intro a W hS hE hD
              have k44 : a.tmps.getD 44 undef = .bool false := hD 7 44 (by kernel_rfl)
              have k45 : a.tmps.getD 45 undef = .agg (vecA M) := hD 8 45 (by kernel_rfl)
              have k49 : a.tmps.getD 49 undef = .agg (vecA X) := hD 12 49 (by kernel_rfl)
              refine plan_want rfl (by kernel_rfl) k44 ?_
              refine plan_call (f := 22) (args := #[a.tmps.getD 45 undef, a.tmps.getD 49 undef]) (by kernel_rfl) ?_
              rw [k45, k49]
              refine (less_any M X HM.out HX.out W).mono ?_
              rintro e W2 ⟨rfl, hb⟩
              refine ⟨_, rfl, _, rfl, hS.next hb, hb, ?_⟩
              show _ = _
              rw [k2.out]
            · intro a W hS hE hD
              have k44 : a.tmps.getD 44 undef = .bool false := hD 7 44 (by kernel_rfl)
              have k50 : a.tmps.getD 50 undef = .bool true := hD 13 50 (by kernel_rfl)
              refine plan_want rfl (by kernel_rfl) k44 ?_
              refine plan_value (v := .bool false) (w' := W) (by go_simp) ⟨_, rfl, hS, Grows.refl _, rfl⟩
            · intro a W hS hE hD
              have k44 : a.tmps.getD 44 undef = .bool false := hD 7 44 (by kernel_rfl)
              have k51 : a.tmps.getD 51 undef = .bool false := hD 14 51 (by kernel_rfl)
              refine plan_free rfl ?_
              refine plan_value (v := .bool false) (w' := W) (by go_simp) ⟨_, rfl, hS, Grows.refl _, rfl⟩
            · intro a W hS hE hD
              have k52 : a.tmps.getD 52 undef = .bool false := hD 15 52 (by kernel_rfl)
              refine plan_free rfl ?_
              refine plan_value ex_move ⟨_, rfl, hS, Grows.refl _, ?_⟩
              exact k52
            · intro a W hS hE hD
              obtain ⟨x0, _, _, _, _, _, _⟩ := hE
              have e0 := x0 (by kernel_rfl)
              have k53 : a.tmps.getD 53 undef = .bool false := hD 16 53 (by kernel_rfl)
              refine plan_want rfl (by kernel_rfl) k53 ?_
              refine plan_value ex_move ⟨_, rfl, hS, Grows.refl _, ?_⟩
              exact e0
            · intro a W hS hE hD
              obtain ⟨_, _, _, _, _, x14, _⟩ := hE
              have e14 := x14 (by kernel_rfl)
              have k53 : a.tmps.getD 53 undef = .bool false := hD 16 53 (by kernel_rfl)
              refine plan_want rfl (by kernel_rfl) k53 ?_
              refine plan_value ex_move ⟨_, rfl, hS, Grows.refl _, ?_⟩
              exact e14
            · intro a W hS hE hD
              have k53 : a.tmps.getD 53 undef = .bool false := hD 16 53 (by kernel_rfl)
              have k54 : a.tmps.getD 54 undef = .slice (some ⟨b, off, none⟩) n0 c0 := hD 17 54 (by kernel_rfl)
              have k55 : a.tmps.getD 55 undef = .int .i64 (i : Int) := hD 18 55 (by kernel_rfl)
              refine plan_want rfl (by kernel_rfl) k53 ?_
              refine plan_value (v := .pointer (some ⟨b, off + i * 6, none⟩)) (w' := W) (by go_simp) ⟨_, rfl, hS, Grows.refl _, rfl⟩
            · intro a W hS hE hD
              have k53 : a.tmps.getD 53 undef = .bool false := hD 16 53 (by kernel_rfl)
              have k56 : a.tmps.getD 56 undef = .pointer (some ⟨b, off + i * 6, none⟩) := hD 19 56 (by kernel_rfl)
              refine plan_want rfl (by kernel_rfl) k53 ?_
              refine plan_value (ex_load_mid k56 HX.out (range_below hS.bel HB.out HR.out)) ⟨_, rfl, hS, Grows.refl _, rfl⟩
            · intro a W hS hE hD
              obtain ⟨_, x3, _, _, _, _, _⟩ := hE
              have e3 := x3 (by kernel_rfl)
              have k53 : a.tmps.getD 53 undef = .bool false := hD 16 53 (by kernel_rfl)
              refine plan_want rfl (by kernel_rfl) k53 ?_
              refine plan_value ex_move ⟨_, rfl, hS, Grows.refl _, ?_⟩
              exact e3
            · intro a W hS hE hD
              obtain ⟨_, _, x4, _, _, _, _⟩ := hE
              have e4 := x4 (by kernel_rfl)
              have k53 : a.tmps.getD 53 undef = .bool false := hD 16 53 (by kernel_rfl)
              refine plan_want rfl (by kernel_rfl) k53 ?_
              refine plan_value ex_move ⟨_, rfl, hS, Grows.refl _, ?_⟩
              exact e4
            · intro a W hS hE hD
              have k53 : a.tmps.getD 53 undef = .bool false := hD 16 53 (by kernel_rfl)
              have k57 : a.tmps.getD 57 undef = .agg (vecA X) := hD 20 57 (by kernel_rfl)
              have k58 : a.tmps.getD 58 undef = .int .i64 a3 := hD 21 58 (by kernel_rfl)
              have k59 : a.tmps.getD 59 undef = .int .u64 σ := hD 22 59 (by kernel_rfl)
              refine plan_want rfl (by kernel_rfl) k53 ?_
              refine plan_call (f := 24) (args := #[a.tmps.getD 57 undef, a.tmps.getD 58 undef, a.tmps.getD 59 undef]) (by kernel_rfl) ?_
              rw [k57, k58, k59]
              refine (HA.out W).mono ?_
              rintro e W2 ⟨rfl, hb⟩
              refine ⟨_, rfl, _, rfl, hS.next hb, hb, ?_⟩
              exact rfl
            · intro a W hS hE hD
              have k53 : a.tmps.getD 53 undef = .bool false := hD 16 53 (by kernel_rfl)
              have k60 : a.tmps.getD 60 undef = .bool false := hD 23 60 (by kernel_rfl)
              refine plan_want rfl (by kernel_rfl) k53 ?_
              refine plan_value ex_move ⟨_, rfl, hS, Grows.refl _, ?_⟩
              exact k60
            · intro a W hS hE hD
              have k61 : a.tmps.getD 61 undef = .bool false := hD 24 61 (by kernel_rfl)
              refine plan_skip rfl (by kernel_rfl) k61 rfl ?_
              exact rfl
            · intro a W hS hE hD
              have k61 : a.tmps.getD 61 undef = .bool false := hD 24 61 (by kernel_rfl)
              refine plan_skip rfl (by kernel_rfl) k61 rfl ?_
              exact rfl
            · intro a W hS hE hD
              have k61 : a.tmps.getD 61 undef = .bool false := hD 24 61 (by kernel_rfl)
              refine plan_skip rfl (by kernel_rfl) k61 rfl ?_
              exact rfl
            · intro a W hS hE hD
              have k61 : a.tmps.getD 61 undef = .bool false := hD 24 61 (by kernel_rfl)
              refine plan_skip rfl (by kernel_rfl) k61 rfl ?_
              exact rfl
            · intro a W hS hE hD
              have k61 : a.tmps.getD 61 undef = .bool false := hD 24 61 (by kernel_rfl)
              refine plan_skip rfl (by kernel_rfl) k61 rfl ?_
              exact rfl
            · intro a W hS hE hD
              have k53 : a.tmps.getD 53 undef = .bool false := hD 16 53 (by kernel_rfl)
              have k61 : a.tmps.getD 61 undef = .bool false := hD 24 61 (by kernel_rfl)
              have k66 : a.tmps.getD 66 undef = undef := hD 29 66 (by kernel_rfl)
              refine plan_want rfl (by kernel_rfl) k53 ?_
              refine plan_value (v := .bool false) (w' := W) (by go_simp) ⟨_, rfl, hS, Grows.refl _, rfl⟩
            · intro a W hS hE hD
              have k53 : a.tmps.getD 53 undef = .bool false := hD 16 53 (by kernel_rfl)
              have k67 : a.tmps.getD 67 undef = .bool false := hD 30 67 (by kernel_rfl)
              refine plan_free rfl ?_
              refine plan_value (v := .bool false) (w' := W) (by go_simp) ⟨_, rfl, hS, Grows.refl _, rfl⟩
          · intro f w7 V7 hE
            have f68 : f 68 = .bool false := Ends.get hE 31 _ rfl 68 rfl
            clear hE
            simp only [setAll, List.setIfInBounds_toArray, List.set_cons_zero, List.set_cons_succ]
            rw [f68]; clear f68
            clear V6 HA HJA k1 k2
            go_wp2_with fail
            cases tt
            · skip
              refine wp_region_plan (fun W => Vs w W [(w.heap.size, L1), (w2.heap.size, J), (w4.heap.size, M)]) Grows [IsV (.bool false), IsV (.bool false), IsV (undef), IsV (undef), IsV (undef), IsV (undef), IsV (undef), IsV (undef), IsV (.bool false), IsV (.bool false)] ([(0, .slice (some ⟨b, off, none⟩) n0 c0), (6, .pointer (some ⟨w.heap.size, 0, none⟩)), (13, .bool false), (14, .int .i64 (i : Int))] : List (Nat × Value)) (⟨rfl, rfl, rfl, rfl, trivial⟩) (n := 160) (by kernel_rfl) rfl (by kernel_rfl) (Vs.drew V7) Grows.refl (StabAll.get ?_) ?_ ?_
              · repeat (first | exact trivial | refine ⟨stab_c _, ?_⟩ | refine ⟨stab_two _ _, ?_⟩ | refine ⟨fun _ _ _ _ _ _ _ => trivial, ?_⟩)
              · refine ⟨?_, ⟨?_, ⟨?_, ⟨?_, ⟨?_, ⟨?_, ⟨?_, ⟨?_, ⟨?_, ⟨?_, trivial⟩⟩⟩⟩⟩⟩⟩⟩⟩⟩
                · intro a W hS hE hD
                  obtain ⟨_, _, x13, _, _⟩ := hE
                  have e13 := x13 (by kernel_rfl)
                  refine plan_free rfl ?_
                  refine plan_value ex_move ⟨_, rfl, hS, Grows.refl _, ?_⟩
                  exact e13
                · intro a W hS hE hD
                  have k69 : a.tmps.getD 69 undef = .bool false := hD 0 69 (by kernel_rfl)
                  refine plan_free rfl ?_
                  refine plan_value ex_move ⟨_, rfl, hS, Grows.refl _, ?_⟩
                  exact k69
                · intro a W hS hE hD
                  have k70 : a.tmps.getD 70 undef = .bool false := hD 1 70 (by kernel_rfl)
                  refine plan_skip rfl (by kernel_rfl) k70 rfl ?_
                  exact rfl
                · intro a W hS hE hD
                  have k70 : a.tmps.getD 70 undef = .bool false := hD 1 70 (by kernel_rfl)
                  refine plan_skip rfl (by kernel_rfl) k70 rfl ?_
                  exact rfl
                · intro a W hS hE hD
                  have k70 : a.tmps.getD 70 undef = .bool false := hD 1 70 (by kernel_rfl)
                  refine plan_skip rfl (by kernel_rfl) k70 rfl ?_
                  exact rfl
                · intro a W hS hE hD
                  have k70 : a.tmps.getD 70 undef = .bool false := hD 1 70 (by kernel_rfl)
                  refine plan_skip rfl (by kernel_rfl) k70 rfl ?_
                  exact rfl
                · intro a W hS hE hD
                  have k70 : a.tmps.getD 70 undef = .bool false := hD 1 70 (by kernel_rfl)
                  refine plan_skip rfl (by kernel_rfl) k70 rfl ?_
                  exact rfl
                · intro a W hS hE hD
                  have k70 : a.tmps.getD 70 undef = .bool false := hD 1 70 (by kernel_rfl)
                  refine plan_skip rfl (by kernel_rfl) k70 rfl ?_
                  exact rfl
                · intro a W hS hE hD
                  have k70 : a.tmps.getD 70 undef = .bool false := hD 1 70 (by kernel_rfl)
                  have k76 : a.tmps.getD 76 undef = undef := hD 7 76 (by kernel_rfl)
                  refine plan_free rfl ?_
                  refine plan_value (v := .bool false) (w' := W) (by go_simp) ⟨_, rfl, hS, Grows.refl _, rfl⟩
                · intro a W hS hE hD
                  have k77 : a.tmps.getD 77 undef = .bool false := hD 8 77 (by kernel_rfl)
                  refine plan_free rfl ?_
                  refine plan_value ex_assign ⟨_, rfl, hS, Grows.refl _, ?_⟩
                  exact k77
              · intro f w8 V8 hE
                have f13 : f 13 = .bool false := Ends.get hE 9 _ rfl 13 rfl
                clear hE
                simp only [setAll, List.setIfInBounds_toArray, List.set_cons_zero, List.set_cons_succ]
                rw [f13]; clear f13
                clear V7
                have n50 := N0.out
                have hlt := HI.out
                go_wp2_with fail
                go_roundw
                case rel => exact ⟨i + 1, by omega, by go_num, by rw [HSU.out]; rfl, V8⟩
                case measure => simp [intOf]; omega
            · skip
              refine wp_region_plan (fun W => Vs w W [(w.heap.size, L1), (w2.heap.size, J), (w4.heap.size, M)]) Grows [IsV (.bool true), IsV (.bool true), IsV (.slice (some ⟨b, off, none⟩) n0 c0), IsV (.int .i64 (i : Int)), IsV (.pointer (some ⟨b, off + i * 6, none⟩)), IsV (.agg (vecA X)), IsV (.agg (vecA L1)), IsV (.bool t4), IsV (.bool t4), IsV (.bool t4)] ([(0, .slice (some ⟨b, off, none⟩) n0 c0), (6, .pointer (some ⟨w.heap.size, 0, none⟩)), (13, .bool true), (14, .int .i64 (i : Int))] : List (Nat × Value)) (⟨rfl, rfl, rfl, rfl, trivial⟩) (n := 160) (by kernel_rfl) rfl (by kernel_rfl) (Vs.drew V7) Grows.refl (StabAll.get ?_) ?_ ?_
              · repeat (first | exact trivial | refine ⟨stab_c _, ?_⟩ | refine ⟨stab_two _ _, ?_⟩ | refine ⟨fun _ _ _ _ _ _ _ => trivial, ?_⟩)
              · refine ⟨?_, ⟨?_, ⟨?_, ⟨?_, ⟨?_, ⟨?_, ⟨?_, ⟨?_, ⟨?_, ⟨?_, trivial⟩⟩⟩⟩⟩⟩⟩⟩⟩⟩
                · intro a W hS hE hD
                  obtain ⟨_, _, x13, _, _⟩ := hE
                  have e13 := x13 (by kernel_rfl)
                  refine plan_free rfl ?_
                  refine plan_value ex_move ⟨_, rfl, hS, Grows.refl _, ?_⟩
                  exact e13
                · intro a W hS hE hD
                  have k69 : a.tmps.getD 69 undef = .bool true := hD 0 69 (by kernel_rfl)
                  refine plan_free rfl ?_
                  refine plan_value ex_move ⟨_, rfl, hS, Grows.refl _, ?_⟩
                  exact k69
                · intro a W hS hE hD
                  obtain ⟨x0, _, _, _, _⟩ := hE
                  have e0 := x0 (by kernel_rfl)
                  have k70 : a.tmps.getD 70 undef = .bool true := hD 1 70 (by kernel_rfl)
                  refine plan_want rfl (by kernel_rfl) k70 ?_
                  refine plan_value ex_move ⟨_, rfl, hS, Grows.refl _, ?_⟩
                  exact e0
                · intro a W hS hE hD
                  obtain ⟨_, _, _, x14, _⟩ := hE
                  have e14 := x14 (by kernel_rfl)
                  have k70 : a.tmps.getD 70 undef = .bool true := hD 1 70 (by kernel_rfl)
                  refine plan_want rfl (by kernel_rfl) k70 ?_
                  refine plan_value ex_move ⟨_, rfl, hS, Grows.refl _, ?_⟩
                  exact e14
                · intro a W hS hE hD
                  have k70 : a.tmps.getD 70 undef = .bool true := hD 1 70 (by kernel_rfl)
                  have k71 : a.tmps.getD 71 undef = .slice (some ⟨b, off, none⟩) n0 c0 := hD 2 71 (by kernel_rfl)
                  have k72 : a.tmps.getD 72 undef = .int .i64 (i : Int) := hD 3 72 (by kernel_rfl)
                  refine plan_want rfl (by kernel_rfl) k70 ?_
                  refine plan_value (v := .pointer (some ⟨b, off + i * 6, none⟩)) (w' := W) (by go_simp) ⟨_, rfl, hS, Grows.refl _, rfl⟩
                · intro a W hS hE hD
                  have k70 : a.tmps.getD 70 undef = .bool true := hD 1 70 (by kernel_rfl)
                  have k73 : a.tmps.getD 73 undef = .pointer (some ⟨b, off + i * 6, none⟩) := hD 4 73 (by kernel_rfl)
                  refine plan_want rfl (by kernel_rfl) k70 ?_
                  refine plan_value (ex_load_mid k73 HX.out (range_below hS.bel HB.out HR.out)) ⟨_, rfl, hS, Grows.refl _, rfl⟩
                · intro a W hS hE hD
                  obtain ⟨_, x6, _, _, _⟩ := hE
                  have e6 := x6 (by kernel_rfl)
                  have k70 : a.tmps.getD 70 undef = .bool true := hD 1 70 (by kernel_rfl)
                  refine plan_want rfl (by kernel_rfl) k70 ?_
                  refine plan_value (ex_load e6 W1.out (hS.nth 0 rfl)) ⟨_, rfl, hS, Grows.refl _, rfl⟩
                · intro a W hS hE hD
                  have k70 : a.tmps.getD 70 undef = .bool true := hD 1 70 (by kernel_rfl)
                  have k74 : a.tmps.getD 74 undef = .agg (vecA X) := hD 5 74 (by kernel_rfl)
                  have k75 : a.tmps.getD 75 undef = .agg (vecA L1) := hD 6 75 (by kernel_rfl)
                  refine plan_want rfl (by kernel_rfl) k70 ?_
                  refine plan_call (f := 22) (args := #[a.tmps.getD 74 undef, a.tmps.getD 75 undef]) (by kernel_rfl) ?_
                  rw [k74, k75]
                  refine (less_any X L1 HX.out W1.out W).mono ?_
                  rintro e W2 ⟨rfl, hb⟩
                  refine ⟨_, rfl, _, rfl, hS.next hb, hb, ?_⟩
                  show _ = _
                  rw [et4.out]
                · intro a W hS hE hD
                  have k70 : a.tmps.getD 70 undef = .bool true := hD 1 70 (by kernel_rfl)
                  have k76 : a.tmps.getD 76 undef = .bool t4 := hD 7 76 (by kernel_rfl)
                  refine plan_free rfl ?_
                  refine plan_value (v := .bool t4) (w' := W) (by go_simp) ⟨_, rfl, hS, Grows.refl _, rfl⟩
                · intro a W hS hE hD
                  have k77 : a.tmps.getD 77 undef = .bool t4 := hD 8 77 (by kernel_rfl)
                  refine plan_free rfl ?_
                  refine plan_value ex_assign ⟨_, rfl, hS, Grows.refl _, ?_⟩
                  exact k77
              · intro f w8 V8 hE
                have f13 : f 13 = .bool t4 := Ends.get hE 9 _ rfl 13 rfl
                clear hE
                simp only [setAll, List.setIfInBounds_toArray, List.set_cons_zero, List.set_cons_succ]
                rw [f13]; clear f13
                clear V7
                have n50 := N0.out
                have hlt := HI.out
                go_wp2_with fail
                go_roundw
                case rel => exact ⟨i + 1, by omega, by go_num, by rw [HSU.out]; rfl, V8⟩
                case measure => simp [intOf]; omega
        · skip
          refine wp_region_plan (fun W => Vs w W [(w.heap.size, L1), (w2.heap.size, J), (w4.heap.size, M)]) Grows [IsV (.slice (some ⟨b, off, none⟩) n0 c0), IsV (.int .i64 (i : Int)), IsV (.pointer (some ⟨b, off + i * 6, none⟩)), IsV (.agg (vecA X)), IsV (.agg (vecA J)), IsV (.bool true), IsV (.bool false), IsV (.bool false), IsV (.agg (vecA M)), IsV (.slice (some ⟨b, off, none⟩) n0 c0), IsV (.int .i64 (i : Int)), IsV (.pointer (some ⟨b, off + i * 6, none⟩)), IsV (.agg (vecA X)), IsV (.bool true), IsV (.bool false), IsV (.bool false), IsV (.bool false), IsV (.slice (some ⟨b, off, none⟩) n0 c0), IsV (.int .i64 (i : Int)), IsV (.pointer (some ⟨b, off + i * 6, none⟩)), IsV (.agg (vecA X)), IsV (.int .i64 a3), IsV (.int .u64 σ), IsV (.bool true), IsV (.bool true), IsV (.agg (vecA J)), IsV (.int .i64 a3), IsV (.int .u64 σ), IsV (.bool true), IsV (.bool false), IsV (.bool false), IsV (.bool false)] ([(0, .slice (some ⟨b, off, none⟩) n0 c0), (3, .int .i64 a3), (4, .int .u64 σ), (11, .pointer (some ⟨w2.heap.size, 0, none⟩)), (12, .pointer (some ⟨w4.heap.size, 0, none⟩)), (14, .int .i64 (i : Int))] : List (Nat × Value)) (⟨rfl, rfl, rfl, rfl, rfl, rfl, trivial⟩) (n := 160) (by kernel_rfl) rfl (by kernel_rfl) (Vs.drew V6) Grows.refl (StabAll.get ?_) ?_ ?_
          · repeat (first | exact trivial | refine ⟨stab_c _, ?_⟩ | refine ⟨stab_two _ _, ?_⟩ | refine ⟨fun _ _ _ _ _ _ _ => trivial, ?_⟩)
          · refine ⟨?_, ⟨?_, ⟨?_, ⟨?_, ⟨?_, ⟨?_, ⟨?_, ⟨?_, ⟨?_, ⟨?_, ⟨?_, ⟨?_, ⟨?_, ⟨?_, ⟨?_, ⟨?_, ⟨?_, ⟨?_, ⟨?_, ⟨?_, ⟨?_, ⟨?_, ⟨?_, ⟨?_, ⟨?_, ⟨?_, ⟨?_, ⟨?_, ⟨?_, ⟨?_, ⟨?_, ⟨?_, trivial⟩⟩⟩⟩⟩⟩⟩⟩⟩⟩⟩⟩⟩⟩⟩⟩⟩⟩⟩⟩⟩⟩⟩⟩⟩⟩⟩⟩⟩⟩⟩⟩
            · intro a W hS hE hD
              obtain ⟨x0, _, _, _, _, _, _⟩ := hE
              have e0 := x0 (by kernel_rfl)
              refine plan_free rfl ?_
              refine plan_value ex_move ⟨_, rfl, hS, Grows.refl _, ?_⟩
              exact e0
            · intro a W hS hE hD
              obtain ⟨_, _, _, _, _, x14, _⟩ := hE
              have e14 := x14 (by kernel_rfl)
              refine plan_free rfl ?_
              refine plan_value ex_move ⟨_, rfl, hS, Grows.refl _, ?_⟩
              exact e14
            · intro a W hS hE hD
              have k37 : a.tmps.getD 37 undef = .slice (some ⟨b, off, none⟩) n0 c0 := hD 0 37 (by kernel_rfl)
              have k38 : a.tmps.getD 38 undef = .int .i64 (i : Int) := hD 1 38 (by kernel_rfl)
              refine plan_free rfl ?_
              refine plan_value (v := .pointer (some ⟨b, off + i * 6, none⟩)) (w' := W) (by go_simp) ⟨_, rfl, hS, Grows.refl _, rfl⟩
            · intro a W hS hE hD
              have k39 : a.tmps.getD 39 undef = .pointer (some ⟨b, off + i * 6, none⟩) := hD 2 39 (by kernel_rfl)
              refine plan_free rfl ?_
              refine plan_value (ex_load_mid k39 HX.out (range_below hS.bel HB.out HR.out)) ⟨_, rfl, hS, Grows.refl _, rfl⟩
            · intro a W hS hE hD
              obtain ⟨_, _, _, x11, _, _, _⟩ := hE
              have e11 := x11 (by kernel_rfl)
              refine plan_free rfl ?_
              refine plan_value (ex_load e11 HJ.out (hS.nth 1 rfl)) ⟨_, rfl, hS, Grows.refl _, rfl⟩
            · intro a W hS hE hD
              have k40 : a.tmps.getD 40 undef = .agg (vecA X) := hD 3 40 (by kernel_rfl)
              have k41 : a.tmps.getD 41 undef = .agg (vecA J) := hD 4 41 (by kernel_rfl)
              refine plan_free rfl ?_
              refine plan_call (f := 22) (args := #[a.tmps.getD 40 undef, a.tmps.getD 41 undef]) (by kernel_rfl) ?_
              rw [k40, k41]
              refine (less_any X J HX.out HJ.out W).mono ?_
              rintro e W2 ⟨rfl, hb⟩
              refine ⟨_, rfl, _, rfl, hS.next hb, hb, ?_⟩
              show _ = _
              rw [k1.out]
            · intro a W hS hE hD
              have k42 : a.tmps.getD 42 undef = .bool true := hD 5 42 (by kernel_rfl)
              refine plan_free rfl ?_
              refine plan_value (v := .bool false) (w' := W) (by go_simp) ⟨_, rfl, hS, Grows.refl _, rfl⟩
            · intro a W hS hE hD
              have k43 : a.tmps.getD 43 undef = .bool false := hD 6 43 (by kernel_rfl)
              refine plan_free rfl ?_
              refine plan_value ex_move ⟨_, rfl, hS, Grows.refl _, ?_⟩
              exact k43
            · intro a W hS hE hD
              obtain ⟨_, _, _, _, x12, _, _⟩ := hE
              have e12 := x12 (by kernel_rfl)
              have k44 : a.tmps.getD 44 undef = .bool false := hD 7 44 (by kernel_rfl)
              refine plan_want rfl (by kernel_rfl) k44 ?_
              refine plan_value (ex_load e12 HM.out (hS.nth 2 rfl)) ⟨_, rfl, hS, Grows.refl _, rfl⟩
            · intro a W hS hE hD
              obtain ⟨x0, _, _, _, _, _, _⟩ := hE
              have e0 := x0 (by kernel_rfl)
              have k44 : a.tmps.getD 44 undef = .bool false := hD 7 44 (by kernel_rfl)
              refine plan_want rfl (by kernel_rfl) k44 ?_
              refine plan_value ex_move ⟨_, rfl, hS, Grows.refl _, ?_⟩
              exact e0
            · intro a W hS hE hD
              obtain ⟨_, _, _, _, _, x14, _⟩ := hE
              have e14 := x14 (by kernel_rfl)
              have k44 : a.tmps.getD 44 undef = .bool false := hD 7 44 (by kernel_rfl)
              refine plan_want rfl (by kernel_rfl) k44 ?_
              refine plan_value ex_move ⟨_, rfl, hS, Grows.refl _, ?_⟩
              exact e14
            · intro a W hS hE hD
              have k44 : a.tmps.getD 44 undef = .bool false := hD 7 44 (by kernel_rfl)
              have k46 : a.tmps.getD 46 undef = .slice (some ⟨b, off, none⟩) n0 c0 := hD 9 46 (by kernel_rfl)
              have k47 : a.tmps.getD 47 undef = .int .i64 (i : Int) := hD 10 47 (by kernel_rfl)
              refine plan_want rfl (by kernel_rfl) k44 ?_
              refine plan_value (v := .pointer (some ⟨b, off + i * 6, none⟩)) (w' := W) (by go_simp) ⟨_, rfl, hS, Grows.refl _, rfl⟩
            · intro a W hS hE hD
              have k44 : a.tmps.getD 44 undef = .bool false := hD 7 44 (by kernel_rfl)
              have k48 : a.tmps.getD 48 undef = .pointer (some ⟨b, off + i * 6, none⟩) := hD 11 48 (by kernel_rfl)
              refine plan_want rfl (by kernel_rfl) k44 ?_
              refine plan_value (ex_load_mid k48 HX.out (range_below hS.bel HB.out HR.out)) ⟨_, rfl, hS, Grows.refl _, rfl⟩
            · intro a W hS hE hD
              have k44 : a.tmps.getD 44 undef = .bool false := hD 7 44 (by kernel_rfl)
              have k45 : a.tmps.getD 45 undef = .agg (vecA M) := hD 8 45 (by kernel_rfl)
              have k49 : a.tmps.getD 49 undef = .agg (vecA X) := hD 12 49 (by kernel_rfl)
              refine plan_want rfl (by kernel_rfl) k44 ?_
              refine plan_call (f := 22) (args := #[a.tmps.getD 45 undef, a.tmps.getD 49 undef]) (by kernel_rfl) ?_
              rw [k45, k49]
              refine (less_any M X HM.out HX.out W).mono ?_
              rintro e W2 ⟨rfl, hb⟩
              refine ⟨_, rfl, _, rfl, hS.next hb, hb, ?_⟩
              show _ = _
              rw [k2.out]
            · intro a W hS hE hD
              have k44 : a.tmps.getD 44 undef = .bool false := hD 7 44 (by kernel_rfl)
              have k50 : a.tmps.getD 50 undef = .bool true := hD 13 50 (by kernel_rfl)
              refine plan_want rfl (by kernel_rfl) k44 ?_
              refine plan_value (v := .bool false) (w' := W) (by go_simp) ⟨_, rfl, hS, Grows.refl _, rfl⟩
            · intro a W hS hE hD
              have k44 : a.tmps.getD 44 undef = .bool false := hD 7 44 (by kernel_rfl)
              have k51 : a.tmps.getD 51 undef = .bool false := hD 14 51 (by kernel_rfl)
              refine plan_free rfl ?_
              refine plan_value (v := .bool false) (w' := W) (by go_simp) ⟨_, rfl, hS, Grows.refl _, rfl⟩
            · intro a W hS hE hD
              have k52 : a.tmps.getD 52 undef = .bool false := hD 15 52 (by kernel_rfl)
              refine plan_free rfl ?_
              refine plan_value ex_move ⟨_, rfl, hS, Grows.refl _, ?_⟩
              exact k52
            · intro a W hS hE hD
              obtain ⟨x0, _, _, _, _, _, _⟩ := hE
              have e0 := x0 (by kernel_rfl)
              have k53 : a.tmps.getD 53 undef = .bool false := hD 16 53 (by kernel_rfl)
              refine plan_want rfl (by kernel_rfl) k53 ?_
              refine plan_value ex_move ⟨_, rfl, hS, Grows.refl _, ?_⟩
              exact e0
            · intro a W hS hE hD
              obtain ⟨_, _, _, _, _, x14, _⟩ := hE
              have e14 := x14 (by kernel_rfl)
              have k53 : a.tmps.getD 53 undef = .bool false := hD 16 53 (by kernel_rfl)
              refine plan_want rfl (by kernel_rfl) k53 ?_
              refine plan_value ex_move ⟨_, rfl, hS, Grows.refl _, ?_⟩
              exact e14
            · intro a W hS hE hD
              have k53 : a.tmps.getD 53 undef = .bool false := hD 16 53 (by kernel_rfl)
              have k54 : a.tmps.getD 54 undef = .slice (some ⟨b, off, none⟩) n0 c0 := hD 17 54 (by kernel_rfl)
              have k55 : a.tmps.getD 55 undef = .int .i64 (i : Int) := hD 18 55 (by kernel_rfl)
              refine plan_want rfl (by kernel_rfl) k53 ?_
              refine plan_value (v := .pointer (some ⟨b, off + i * 6, none⟩)) (w' := W) (by go_simp) ⟨_, rfl, hS, Grows.refl _, rfl⟩
            · intro a W hS hE hD
              have k53 : a.tmps.getD 53 undef = .bool false := hD 16 53 (by kernel_rfl)
              have k56 : a.tmps.getD 56 undef = .pointer (some ⟨b, off + i * 6, none⟩) := hD 19 56 (by kernel_rfl)
              refine plan_want rfl (by kernel_rfl) k53 ?_
              refine plan_value (ex_load_mid k56 HX.out (range_below hS.bel HB.out HR.out)) ⟨_, rfl, hS, Grows.refl _, rfl⟩
            · intro a W hS hE hD
              obtain ⟨_, x3, _, _, _, _, _⟩ := hE
              have e3 := x3 (by kernel_rfl)
              have k53 : a.tmps.getD 53 undef = .bool false := hD 16 53 (by kernel_rfl)
              refine plan_want rfl (by kernel_rfl) k53 ?_
              refine plan_value ex_move ⟨_, rfl, hS, Grows.refl _, ?_⟩
              exact e3
            · intro a W hS hE hD
              obtain ⟨_, _, x4, _, _, _, _⟩ := hE
              have e4 := x4 (by kernel_rfl)
              have k53 : a.tmps.getD 53 undef = .bool false := hD 16 53 (by kernel_rfl)
              refine plan_want rfl (by kernel_rfl) k53 ?_
              refine plan_value ex_move ⟨_, rfl, hS, Grows.refl _, ?_⟩
              exact e4
            · intro a W hS hE hD
              have k53 : a.tmps.getD 53 undef = .bool false := hD 16 53 (by kernel_rfl)
              have k57 : a.tmps.getD 57 undef = .agg (vecA X) := hD 20 57 (by kernel_rfl)
              have k58 : a.tmps.getD 58 undef = .int .i64 a3 := hD 21 58 (by kernel_rfl)
              have k59 : a.tmps.getD 59 undef = .int .u64 σ := hD 22 59 (by kernel_rfl)
              refine plan_want rfl (by kernel_rfl) k53 ?_
              refine plan_call (f := 24) (args := #[a.tmps.getD 57 undef, a.tmps.getD 58 undef, a.tmps.getD 59 undef]) (by kernel_rfl) ?_
              rw [k57, k58, k59]
              refine (HA.out W).mono ?_
              rintro e W2 ⟨rfl, hb⟩
              refine ⟨_, rfl, _, rfl, hS.next hb, hb, ?_⟩
              exact rfl
            · intro a W hS hE hD
              have k53 : a.tmps.getD 53 undef = .bool false := hD 16 53 (by kernel_rfl)
              have k60 : a.tmps.getD 60 undef = .bool true := hD 23 60 (by kernel_rfl)
              refine plan_want rfl (by kernel_rfl) k53 ?_
              refine plan_value ex_move ⟨_, rfl, hS, Grows.refl _, ?_⟩
              exact k60
            · intro a W hS hE hD
              obtain ⟨_, _, _, x11, _, _, _⟩ := hE
              have e11 := x11 (by kernel_rfl)
              have k61 : a.tmps.getD 61 undef = .bool true := hD 24 61 (by kernel_rfl)
              refine plan_want rfl (by kernel_rfl) k61 ?_
              refine plan_value (ex_load e11 HJ.out (hS.nth 1 rfl)) ⟨_, rfl, hS, Grows.refl _, rfl⟩
            · intro a W hS hE hD
              obtain ⟨_, x3, _, _, _, _, _⟩ := hE
              have e3 := x3 (by kernel_rfl)
              have k61 : a.tmps.getD 61 undef = .bool true := hD 24 61 (by kernel_rfl)
              refine plan_want rfl (by kernel_rfl) k61 ?_
              refine plan_value ex_move ⟨_, rfl, hS, Grows.refl _, ?_⟩
              exact e3
            · intro a W hS hE hD
              obtain ⟨_, _, x4, _, _, _, _⟩ := hE
              have e4 := x4 (by kernel_rfl)
              have k61 : a.tmps.getD 61 undef = .bool true := hD 24 61 (by kernel_rfl)
              refine plan_want rfl (by kernel_rfl) k61 ?_
              refine plan_value ex_move ⟨_, rfl, hS, Grows.refl _, ?_⟩
              exact e4
            · intro a W hS hE hD
              have k61 : a.tmps.getD 61 undef = .bool true := hD 24 61 (by kernel_rfl)
              have k62 : a.tmps.getD 62 undef = .agg (vecA J) := hD 25 62 (by kernel_rfl)
              have k63 : a.tmps.getD 63 undef = .int .i64 a3 := hD 26 63 (by kernel_rfl)
              have k64 : a.tmps.getD 64 undef = .int .u64 σ := hD 27 64 (by kernel_rfl)
              refine plan_want rfl (by kernel_rfl) k61 ?_
              refine plan_call (f := 24) (args := #[a.tmps.getD 62 undef, a.tmps.getD 63 undef, a.tmps.getD 64 undef]) (by kernel_rfl) ?_
              rw [k62, k63, k64]
              refine (HJA.out rfl W).mono ?_
              rintro e W2 ⟨rfl, hb⟩
              refine ⟨_, rfl, _, rfl, hS.next hb, hb, ?_⟩
              exact rfl
            · intro a W hS hE hD
              have k61 : a.tmps.getD 61 undef = .bool true := hD 24 61 (by kernel_rfl)
              have k65 : a.tmps.getD 65 undef = .bool true := hD 28 65 (by kernel_rfl)
              refine plan_want rfl (by kernel_rfl) k61 ?_
              refine plan_value (v := .bool false) (w' := W) (by go_simp) ⟨_, rfl, hS, Grows.refl _, rfl⟩
            · intro a W hS hE hD
              have k53 : a.tmps.getD 53 undef = .bool false := hD 16 53 (by kernel_rfl)
              have k61 : a.tmps.getD 61 undef = .bool true := hD 24 61 (by kernel_rfl)
              have k66 : a.tmps.getD 66 undef = .bool false := hD 29 66 (by kernel_rfl)
              refine plan_want rfl (by kernel_rfl) k53 ?_
              refine plan_value (v := .bool false) (w' := W) (by go_simp) ⟨_, rfl, hS, Grows.refl _, rfl⟩
            · intro a W hS hE hD
              have k53 : a.tmps.getD 53 undef = .bool false := hD 16 53 (by kernel_rfl)
              have k67 : a.tmps.getD 67 undef = .bool false := hD 30 67 (by kernel_rfl)
              refine plan_free rfl ?_
              refine plan_value (v := .bool false) (w' := W) (by go_simp) ⟨_, rfl, hS, Grows.refl _, rfl⟩
          · intro f w7 V7 hE
            have f68 : f 68 = .bool false := Ends.get hE 31 _ rfl 68 rfl
            clear hE
            simp only [setAll, List.setIfInBounds_toArray, List.set_cons_zero, List.set_cons_succ]
            rw [f68]; clear f68
            clear V6 HA HJA k1 k2
            go_wp2_with fail
            cases tt
            · skip
              refine wp_region_plan (fun W => Vs w W [(w.heap.size, L1), (w2.heap.size, J), (w4.heap.size, M)]) Grows [IsV (.bool false), IsV (.bool false), IsV (undef), IsV (undef), IsV (undef), IsV (undef), IsV (undef), IsV (undef), IsV (.bool false), IsV (.bool false)] ([(0, .slice (some ⟨b, off, none⟩) n0 c0), (6, .pointer (some ⟨w.heap.size, 0, none⟩)), (13, .bool false), (14, .int .i64 (i : Int))] : List (Nat × Value)) (⟨rfl, rfl, rfl, rfl, trivial⟩) (n := 160) (by kernel_rfl) rfl (by kernel_rfl) (Vs.drew V7) Grows.refl (StabAll.get ?_) ?_ ?_
              · repeat (first | exact trivial | refine ⟨stab_c _, ?_⟩ | refine ⟨stab_two _ _, ?_⟩ | refine ⟨fun _ _ _ _ _ _ _ => trivial, ?_⟩)
              · refine ⟨?_, ⟨?_, ⟨?_, ⟨?_, ⟨?_, ⟨?_, ⟨?_, ⟨?_, ⟨?_, ⟨?_, trivial⟩⟩⟩⟩⟩⟩⟩⟩⟩⟩
                · intro a W hS hE hD
                  obtain ⟨_, _, x13, _, _⟩ := hE
                  have e13 := x13 (by kernel_rfl)
                  refine plan_free rfl ?_
                  refine plan_value ex_move ⟨_, rfl, hS, Grows.refl _, ?_⟩
                  exact e13
                · intro a W hS hE hD
                  have k69 : a.tmps.getD 69 undef = .bool false := hD 0 69 (by kernel_rfl)
                  refine plan_free rfl ?_
                  refine plan_value ex_move ⟨_, rfl, hS, Grows.refl _, ?_⟩
                  exact k69
                · intro a W hS hE hD
                  have k70 : a.tmps.getD 70 undef = .bool false := hD 1 70 (by kernel_rfl)
                  refine plan_skip rfl (by kernel_rfl) k70 rfl ?_
                  exact rfl
                · intro a W hS hE hD
                  have k70 : a.tmps.getD 70 undef = .bool false := hD 1 70 (by kernel_rfl)
                  refine plan_skip rfl (by kernel_rfl) k70 rfl ?_
                  exact rfl
                · intro a W hS hE hD
                  have k70 : a.tmps.getD 70 undef = .bool false := hD 1 70 (by kernel_rfl)
                  refine plan_skip rfl (by kernel_rfl) k70 rfl ?_
                  exact rfl
                · intro a W hS hE hD
                  have k70 : a.tmps.getD 70 undef = .bool false := hD 1 70 (by kernel_rfl)
                  refine plan_skip rfl (by kernel_rfl) k70 rfl ?_
                  exact rfl
                · intro a W hS hE hD
                  have k70 : a.tmps.getD 70 undef = .bool false := hD 1 70 (by kernel_rfl)
                  refine plan_skip rfl (by kernel_rfl) k70 rfl ?_
                  exact rfl
                · intro a W hS hE hD
                  have k70 : a.tmps.getD 70 undef = .bool false := hD 1 70 (by kernel_rfl)
                  refine plan_skip rfl (by kernel_rfl) k70 rfl ?_
                  exact rfl
                · intro a W hS hE hD
                  have k70 : a.tmps.getD 70 undef = .bool false := hD 1 70 (by kernel_rfl)
                  have k76 : a.tmps.getD 76 undef = undef := hD 7 76 (by kernel_rfl)
                  refine plan_free rfl ?_
                  refine plan_value (v := .bool false) (w' := W) (by go_simp) ⟨_, rfl, hS, Grows.refl _, rfl⟩
                · intro a W hS hE hD
                  have k77 : a.tmps.getD 77 undef = .bool false := hD 8 77 (by kernel_rfl)
                  refine plan_free rfl ?_
                  refine plan_value ex_assign ⟨_, rfl, hS, Grows.refl _, ?_⟩
                  exact k77
              · intro f w8 V8 hE
                have f13 : f 13 = .bool false := Ends.get hE 9 _ rfl 13 rfl
                clear hE
                simp only [setAll, List.setIfInBounds_toArray, List.set_cons_zero, List.set_cons_succ]
                rw [f13]; clear f13
                clear V7
                have n50 := N0.out
                have hlt := HI.out
                go_wp2_with fail
                go_roundw
                case rel => exact ⟨i + 1, by omega, by go_num, by rw [HSU.out]; rfl, V8⟩
                case measure => simp [intOf]; omega
            · skip
              refine wp_region_plan (fun W => Vs w W [(w.heap.size, L1), (w2.heap.size, J), (w4.heap.size, M)]) Grows [IsV (.bool true), IsV (.bool true), IsV (.slice (some ⟨b, off, none⟩) n0 c0), IsV (.int .i64 (i : Int)), IsV (.pointer (some ⟨b, off + i * 6, none⟩)), IsV (.agg (vecA X)), IsV (.agg (vecA L1)), IsV (.bool t4), IsV (.bool t4), IsV (.bool t4)] ([(0, .slice (some ⟨b, off, none⟩) n0 c0), (6, .pointer (some ⟨w.heap.size, 0, none⟩)), (13, .bool true), (14, .int .i64 (i : Int))] : List (Nat × Value)) (⟨rfl, rfl, rfl, rfl, trivial⟩) (n := 160) (by kernel_rfl) rfl (by kernel_rfl) (Vs.drew V7) Grows.refl (StabAll.get ?_) ?_ ?_
              · repeat (first | exact trivial | refine ⟨stab_c _, ?_⟩ | refine ⟨stab_two _ _, ?_⟩ | refine ⟨fun _ _ _ _ _ _ _ => trivial, ?_⟩)
              · refine ⟨?_, ⟨?_, ⟨?_, ⟨?_, ⟨?_, ⟨?_, ⟨?_, ⟨?_, ⟨?_, ⟨?_, trivial⟩⟩⟩⟩⟩⟩⟩⟩⟩⟩
                · intro a W hS hE hD
                  obtain ⟨_, _, x13, _, _⟩ := hE
                  have e13 := x13 (by kernel_rfl)
                  refine plan_free rfl ?_
                  refine plan_value ex_move ⟨_, rfl, hS, Grows.refl _, ?_⟩
                  exact e13
                · intro a W hS hE hD
                  have k69 : a.tmps.getD 69 undef = .bool true := hD 0 69 (by kernel_rfl)
                  refine plan_free rfl ?_
                  refine plan_value ex_move ⟨_, rfl, hS, Grows.refl _, ?_⟩
                  exact k69
                · intro a W hS hE hD
                  obtain ⟨x0, _, _, _, _⟩ := hE
                  have e0 := x0 (by kernel_rfl)
                  have k70 : a.tmps.getD 70 undef = .bool true := hD 1 70 (by kernel_rfl)
                  refine plan_want rfl (by kernel_rfl) k70 ?_
                  refine plan_value ex_move ⟨_, rfl, hS, Grows.refl _, ?_⟩
                  exact e0
                · intro a W hS hE hD
                  obtain ⟨_, _, _, x14, _⟩ := hE
                  have e14 := x14 (by kernel_rfl)
                  have k70 : a.tmps.getD 70 undef = .bool true := hD 1 70 (by kernel_rfl)
                  refine plan_want rfl (by kernel_rfl) k70 ?_
                  refine plan_value ex_move ⟨_, rfl, hS, Grows.refl _, ?_⟩
                  exact e14
                · intro a W hS hE hD
                  have k70 : a.tmps.getD 70 undef = .bool true := hD 1 70 (by kernel_rfl)
                  have k71 : a.tmps.getD 71 undef = .slice (some ⟨b, off, none⟩) n0 c0 := hD 2 71 (by kernel_rfl)
                  have k72 : a.tmps.getD 72 undef = .int .i64 (i : Int) := hD 3 72 (by kernel_rfl)
                  refine plan_want rfl (by kernel_rfl) k70 ?_
                  refine plan_value (v := .pointer (some ⟨b, off + i * 6, none⟩)) (w' := W) (by go_simp) ⟨_, rfl, hS, Grows.refl _, rfl⟩
                · intro a W hS hE hD
                  have k70 : a.tmps.getD 70 undef = .bool true := hD 1 70 (by kernel_rfl)
                  have k73 : a.tmps.getD 73 undef = .pointer (some ⟨b, off + i * 6, none⟩) := hD 4 73 (by kernel_rfl)
                  refine plan_want rfl (by kernel_rfl) k70 ?_
                  refine plan_value (ex_load_mid k73 HX.out (range_below hS.bel HB.out HR.out)) ⟨_, rfl, hS, Grows.refl _, rfl⟩
                · intro a W hS hE hD
                  obtain ⟨_, x6, _, _, _⟩ := hE
                  have e6 := x6 (by kernel_rfl)
                  have k70 : a.tmps.getD 70 undef = .bool true := hD 1 70 (by kernel_rfl)
                  refine plan_want rfl (by kernel_rfl) k70 ?_
                  refine plan_value (ex_load e6 W1.out (hS.nth 0 rfl)) ⟨_, rfl, hS, Grows.refl _, rfl⟩
                · intro a W hS hE hD
                  have k70 : a.tmps.getD 70 undef = .bool true := hD 1 70 (by kernel_rfl)
                  have k74 : a.tmps.getD 74 undef = .agg (vecA X) := hD 5 74 (by kernel_rfl)
                  have k75 : a.tmps.getD 75 undef = .agg (vecA L1) := hD 6 75 (by kernel_rfl)
                  refine plan_want rfl (by kernel_rfl) k70 ?_
                  refine plan_call (f := 22) (args := #[a.tmps.getD 74 undef, a.tmps.getD 75 undef]) (by kernel_rfl) ?_
                  rw [k74, k75]
                  refine (less_any X L1 HX.out W1.out W).mono ?_
                  rintro e W2 ⟨rfl, hb⟩
                  refine ⟨_, rfl, _, rfl, hS.next hb, hb, ?_⟩
                  show _ = _
                  rw [et4.out]
                · intro a W hS hE hD
                  have k70 : a.tmps.getD 70 undef = .bool true := hD 1 70 (by kernel_rfl)
                  have k76 : a.tmps.getD 76 undef = .bool t4 := hD 7 76 (by kernel_rfl)
                  refine plan_free rfl ?_
                  refine plan_value (v := .bool t4) (w' := W) (by go_simp) ⟨_, rfl, hS, Grows.refl _, rfl⟩
                · intro a W hS hE hD
                  have k77 : a.tmps.getD 77 undef = .bool t4 := hD 8 77 (by kernel_rfl)
                  refine plan_free rfl ?_
                  refine plan_value ex_assign ⟨_, rfl, hS, Grows.refl _, ?_⟩
                  exact k77
              · intro f w8 V8 hE
                have f13 : f 13 = .bool t4 := Ends.get hE 9 _ rfl 13 rfl
                clear hE
                simp only [setAll, List.setIfInBounds_toArray, List.set_cons_zero, List.set_cons_succ]
                rw [f13]; clear f13
                clear V7
                have n50 := N0.out
                have hlt := HI.out
                go_wp2_with fail
                go_roundw
                case rel => exact ⟨i + 1, by omega, by go_num, by rw [HSU.out]; rfl, V8⟩
                case measure => simp [intOf]; omega
      · have hge : ¬ ((i : Int) < (n0 : Int)) := by omega
        obtain ⟨tt, ett⟩ : ∃ t, Hid (lessV J L1 = t) := ⟨_, Lib.hid rfl⟩
        have hall : (l0.take i).all (fun u => lessV u L1) = tt := by
          have : i = l0.length := by have := hn0.out; omega
          rw [this, List.take_length, ← less_joinV W1.out l0 S0.out, eJ.out]; exact ett.out
        rw [hall]
        clear hall
        have r0 := Vs.load (w := w) (l := [(w.heap.size, L1), (w2.heap.size, J), (w4.heap.size, M)]) 0 rfl W1.out
        have r1 := Vs.load (w := w) (l := [(w.heap.size, L1), (w2.heap.size, J), (w4.heap.size, M)]) 1 rfl HJ.out
        go_wp2_with fail
        refine (less_any J L1 HJ.out W1.out _).mono ?_
        rintro e w9 ⟨rfl, hb⟩
        rw [ett.out]
        have V9 := V6.next hb
        clear V6 hb r0 r1 hge ett hlt hi
        go_wp2_with fail
        have HV9 := Lib.hid V9
        clear V9
        go_loopw [15, 16] (fun sl v wr => ∃ (i m : Nat) (A' : Option Addr) (c' : Nat) (ls : List (List Nat)), i ≤ nb ∧ v = .int .i64 (i : Int) ∧ sl = .slice A' m c' ∧ m ≤ i ∧ m = ls.length ∧ (∀ u ∈ ls, u ∈ l0) ∧ OwnV wr w9.heap.size (.slice A' m c') ls ∧ Below w9.heap.size w9 wr ∧ w9.heap.size ≤ wr.heap.size) (fun _ v _ => nb - (intOf v).toNat)
        case atStart => exact ⟨0, 0, none, 0, [], by omega, rfl, rfl, by omega, rfl, (fun u hu => by cases hu), OwnV.nil_ _ _, Below.refl _ _, Nat.le_refl _⟩
        case round =>
          obtain ⟨i, m, A', c', ls, hi, rfl, rfl, hmi, hml, hsub, hown, hbw, hsz⟩ := hrel
          have HML := Lib.hid hml
          have HSUB := Lib.hid hsub
          have HMI := Lib.hid hmi
          clear hml hsub hmi
          by_cases hlt : i < nb
          · by_cases hp : 0 < n0
            · have hlt' : (i : Int) < (nb : Int) := by omega
              have hp' : (0 : Int) < (n0 : Int) := by omega
              have hib : i < b2.length := by rw [← hnb.out]; exact hlt
              obtain ⟨bb, bo, rfl, hbB, hbc⟩ := D2.out.at_ hib
              obtain ⟨vb, vo, rfl, hvB, hvc⟩ := D0.out (by rw [← hn0.out]; exact hp)
              have hz : Below w.heap.size w wr := HV9.out.bel.trans (hbw.mono HV9.out.bel.size)
              have cb := (hz.cell (p := ⟨bb, bo + i, none⟩) hbB).trans hbc
              have hx : b2[i].toNat ≤ 255 := by have := b2[i].toNat_lt; omega
              generalize b2[i].toNat = x at cb hx
              obtain ⟨q, hq⟩ : ∃ q, Hid (x % n0 = q) := ⟨_, Lib.hid rfl⟩
              have hqn : q < n0 := by rw [← hq.out]; exact Nat.mod_lt _ hp
              have hql : q < l0.length := by rw [← hn0.out]; exact hqn
              have hq2 : ((x : Int)).tmod (n0 : Int) = (q : Int) := by rw [← hq.out]; rfl
              obtain ⟨hX6, hXr⟩ := hvc q l0[q] (List.getElem?_eq_getElem hql)
              have hXm : l0[q] ∈ l0 := List.getElem_mem hql
              have rX := range_below hz hvB hXr
              generalize l0[q] = X at hX6 hXm rX
              have HX := Lib.hid hX6
              have HXM := Lib.hid hXm
              have lX : (loadV (.pointer (some ⟨vb, vo + q * 6, none⟩))).run Try.prog wr = .ok (.agg (vecA X)) wr := run_loadV_mid HX.out rX
              have bX : ∀ W : World, (buildV 1 #[(0, .agg (vecA X))]).run Try.prog W = .ok (.slice (some ⟨W.heap.size, 0, none⟩) 1 1) (W.alloc (.cells (vecL X).toArray 24)) := fun W => run_buildV1 HX.out
              have own3 : OwnV (wr.alloc (.cells (vecL X).toArray 24)) w9.heap.size (.slice A' m c') ls := hown.below ((Below.refl _ _).alloc (Nat.le_refl _) _)
              have hbw3 := hbw.alloc hsz (.cells (vecL X).toArray 24)
              have hlt3 : ls.length + 1 ≤ 1099511627776 := by have h1 := HML.out; have h2 := HMI.out; have h3 := NB.out; omega
              have H6 := Lib.hid (fun u hu => S0.out u (HSUB.out u hu) : ∀ u ∈ ls, u.length = 6)
              have HI := Lib.hid hlt
              have q0 : (0 : Int) ≤ (q : Int) := by omega
              have q1 : (q : Int) < (n0 : Int) := by omega
              have nb1 := NB.out
              clear hbc hvc hXr hX6 hXm rX hz hql hib hown hbw
              go_wp2_with (refine wpList_appV rfl _ _ rfl w9.heap.size _ ls X HX.out wr.heap.size 1 rfl rfl (Blk.new wr _ _) own3 H6.out hlt3 w9 hbw3 (by simp; omega) (m + 1) (by rw [HML.out]) ?_; intro A5 c5 w5 own5 hbw5 hsz5; clear own3 hbw3 hlt3)
              exact ⟨⟨i + 1, m + 1, A5, c5, ls ++ [X], by omega, by go_num, rfl, by have := HMI.out; omega, by rw [List.length_append, HML.out]; rfl, (fun u hu => by
                rcases List.mem_append.1 hu with h | h
                · exact HSUB.out u h
                · rw [List.mem_singleton.1 h]; exact HXM.out), own5, hbw5, hsz5⟩, by simp [intOf]; omega⟩
            · have hp' : ¬ (0 : Int) < (n0 : Int) := by omega
              have hlt' : (i : Int) < (nb : Int) := by omega
              have nb1 := NB.out
              have n01 := N0.out
              go_wp2_with fail
              have HOWN := Lib.hid hown
              have HBW := Lib.hid hbw
              have HSZ := Lib.hid hsz
              clear hown hbw hsz
              go_loopw [15, 17] (fun sl v wr => ∃ (k m : Nat) (z : Int) (A' : Option Addr) (c' : Nat) (ls : List (List Nat)), k ≤ n0 ∧ z = (k : Int) - 1 ∧ v = .int .i64 z ∧ sl = .slice A' m c' ∧ m + k ≤ 100 + n0 ∧ m = ls.length ∧ (∀ u ∈ ls, u ∈ l0) ∧ (∀ (j : Nat) (u : List Nat), k ≤ j → l0[j]? = some u → u ∈ ls) ∧ OwnV wr w9.heap.size (.slice A' m c') ls ∧ Below w9.heap.size w9 wr ∧ w9.heap.size ≤ wr.heap.size) (fun _ v _ => (intOf v + 1).toNat)
              case atStart =>
                exact ⟨n0, m, _, A', c', ls, by omega, rfl, rfl, rfl, by have := HMI.out; omega, HML.out, HSUB.out, (fun j u hj hu => by
                  rw [List.getElem?_eq_none (by rw [← hn0.out]; exact hj)] at hu; cases hu), HOWN.out, HBW.out, HSZ.out⟩
              case round =>
                clear HOWN HBW HSZ HML HSUB HMI
                obtain ⟨k, m, z, A', c', ls, hk, hz, rfl, rfl, hmk, hml, hsub, hall, hown, hbw, hsz⟩ := hrel
                have HML := Lib.hid hml
                have HSUB := Lib.hid hsub
                have HMK := Lib.hid hmk
                have HALL := Lib.hid hall
                have H6 := Lib.hid (fun u hu => S0.out u (hsub u hu) : ∀ u ∈ ls, u.length = 6)
                clear hml hsub hmk hall
                by_cases hk0 : 0 < k
                · obtain ⟨q, rfl⟩ : ∃ q, k = q + 1 := ⟨k - 1, by omega⟩
                  obtain rfl : z = (q : Int) := by omega
                  clear hz
                  obtain ⟨vb, vo, rfl, hvB, hvc⟩ := D0.out (by rw [← hn0.out]; omega)
                  have hz : Below w.heap.size w wr := HV9.out.bel.trans (hbw.mono HV9.out.bel.size)
                  have hqn : q < n0 := by omega
                  have hql : q < l0.length := by rw [← hn0.out]; exact hqn
                  obtain ⟨hX6, hXr⟩ := hvc q l0[q] (List.getElem?_eq_getElem hql)
                  have hXm : l0[q] ∈ l0 := List.getElem_mem hql
                  have hXq : l0[q]? = some l0[q] := List.getElem?_eq_getElem hql
                  have rX := range_below hz hvB hXr
                  generalize l0[q] = X at hX6 hXm rX hXq
                  have HX := Lib.hid hX6
                  have HXM := Lib.hid hXm
                  have HXQ := Lib.hid hXq
                  have lX : (loadV (.pointer (some ⟨vb, vo + q * 6, none⟩))).run Try.prog wr = .ok (.agg (vecA X)) wr := run_loadV_mid HX.out rX
                  have bX : ∀ W : World, (buildV 1 #[(0, .agg (vecA X))]).run Try.prog W = .ok (.slice (some ⟨W.heap.size, 0, none⟩) 1 1) (W.alloc (.cells (vecL X).toArray 24)) := fun W => run_buildV1 HX.out
                  have own3 : OwnV (wr.alloc (.cells (vecL X).toArray 24)) w9.heap.size (.slice A' m c') ls := hown.below ((Below.refl _ _).alloc (Nat.le_refl _) _)
                  have hbw3 := hbw.alloc hsz (.cells (vecL X).toArray 24)
                  have hlt3 : ls.length + 1 ≤ 1099511627776 := by have h1 := HML.out; have h2 := HMK.out; omega
                  have q0 : (0 : Int) ≤ (q : Int) := by omega
                  have q1 : (q : Int) < (n0 : Int) := by omega
                  clear hvc hXr hX6 hXm rX hz hql hown hbw hXq hk0
                  go_wp2_with (refine wpList_appV rfl _ _ rfl w9.heap.size _ ls X HX.out wr.heap.size 1 rfl rfl (Blk.new wr _ _) own3 H6.out hlt3 w9 hbw3 (by simp; omega) (m + 1) (by rw [HML.out]) ?_; intro A5 c5 w5 own5 hbw5 hsz5; clear own3 hbw3 hlt3)
                  exact ⟨⟨q, m + 1, _, A5, c5, ls ++ [X], by omega, rfl, by go_num, rfl, by have := HMK.out; omega, by rw [List.length_append, HML.out]; rfl, (fun u hu => by
                    rcases List.mem_append.1 hu with h | h
                    · exact HSUB.out u h
                    · rw [List.mem_singleton.1 h]; exact HXM.out), (fun j u hj hu => by
                      by_cases hjq : j = q
                      · subst hjq
                        rw [HXQ.out] at hu
                        injection hu with hu
                        subst hu
                        simp
                      · exact List.mem_append.2 (.inl (HALL.out j u (by omega) hu))), own5, hbw5, hsz5⟩, by simp [intOf] <;> omega⟩
                · obtain rfl : k = 0 := by omega
                  obtain rfl : z = -1 := by omega
                  have JS : Hid (joinV ls = J) := by
                    show _ = _
                    rw [← eJ.out]
                    refine join_same S0.out HSUB.out (fun v hv => ?_)
                    obtain ⟨j, hj, rfl⟩ := List.mem_iff_getElem.1 hv
                    exact HALL.out j _ (Nat.zero_le _) (List.getElem?_eq_getElem hj)
                  have JJ := Lib.hid (join_self HJ.out)
                  have JM : Hid (joinV [J, M] = J) := by
                    show _ = _
                    have := join_meet l0 S0.out
                    rwa [eJ.out, eM.out] at this
                  obtain ⟨P, eP⟩ : ∃ P, Hid (joinV [J, L1] = P) := ⟨_, Lib.hid rfl⟩
                  have HP : Hid (P.length = 6) := by show _ = _; rw [← eP.out]; exact jlen HJ.out W1.out
                  have k5 : Hid (lessV J P = true) := by
                    show _ = _
                    rw [← eP.out]; exact join_ge [J, L1] (by simp [HJ.out, W1.out]) (by simp)
                  have k6 : Hid (lackV P L1 = 0) := by
                    show _ = _
                    refine lack_none ?_
                    rw [← eP.out]; exact join_ge [J, L1] (by simp [HJ.out, W1.out]) (by simp)
                  have qJ : ∀ W, (Op.equalIn 10000 24 (.agg (vecA J)) (.agg (vecA J))).run Try.prog W = .ok true W := vec_same HJ.out rfl
                  have VR := HV9.out.next hbw
                  obtain ⟨A6, c6, hv6, hVs, _⟩ := hown.open_ H6.out
                  injection hv6 with h61 h62 h63
                  subst h61 h63
                  have NLS := Lib.hid (show ls.length ≤ 1099511627776 by have h1 := HML.out; have h2 := HMK.out; omega)
                  have VS := Lib.hid hVs
                  have VRH := Lib.hid VR
                  clear hown hVs h62 HALL hbw hsz VR hk0 hz hk
                  go_wp2_with fail
                  refine wp_region_plan (fun W => Vs w W [(w.heap.size, L1), (w2.heap.size, J), (w4.heap.size, M)] ∧ Vecs W W.heap.size A' ls) Grows [IsV (.slice A' m c'), IsV (.agg (vecA J)), IsV (.agg (vecA J)), IsV (.bool false), IsV (.bool false), IsV (.agg (vecA J)), IsV (.agg (vecA J)), TwoV J J, IsV (.agg (vecA J)), IsV (.agg (vecA J)), IsV (.bool false), IsV (.bool false), IsV (.bool false), IsV (.agg (vecA J)), IsV (.agg (vecA M)), TwoV J M, IsV (.agg (vecA J)), IsV (.agg (vecA J)), IsV (.bool false), IsV (.bool false)] ([(11, .pointer (some ⟨w2.heap.size, 0, none⟩)), (12, .pointer (some ⟨w4.heap.size, 0, none⟩)), (15, .slice A' m c')] : List (Nat × Value)) (⟨rfl, rfl, rfl, trivial⟩) (n := 160) (by kernel_rfl) rfl (by kernel_rfl) ⟨Vs.drew VRH.out, VS.out.below (Below.drew (Below.refl _ _))⟩ Grows.refl (StabAll.get ?_) ?_ ?_
                  · repeat (first | exact trivial | refine ⟨stab_c _, ?_⟩ | refine ⟨stab_two _ _, ?_⟩ | refine ⟨fun _ _ _ _ _ _ _ => trivial, ?_⟩)
                  · refine ⟨?_, ⟨?_, ⟨?_, ⟨?_, ⟨?_, ⟨?_, ⟨?_, ⟨?_, ⟨?_, ⟨?_, ⟨?_, ⟨?_, ⟨?_, ⟨?_, ⟨?_, ⟨?_, ⟨?_, ⟨?_, ⟨?_, ⟨?_, trivial⟩⟩⟩⟩⟩⟩⟩⟩⟩⟩⟩⟩⟩⟩⟩⟩⟩⟩⟩⟩
                    · intro a W hS hE hD
                      obtain ⟨_, _, x15, _⟩ := hE
                      have e15 := x15 (by kernel_rfl)
                      refine plan_free rfl ?_
                      refine plan_value ex_move ⟨_, rfl, hS, Grows.refl _, ?_⟩
                      exact e15
                    · intro a W hS hE hD
                      have k122 : a.tmps.getD 122 undef = .slice A' m c' := hD 0 122 (by kernel_rfl)
                      refine plan_free rfl ?_
                      refine plan_call (f := 28) (args := #[a.tmps.getD 122 undef]) (by kernel_rfl) ?_
                      rw [k122]
                      refine (join_any A' m c' ls W hS.2 H6.out HML.out NLS.out).mono ?_
                      rintro e W2 ⟨rfl, hb⟩
                      refine ⟨_, rfl, _, rfl, ⟨hS.1.next hb, (hS.2.below hb).more hb.size⟩, hb, ?_⟩
                      show _ = _
                      rw [JS.out]
                    · intro a W hS hE hD
                      obtain ⟨x11, _, _, _⟩ := hE
                      have e11 := x11 (by kernel_rfl)
                      refine plan_free rfl ?_
                      refine plan_value (ex_load e11 HJ.out (hS.1.nth 1 rfl)) ⟨_, rfl, hS, Grows.refl _, rfl⟩
                    · intro a W hS hE hD
                      have k123 : a.tmps.getD 123 undef = .agg (vecA J) := hD 1 123 (by kernel_rfl)
                      have k124 : a.tmps.getD 124 undef = .agg (vecA J) := hD 2 124 (by kernel_rfl)
                      refine plan_free rfl ?_
                      refine plan_value (v := .bool false) (w' := W) (by go_simp) ⟨_, rfl, hS, Grows.refl _, rfl⟩
                    · intro a W hS hE hD
                      have k125 : a.tmps.getD 125 undef = .bool false := hD 3 125 (by kernel_rfl)
                      refine plan_free rfl ?_
                      refine plan_value ex_move ⟨_, rfl, hS, Grows.refl _, ?_⟩
                      exact k125
                    · intro a W hS hE hD
                      obtain ⟨x11, _, _, _⟩ := hE
                      have e11 := x11 (by kernel_rfl)
                      have k126 : a.tmps.getD 126 undef = .bool false := hD 4 126 (by kernel_rfl)
                      refine plan_want rfl (by kernel_rfl) k126 ?_
                      refine plan_value (ex_load e11 HJ.out (hS.1.nth 1 rfl)) ⟨_, rfl, hS, Grows.refl _, rfl⟩
                    · intro a W hS hE hD
                      obtain ⟨x11, _, _, _⟩ := hE
                      have e11 := x11 (by kernel_rfl)
                      have k126 : a.tmps.getD 126 undef = .bool false := hD 4 126 (by kernel_rfl)
                      refine plan_want rfl (by kernel_rfl) k126 ?_
                      refine plan_value (ex_load e11 HJ.out (hS.1.nth 1 rfl)) ⟨_, rfl, hS, Grows.refl _, rfl⟩
                    · intro a W hS hE hD
                      have k126 : a.tmps.getD 126 undef = .bool false := hD 4 126 (by kernel_rfl)
                      have k127 : a.tmps.getD 127 undef = .agg (vecA J) := hD 5 127 (by kernel_rfl)
                      have k128 : a.tmps.getD 128 undef = .agg (vecA J) := hD 6 128 (by kernel_rfl)
                      refine plan_want rfl (by kernel_rfl) k126 ?_
                      refine plan_value (ex_build k127 k128 HJ.out HJ.out) ⟨_, rfl, ⟨hS.1.alloc _, (hS.2.below (Grows.alloc _ _)).more (Grows.alloc _ _).size⟩, Grows.alloc _ _, ⟨_, rfl, Blk.new _ _ _⟩⟩
                    · intro a W hS hE hD
                      have k126 : a.tmps.getD 126 undef = .bool false := hD 4 126 (by kernel_rfl)
                      obtain ⟨g129, k129, b129⟩ : TwoV J J (a.tmps.getD 129 undef) W := hD 7 129 (by kernel_rfl)
                      refine plan_want rfl (by kernel_rfl) k126 ?_
                      refine plan_call (f := 28) (args := #[a.tmps.getD 129 undef]) (by kernel_rfl) ?_
                      rw [k129]
                      refine (join_two J J HJ.out HJ.out g129 2 W b129).mono ?_
                      rintro e W2 ⟨rfl, hb⟩
                      refine ⟨_, rfl, _, rfl, ⟨hS.1.next hb, (hS.2.below hb).more hb.size⟩, hb, ?_⟩
                      show _ = _
                      rw [JJ.out]
                    · intro a W hS hE hD
                      obtain ⟨x11, _, _, _⟩ := hE
                      have e11 := x11 (by kernel_rfl)
                      have k126 : a.tmps.getD 126 undef = .bool false := hD 4 126 (by kernel_rfl)
                      refine plan_want rfl (by kernel_rfl) k126 ?_
                      refine plan_value (ex_load e11 HJ.out (hS.1.nth 1 rfl)) ⟨_, rfl, hS, Grows.refl _, rfl⟩
                    · intro a W hS hE hD
                      have k126 : a.tmps.getD 126 undef = .bool false := hD 4 126 (by kernel_rfl)
                      have k130 : a.tmps.getD 130 undef = .agg (vecA J) := hD 8 130 (by kernel_rfl)
                      have k131 : a.tmps.getD 131 undef = .agg (vecA J) := hD 9 131 (by kernel_rfl)
                      refine plan_want rfl (by kernel_rfl) k126 ?_
                      refine plan_value (v := .bool false) (w' := W) (by go_simp) ⟨_, rfl, hS, Grows.refl _, rfl⟩
                    · intro a W hS hE hD
                      have k126 : a.tmps.getD 126 undef = .bool false := hD 4 126 (by kernel_rfl)
                      have k132 : a.tmps.getD 132 undef = .bool false := hD 10 132 (by kernel_rfl)
                      refine plan_free rfl ?_
                      refine plan_value (v := .bool false) (w' := W) (by go_simp) ⟨_, rfl, hS, Grows.refl _, rfl⟩
                    · intro a W hS hE hD
                      have k133 : a.tmps.getD 133 undef = .bool false := hD 11 133 (by kernel_rfl)
                      refine plan_free rfl ?_
                      refine plan_value ex_move ⟨_, rfl, hS, Grows.refl _, ?_⟩
                      exact k133
                    · intro a W hS hE hD
                      obtain ⟨x11, _, _, _⟩ := hE
                      have e11 := x11 (by kernel_rfl)
                      have k134 : a.tmps.getD 134 undef = .bool false := hD 12 134 (by kernel_rfl)
                      refine plan_want rfl (by kernel_rfl) k134 ?_
                      refine plan_value (ex_load e11 HJ.out (hS.1.nth 1 rfl)) ⟨_, rfl, hS, Grows.refl _, rfl⟩
                    · intro a W hS hE hD
                      obtain ⟨_, x12, _, _⟩ := hE
                      have e12 := x12 (by kernel_rfl)
                      have k134 : a.tmps.getD 134 undef = .bool false := hD 12 134 (by kernel_rfl)
                      refine plan_want rfl (by kernel_rfl) k134 ?_
                      refine plan_value (ex_load e12 HM.out (hS.1.nth 2 rfl)) ⟨_, rfl, hS, Grows.refl _, rfl⟩
                    · intro a W hS hE hD
                      have k134 : a.tmps.getD 134 undef = .bool false := hD 12 134 (by kernel_rfl)
                      have k135 : a.tmps.getD 135 undef = .agg (vecA J) := hD 13 135 (by kernel_rfl)
                      have k136 : a.tmps.getD 136 undef = .agg (vecA M) := hD 14 136 (by kernel_rfl)
                      refine plan_want rfl (by kernel_rfl) k134 ?_
                      refine plan_value (ex_build k135 k136 HJ.out HM.out) ⟨_, rfl, ⟨hS.1.alloc _, (hS.2.below (Grows.alloc _ _)).more (Grows.alloc _ _).size⟩, Grows.alloc _ _, ⟨_, rfl, Blk.new _ _ _⟩⟩
                    · intro a W hS hE hD
                      have k134 : a.tmps.getD 134 undef = .bool false := hD 12 134 (by kernel_rfl)
                      obtain ⟨g137, k137, b137⟩ : TwoV J M (a.tmps.getD 137 undef) W := hD 15 137 (by kernel_rfl)
                      refine plan_want rfl (by kernel_rfl) k134 ?_
                      refine plan_call (f := 28) (args := #[a.tmps.getD 137 undef]) (by kernel_rfl) ?_
                      rw [k137]
                      refine (join_two J M HJ.out HM.out g137 2 W b137).mono ?_
                      rintro e W2 ⟨rfl, hb⟩
                      refine ⟨_, rfl, _, rfl, ⟨hS.1.next hb, (hS.2.below hb).more hb.size⟩, hb, ?_⟩
                      show _ = _
                      rw [JM.out]
                    · intro a W hS hE hD
                      obtain ⟨x11, _, _, _⟩ := hE
                      have e11 := x11 (by kernel_rfl)
                      have k134 : a.tmps.getD 134 undef = .bool false := hD 12 134 (by kernel_rfl)
                      refine plan_want rfl (by kernel_rfl) k134 ?_
                      refine plan_value (ex_load e11 HJ.out (hS.1.nth 1 rfl)) ⟨_, rfl, hS, Grows.refl _, rfl⟩
                    · intro a W hS hE hD
                      have k134 : a.tmps.getD 134 undef = .bool false := hD 12 134 (by kernel_rfl)
                      have k138 : a.tmps.getD 138 undef = .agg (vecA J) := hD 16 138 (by kernel_rfl)
                      have k139 : a.tmps.getD 139 undef = .agg (vecA J) := hD 17 139 (by kernel_rfl)
                      refine plan_want rfl (by kernel_rfl) k134 ?_
                      refine plan_value (v := .bool false) (w' := W) (by go_simp) ⟨_, rfl, hS, Grows.refl _, rfl⟩
                    · intro a W hS hE hD
                      have k134 : a.tmps.getD 134 undef = .bool false := hD 12 134 (by kernel_rfl)
                      have k140 : a.tmps.getD 140 undef = .bool false := hD 18 140 (by kernel_rfl)
                      refine plan_free rfl ?_
                      refine plan_value (v := .bool false) (w' := W) (by go_simp) ⟨_, rfl, hS, Grows.refl _, rfl⟩
                  · intro f w20 V20 hE
                    have f141 : f 141 = .bool false := Ends.get hE 19 _ rfl 141 rfl
                    clear hE
                    simp only [setAll, List.setIfInBounds_toArray, List.set_cons_zero, List.set_cons_succ]
                    rw [f141]; clear f141
                    clear VRH VS
                    obtain ⟨V21, V22⟩ := V20
                    go_wp2_with fail
                    refine wp_region_plan (fun W => Vs w W [(w.heap.size, L1), (w2.heap.size, J), (w4.heap.size, M)] ∧ Vecs W W.heap.size A' ls) Grows [IsV (.agg (vecA J)), IsV (.agg (vecA J)), IsV (.agg (vecA L1)), TwoV J L1, IsV (.agg (vecA P)), IsV (.bool true), IsV (.bool true), IsV (.agg (vecA J)), IsV (.agg (vecA L1)), TwoV J L1, IsV (.agg (vecA P)), IsV (.agg (vecA L1)), IsV (.int .u64 0), IsV (.bool true), IsV (.bool true), IsV (.bool true), IsV (.bool true), IsV (.bool true), IsV (.bool true)] ([(6, .pointer (some ⟨w.heap.size, 0, none⟩)), (11, .pointer (some ⟨w2.heap.size, 0, none⟩))] : List (Nat × Value)) (⟨rfl, rfl, trivial⟩) (n := 160) (by kernel_rfl) rfl (by kernel_rfl) ⟨Vs.drew V21, V22.below (Below.drew (Below.refl _ _))⟩ Grows.refl (StabAll.get ?_) ?_ ?_
                    · repeat (first | exact trivial | refine ⟨stab_c _, ?_⟩ | refine ⟨stab_two _ _, ?_⟩ | refine ⟨fun _ _ _ _ _ _ _ => trivial, ?_⟩)
                    · refine ⟨?_, ⟨?_, ⟨?_, ⟨?_, ⟨?_, ⟨?_, ⟨?_, ⟨?_, ⟨?_, ⟨?_, ⟨?_, ⟨?_, ⟨?_, ⟨?_, ⟨?_, ⟨?_, ⟨?_, ⟨?_, ⟨?_, trivial⟩⟩⟩⟩⟩⟩⟩⟩⟩⟩⟩⟩⟩⟩⟩⟩⟩⟩⟩
                      · intro a W hS hE hD
                        obtain ⟨_, x11, _⟩ := hE
                        have e11 := x11 (by kernel_rfl)
                        refine plan_free rfl ?_
                        refine plan_value (ex_load e11 HJ.out (hS.1.nth 1 rfl)) ⟨_, rfl, hS, Grows.refl _, rfl⟩
                      · intro a W hS hE hD
                        obtain ⟨_, x11, _⟩ := hE
                        have e11 := x11 (by kernel_rfl)
                        refine plan_free rfl ?_
                        refine plan_value (ex_load e11 HJ.out (hS.1.nth 1 rfl)) ⟨_, rfl, hS, Grows.refl _, rfl⟩
                      · intro a W hS hE hD
                        obtain ⟨x6, _, _⟩ := hE
                        have e6 := x6 (by kernel_rfl)
                        refine plan_free rfl ?_
                        refine plan_value (ex_load e6 W1.out (hS.1.nth 0 rfl)) ⟨_, rfl, hS, Grows.refl _, rfl⟩
                      · intro a W hS hE hD
                        have k143 : a.tmps.getD 143 undef = .agg (vecA J) := hD 1 143 (by kernel_rfl)
                        have k144 : a.tmps.getD 144 undef = .agg (vecA L1) := hD 2 144 (by kernel_rfl)
                        refine plan_free rfl ?_
                        refine plan_value (ex_build k143 k144 HJ.out W1.out) ⟨_, rfl, ⟨hS.1.alloc _, (hS.2.below (Grows.alloc _ _)).more (Grows.alloc _ _).size⟩, Grows.alloc _ _, ⟨_, rfl, Blk.new _ _ _⟩⟩
                      · intro a W hS hE hD
                        obtain ⟨g145, k145, b145⟩ : TwoV J L1 (a.tmps.getD 145 undef) W := hD 3 145 (by kernel_rfl)
                        refine plan_free rfl ?_
                        refine plan_call (f := 28) (args := #[a.tmps.getD 145 undef]) (by kernel_rfl) ?_
                        rw [k145]
                        refine (join_two J L1 HJ.out W1.out g145 2 W b145).mono ?_
                        rintro e W2 ⟨rfl, hb⟩
                        refine ⟨_, rfl, _, rfl, ⟨hS.1.next hb, (hS.2.below hb).more hb.size⟩, hb, ?_⟩
                        show _ = _
                        rw [eP.out]
                      · intro a W hS hE hD
                        have k142 : a.tmps.getD 142 undef = .agg (vecA J) := hD 0 142 (by kernel_rfl)
                        have k146 : a.tmps.getD 146 undef = .agg (vecA P) := hD 4 146 (by kernel_rfl)
                        refine plan_free rfl ?_
                        refine plan_call (f := 22) (args := #[a.tmps.getD 142 undef, a.tmps.getD 146 undef]) (by kernel_rfl) ?_
                        rw [k142, k146]
                        refine (less_any J P HJ.out HP.out W).mono ?_
                        rintro e W2 ⟨rfl, hb⟩
                        refine ⟨_, rfl, _, rfl, ⟨hS.1.next hb, (hS.2.below hb).more hb.size⟩, hb, ?_⟩
                        show _ = _
                        rw [k5.out]
                      · intro a W hS hE hD
                        have k147 : a.tmps.getD 147 undef = .bool true := hD 5 147 (by kernel_rfl)
                        refine plan_free rfl ?_
                        refine plan_value ex_move ⟨_, rfl, hS, Grows.refl _, ?_⟩
                        exact k147
                      · intro a W hS hE hD
                        obtain ⟨_, x11, _⟩ := hE
                        have e11 := x11 (by kernel_rfl)
                        have k148 : a.tmps.getD 148 undef = .bool true := hD 6 148 (by kernel_rfl)
                        refine plan_want rfl (by kernel_rfl) k148 ?_
                        refine plan_value (ex_load e11 HJ.out (hS.1.nth 1 rfl)) ⟨_, rfl, hS, Grows.refl _, rfl⟩
                      · intro a W hS hE hD
                        obtain ⟨x6, _, _⟩ := hE
                        have e6 := x6 (by kernel_rfl)
                        have k148 : a.tmps.getD 148 undef = .bool true := hD 6 148 (by kernel_rfl)
                        refine plan_want rfl (by kernel_rfl) k148 ?_
                        refine plan_value (ex_load e6 W1.out (hS.1.nth 0 rfl)) ⟨_, rfl, hS, Grows.refl _, rfl⟩
                      · intro a W hS hE hD
                        have k148 : a.tmps.getD 148 undef = .bool true := hD 6 148 (by kernel_rfl)
                        have k149 : a.tmps.getD 149 undef = .agg (vecA J) := hD 7 149 (by kernel_rfl)
                        have k150 : a.tmps.getD 150 undef = .agg (vecA L1) := hD 8 150 (by kernel_rfl)
                        refine plan_want rfl (by kernel_rfl) k148 ?_
                        refine plan_value (ex_build k149 k150 HJ.out W1.out) ⟨_, rfl, ⟨hS.1.alloc _, (hS.2.below (Grows.alloc _ _)).more (Grows.alloc _ _).size⟩, Grows.alloc _ _, ⟨_, rfl, Blk.new _ _ _⟩⟩
                      · intro a W hS hE hD
                        have k148 : a.tmps.getD 148 undef = .bool true := hD 6 148 (by kernel_rfl)
                        obtain ⟨g151, k151, b151⟩ : TwoV J L1 (a.tmps.getD 151 undef) W := hD 9 151 (by kernel_rfl)
                        refine plan_want rfl (by kernel_rfl) k148 ?_
                        refine plan_call (f := 28) (args := #[a.tmps.getD 151 undef]) (by kernel_rfl) ?_
                        rw [k151]
                        refine (join_two J L1 HJ.out W1.out g151 2 W b151).mono ?_
                        rintro e W2 ⟨rfl, hb⟩
                        refine ⟨_, rfl, _, rfl, ⟨hS.1.next hb, (hS.2.below hb).more hb.size⟩, hb, ?_⟩
                        show _ = _
                        rw [eP.out]
                      · intro a W hS hE hD
                        obtain ⟨x6, _, _⟩ := hE
                        have e6 := x6 (by kernel_rfl)
                        have k148 : a.tmps.getD 148 undef = .bool true := hD 6 148 (by kernel_rfl)
                        refine plan_want rfl (by kernel_rfl) k148 ?_
                        refine plan_value (ex_load e6 W1.out (hS.1.nth 0 rfl)) ⟨_, rfl, hS, Grows.refl _, rfl⟩
                      · intro a W hS hE hD
                        have k148 : a.tmps.getD 148 undef = .bool true := hD 6 148 (by kernel_rfl)
                        have k152 : a.tmps.getD 152 undef = .agg (vecA P) := hD 10 152 (by kernel_rfl)
                        have k153 : a.tmps.getD 153 undef = .agg (vecA L1) := hD 11 153 (by kernel_rfl)
                        refine plan_want rfl (by kernel_rfl) k148 ?_
                        refine plan_call (f := 26) (args := #[a.tmps.getD 152 undef, a.tmps.getD 153 undef]) (by kernel_rfl) ?_
                        rw [k152, k153]
                        refine (lack_any P L1 HP.out W1.out U1.out W).mono ?_
                        rintro e W2 ⟨rfl, hb⟩
                        refine ⟨_, rfl, _, rfl, ⟨hS.1.next hb, (hS.2.below hb).more hb.size⟩, hb, ?_⟩
                        show _ = _
                        rw [k6.out]; rfl
                      · intro a W hS hE hD
                        have k148 : a.tmps.getD 148 undef = .bool true := hD 6 148 (by kernel_rfl)
                        have k154 : a.tmps.getD 154 undef = .int .u64 0 := hD 12 154 (by kernel_rfl)
                        refine plan_want rfl (by kernel_rfl) k148 ?_
                        refine plan_value (v := .bool true) (w' := W) (by go_simp) ⟨_, rfl, hS, Grows.refl _, rfl⟩
                      · intro a W hS hE hD
                        have k148 : a.tmps.getD 148 undef = .bool true := hD 6 148 (by kernel_rfl)
                        have k155 : a.tmps.getD 155 undef = .bool true := hD 13 155 (by kernel_rfl)
                        refine plan_free rfl ?_
                        refine plan_value (v := .bool true) (w' := W) (by go_simp) ⟨_, rfl, hS, Grows.refl _, rfl⟩
                      · intro a W hS hE hD
                        have k156 : a.tmps.getD 156 undef = .bool true := hD 14 156 (by kernel_rfl)
                        refine plan_free rfl ?_
                        refine plan_value ex_move ⟨_, rfl, hS, Grows.refl _, ?_⟩
                        exact k156
                      · intro a W hS hE hD
                        have k157 : a.tmps.getD 157 undef = .bool true := hD 15 157 (by kernel_rfl)
                        refine plan_want rfl (by kernel_rfl) k157 ?_
                        refine plan_call (f := 15) (args := #[]) (by kernel_rfl) ?_
                        refine (vworks_any W).mono ?_
                        rintro e W2 ⟨rfl, hb⟩
                        refine ⟨_, rfl, _, rfl, ⟨hS.1.next hb, (hS.2.below hb).more hb.size⟩, hb, ?_⟩
                        exact rfl
                      · intro a W hS hE hD
                        have k157 : a.tmps.getD 157 undef = .bool true := hD 15 157 (by kernel_rfl)
                        have k158 : a.tmps.getD 158 undef = .bool true := hD 16 158 (by kernel_rfl)
                        refine plan_free rfl ?_
                        refine plan_value (v := .bool true) (w' := W) (by go_simp) ⟨_, rfl, hS, Grows.refl _, rfl⟩
                      · intro a W hS hE hD
                        have k159 : a.tmps.getD 159 undef = .bool true := hD 17 159 (by kernel_rfl)
                        refine plan_free rfl ?_
                        refine plan_value ex_assign ⟨_, rfl, hS, Grows.refl _, ?_⟩
                        exact k159
                    · intro f w23 V23 hE
                      have f10 : f 10 = .bool true := Ends.get hE 18 _ rfl 10 rfl
                      clear hE
                      simp only [setAll, List.setIfInBounds_toArray, List.set_cons_zero, List.set_cons_succ]
                      rw [f10]; clear f10
                      clear V21 V22 qJ
                      have hbel := V23.1.bel
                      clear V23
                      go_wp2_with fail
                      go_ret
                      exact ⟨rfl, hbel⟩
              
          · have hlt' : ¬ (i : Int) < (nb : Int) := by omega
            have nb1 := NB.out
            have n01 := N0.out
            go_wp2_with fail
            have HOWN := Lib.hid hown
            have HBW := Lib.hid hbw
            have HSZ := Lib.hid hsz
            clear hown hbw hsz
            go_loopw [15, 17] (fun sl v wr => ∃ (k m : Nat) (z : Int) (A' : Option Addr) (c' : Nat) (ls : List (List Nat)), k ≤ n0 ∧ z = (k : Int) - 1 ∧ v = .int .i64 z ∧ sl = .slice A' m c' ∧ m + k ≤ 100 + n0 ∧ m = ls.length ∧ (∀ u ∈ ls, u ∈ l0) ∧ (∀ (j : Nat) (u : List Nat), k ≤ j → l0[j]? = some u → u ∈ ls) ∧ OwnV wr w9.heap.size (.slice A' m c') ls ∧ Below w9.heap.size w9 wr ∧ w9.heap.size ≤ wr.heap.size) (fun _ v _ => (intOf v + 1).toNat)
            case atStart =>
              exact ⟨n0, m, _, A', c', ls, by omega, rfl, rfl, rfl, by have := HMI.out; omega, HML.out, HSUB.out, (fun j u hj hu => by
                rw [List.getElem?_eq_none (by rw [← hn0.out]; exact hj)] at hu; cases hu), HOWN.out, HBW.out, HSZ.out⟩
            case round =>
              clear HOWN HBW HSZ HML HSUB HMI
              obtain ⟨k, m, z, A', c', ls, hk, hz, rfl, rfl, hmk, hml, hsub, hall, hown, hbw, hsz⟩ := hrel
              have HML := Lib.hid hml
              have HSUB := Lib.hid hsub
              have HMK := Lib.hid hmk
              have HALL := Lib.hid hall
              have H6 := Lib.hid (fun u hu => S0.out u (hsub u hu) : ∀ u ∈ ls, u.length = 6)
              clear hml hsub hmk hall
              by_cases hk0 : 0 < k
              · obtain ⟨q, rfl⟩ : ∃ q, k = q + 1 := ⟨k - 1, by omega⟩
                obtain rfl : z = (q : Int) := by omega
                clear hz
                obtain ⟨vb, vo, rfl, hvB, hvc⟩ := D0.out (by rw [← hn0.out]; omega)
                have hz : Below w.heap.size w wr := HV9.out.bel.trans (hbw.mono HV9.out.bel.size)
                have hqn : q < n0 := by omega
                have hql : q < l0.length := by rw [← hn0.out]; exact hqn
                obtain ⟨hX6, hXr⟩ := hvc q l0[q] (List.getElem?_eq_getElem hql)
                have hXm : l0[q] ∈ l0 := List.getElem_mem hql
                have hXq : l0[q]? = some l0[q] := List.getElem?_eq_getElem hql
                have rX := range_below hz hvB hXr
                generalize l0[q] = X at hX6 hXm rX hXq
                have HX := Lib.hid hX6
                have HXM := Lib.hid hXm
                have HXQ := Lib.hid hXq
                have lX : (loadV (.pointer (some ⟨vb, vo + q * 6, none⟩))).run Try.prog wr = .ok (.agg (vecA X)) wr := run_loadV_mid HX.out rX
                have bX : ∀ W : World, (buildV 1 #[(0, .agg (vecA X))]).run Try.prog W = .ok (.slice (some ⟨W.heap.size, 0, none⟩) 1 1) (W.alloc (.cells (vecL X).toArray 24)) := fun W => run_buildV1 HX.out
                have own3 : OwnV (wr.alloc (.cells (vecL X).toArray 24)) w9.heap.size (.slice A' m c') ls := hown.below ((Below.refl _ _).alloc (Nat.le_refl _) _)
                have hbw3 := hbw.alloc hsz (.cells (vecL X).toArray 24)
                have hlt3 : ls.length + 1 ≤ 1099511627776 := by have h1 := HML.out; have h2 := HMK.out; omega
                have q0 : (0 : Int) ≤ (q : Int) := by omega
                have q1 : (q : Int) < (n0 : Int) := by omega
                clear hvc hXr hX6 hXm rX hz hql hown hbw hXq hk0
                go_wp2_with (refine wpList_appV rfl _ _ rfl w9.heap.size _ ls X HX.out wr.heap.size 1 rfl rfl (Blk.new wr _ _) own3 H6.out hlt3 w9 hbw3 (by simp; omega) (m + 1) (by rw [HML.out]) ?_; intro A5 c5 w5 own5 hbw5 hsz5; clear own3 hbw3 hlt3)
                exact ⟨⟨q, m + 1, _, A5, c5, ls ++ [X], by omega, rfl, by go_num, rfl, by have := HMK.out; omega, by rw [List.length_append, HML.out]; rfl, (fun u hu => by
                  rcases List.mem_append.1 hu with h | h
                  · exact HSUB.out u h
                  · rw [List.mem_singleton.1 h]; exact HXM.out), (fun j u hj hu => by
                    by_cases hjq : j = q
                    · subst hjq
                      rw [HXQ.out] at hu
                      injection hu with hu
                      subst hu
                      simp
                    · exact List.mem_append.2 (.inl (HALL.out j u (by omega) hu))), own5, hbw5, hsz5⟩, by simp [intOf] <;> omega⟩
              · obtain rfl : k = 0 := by omega
                obtain rfl : z = -1 := by omega
                have JS : Hid (joinV ls = J) := by
                  show _ = _
                  rw [← eJ.out]
                  refine join_same S0.out HSUB.out (fun v hv => ?_)
                  obtain ⟨j, hj, rfl⟩ := List.mem_iff_getElem.1 hv
                  exact HALL.out j _ (Nat.zero_le _) (List.getElem?_eq_getElem hj)
                have JJ := Lib.hid (join_self HJ.out)
                have JM : Hid (joinV [J, M] = J) := by
                  show _ = _
                  have := join_meet l0 S0.out
                  rwa [eJ.out, eM.out] at this
                obtain ⟨P, eP⟩ : ∃ P, Hid (joinV [J, L1] = P) := ⟨_, Lib.hid rfl⟩
                have HP : Hid (P.length = 6) := by show _ = _; rw [← eP.out]; exact jlen HJ.out W1.out
                have k5 : Hid (lessV J P = true) := by
                  show _ = _
                  rw [← eP.out]; exact join_ge [J, L1] (by simp [HJ.out, W1.out]) (by simp)
                have k6 : Hid (lackV P L1 = 0) := by
                  show _ = _
                  refine lack_none ?_
                  rw [← eP.out]; exact join_ge [J, L1] (by simp [HJ.out, W1.out]) (by simp)
                have qJ : ∀ W, (Op.equalIn 10000 24 (.agg (vecA J)) (.agg (vecA J))).run Try.prog W = .ok true W := vec_same HJ.out rfl
                have VR := HV9.out.next hbw
                obtain ⟨A6, c6, hv6, hVs, _⟩ := hown.open_ H6.out
                injection hv6 with h61 h62 h63
                subst h61 h63
                have NLS := Lib.hid (show ls.length ≤ 1099511627776 by have h1 := HML.out; have h2 := HMK.out; omega)
                have VS := Lib.hid hVs
                have VRH := Lib.hid VR
                clear hown hVs h62 HALL hbw hsz VR hk0 hz hk
                go_wp2_with fail
                refine wp_region_plan (fun W => Vs w W [(w.heap.size, L1), (w2.heap.size, J), (w4.heap.size, M)] ∧ Vecs W W.heap.size A' ls) Grows [IsV (.slice A' m c'), IsV (.agg (vecA J)), IsV (.agg (vecA J)), IsV (.bool false), IsV (.bool false), IsV (.agg (vecA J)), IsV (.agg (vecA J)), TwoV J J, IsV (.agg (vecA J)), IsV (.agg (vecA J)), IsV (.bool false), IsV (.bool false), IsV (.bool false), IsV (.agg (vecA J)), IsV (.agg (vecA M)), TwoV J M, IsV (.agg (vecA J)), IsV (.agg (vecA J)), IsV (.bool false), IsV (.bool false)] ([(11, .pointer (some ⟨w2.heap.size, 0, none⟩)), (12, .pointer (some ⟨w4.heap.size, 0, none⟩)), (15, .slice A' m c')] : List (Nat × Value)) (⟨rfl, rfl, rfl, trivial⟩) (n := 160) (by kernel_rfl) rfl (by kernel_rfl) ⟨Vs.drew VRH.out, VS.out.below (Below.drew (Below.refl _ _))⟩ Grows.refl (StabAll.get ?_) ?_ ?_
                · repeat (first | exact trivial | refine ⟨stab_c _, ?_⟩ | refine ⟨stab_two _ _, ?_⟩ | refine ⟨fun _ _ _ _ _ _ _ => trivial, ?_⟩)
                · refine ⟨?_, ⟨?_, ⟨?_, ⟨?_, ⟨?_, ⟨?_, ⟨?_, ⟨?_, ⟨?_, ⟨?_, ⟨?_, ⟨?_, ⟨?_, ⟨?_, ⟨?_, ⟨?_, ⟨?_, ⟨?_, ⟨?_, ⟨?_, trivial⟩⟩⟩⟩⟩⟩⟩⟩⟩⟩⟩⟩⟩⟩⟩⟩⟩⟩⟩⟩
                  · intro a W hS hE hD
                    obtain ⟨_, _, x15, _⟩ := hE
                    have e15 := x15 (by kernel_rfl)
                    refine plan_free rfl ?_
                    refine plan_value ex_move ⟨_, rfl, hS, Grows.refl _, ?_⟩
                    exact e15
                  · intro a W hS hE hD
                    have k122 : a.tmps.getD 122 undef = .slice A' m c' := hD 0 122 (by kernel_rfl)
                    refine plan_free rfl ?_
                    refine plan_call (f := 28) (args := #[a.tmps.getD 122 undef]) (by kernel_rfl) ?_
                    rw [k122]
                    refine (join_any A' m c' ls W hS.2 H6.out HML.out NLS.out).mono ?_
                    rintro e W2 ⟨rfl, hb⟩
                    refine ⟨_, rfl, _, rfl, ⟨hS.1.next hb, (hS.2.below hb).more hb.size⟩, hb, ?_⟩
                    show _ = _
                    rw [JS.out]
                  · intro a W hS hE hD
                    obtain ⟨x11, _, _, _⟩ := hE
                    have e11 := x11 (by kernel_rfl)
                    refine plan_free rfl ?_
                    refine plan_value (ex_load e11 HJ.out (hS.1.nth 1 rfl)) ⟨_, rfl, hS, Grows.refl _, rfl⟩
                  · intro a W hS hE hD
                    have k123 : a.tmps.getD 123 undef = .agg (vecA J) := hD 1 123 (by kernel_rfl)
                    have k124 : a.tmps.getD 124 undef = .agg (vecA J) := hD 2 124 (by kernel_rfl)
                    refine plan_free rfl ?_
                    refine plan_value (v := .bool false) (w' := W) (by go_simp) ⟨_, rfl, hS, Grows.refl _, rfl⟩
                  · intro a W hS hE hD
                    have k125 : a.tmps.getD 125 undef = .bool false := hD 3 125 (by kernel_rfl)
                    refine plan_free rfl ?_
                    refine plan_value ex_move ⟨_, rfl, hS, Grows.refl _, ?_⟩
                    exact k125
                  · intro a W hS hE hD
                    obtain ⟨x11, _, _, _⟩ := hE
                    have e11 := x11 (by kernel_rfl)
                    have k126 : a.tmps.getD 126 undef = .bool false := hD 4 126 (by kernel_rfl)
                    refine plan_want rfl (by kernel_rfl) k126 ?_
                    refine plan_value (ex_load e11 HJ.out (hS.1.nth 1 rfl)) ⟨_, rfl, hS, Grows.refl _, rfl⟩
                  · intro a W hS hE hD
                    obtain ⟨x11, _, _, _⟩ := hE
                    have e11 := x11 (by kernel_rfl)
                    have k126 : a.tmps.getD 126 undef = .bool false := hD 4 126 (by kernel_rfl)
                    refine plan_want rfl (by kernel_rfl) k126 ?_
                    refine plan_value (ex_load e11 HJ.out (hS.1.nth 1 rfl)) ⟨_, rfl, hS, Grows.refl _, rfl⟩
                  · intro a W hS hE hD
                    have k126 : a.tmps.getD 126 undef = .bool false := hD 4 126 (by kernel_rfl)
                    have k127 : a.tmps.getD 127 undef = .agg (vecA J) := hD 5 127 (by kernel_rfl)
                    have k128 : a.tmps.getD 128 undef = .agg (vecA J) := hD 6 128 (by kernel_rfl)
                    refine plan_want rfl (by kernel_rfl) k126 ?_
                    refine plan_value (ex_build k127 k128 HJ.out HJ.out) ⟨_, rfl, ⟨hS.1.alloc _, (hS.2.below (Grows.alloc _ _)).more (Grows.alloc _ _).size⟩, Grows.alloc _ _, ⟨_, rfl, Blk.new _ _ _⟩⟩
                  · intro a W hS hE hD
                    have k126 : a.tmps.getD 126 undef = .bool false := hD 4 126 (by kernel_rfl)
                    obtain ⟨g129, k129, b129⟩ : TwoV J J (a.tmps.getD 129 undef) W := hD 7 129 (by kernel_rfl)
                    refine plan_want rfl (by kernel_rfl) k126 ?_
                    refine plan_call (f := 28) (args := #[a.tmps.getD 129 undef]) (by kernel_rfl) ?_
                    rw [k129]
                    refine (join_two J J HJ.out HJ.out g129 2 W b129).mono ?_
                    rintro e W2 ⟨rfl, hb⟩
                    refine ⟨_, rfl, _, rfl, ⟨hS.1.next hb, (hS.2.below hb).more hb.size⟩, hb, ?_⟩
                    show _ = _
                    rw [JJ.out]
                  · intro a W hS hE hD
                    obtain ⟨x11, _, _, _⟩ := hE
                    have e11 := x11 (by kernel_rfl)
                    have k126 : a.tmps.getD 126 undef = .bool false := hD 4 126 (by kernel_rfl)
                    refine plan_want rfl (by kernel_rfl) k126 ?_
                    refine plan_value (ex_load e11 HJ.out (hS.1.nth 1 rfl)) ⟨_, rfl, hS, Grows.refl _, rfl⟩
                  · intro a W hS hE hD
                    have k126 : a.tmps.getD 126 undef = .bool false := hD 4 126 (by kernel_rfl)
                    have k130 : a.tmps.getD 130 undef = .agg (vecA J) := hD 8 130 (by kernel_rfl)
                    have k131 : a.tmps.getD 131 undef = .agg (vecA J) := hD 9 131 (by kernel_rfl)
                    refine plan_want rfl (by kernel_rfl) k126 ?_
                    refine plan_value (v := .bool false) (w' := W) (by go_simp) ⟨_, rfl, hS, Grows.refl _, rfl⟩
                  · intro a W hS hE hD
                    have k126 : a.tmps.getD 126 undef = .bool false := hD 4 126 (by kernel_rfl)
                    have k132 : a.tmps.getD 132 undef = .bool false := hD 10 132 (by kernel_rfl)
                    refine plan_free rfl ?_
                    refine plan_value (v := .bool false) (w' := W) (by go_simp) ⟨_, rfl, hS, Grows.refl _, rfl⟩
                  · intro a W hS hE hD
                    have k133 : a.tmps.getD 133 undef = .bool false := hD 11 133 (by kernel_rfl)
                    refine plan_free rfl ?_
                    refine plan_value ex_move ⟨_, rfl, hS, Grows.refl _, ?_⟩
                    exact k133
                  · intro a W hS hE hD
                    obtain ⟨x11, _, _, _⟩ := hE
                    have e11 := x11 (by kernel_rfl)
                    have k134 : a.tmps.getD 134 undef = .bool false := hD 12 134 (by kernel_rfl)
                    refine plan_want rfl (by kernel_rfl) k134 ?_
                    refine plan_value (ex_load e11 HJ.out (hS.1.nth 1 rfl)) ⟨_, rfl, hS, Grows.refl _, rfl⟩
                  · intro a W hS hE hD
                    obtain ⟨_, x12, _, _⟩ := hE
                    have e12 := x12 (by kernel_rfl)
                    have k134 : a.tmps.getD 134 undef = .bool false := hD 12 134 (by kernel_rfl)
                    refine plan_want rfl (by kernel_rfl) k134 ?_
                    refine plan_value (ex_load e12 HM.out (hS.1.nth 2 rfl)) ⟨_, rfl, hS, Grows.refl _, rfl⟩
                  · intro a W hS hE hD
                    have k134 : a.tmps.getD 134 undef = .bool false := hD 12 134 (by kernel_rfl)
                    have k135 : a.tmps.getD 135 undef = .agg (vecA J) := hD 13 135 (by kernel_rfl)
                    have k136 : a.tmps.getD 136 undef = .agg (vecA M) := hD 14 136 (by kernel_rfl)
                    refine plan_want rfl (by kernel_rfl) k134 ?_
                    refine plan_value (ex_build k135 k136 HJ.out HM.out) ⟨_, rfl, ⟨hS.1.alloc _, (hS.2.below (Grows.alloc _ _)).more (Grows.alloc _ _).size⟩, Grows.alloc _ _, ⟨_, rfl, Blk.new _ _ _⟩⟩
                  · intro a W hS hE hD
                    have k134 : a.tmps.getD 134 undef = .bool false := hD 12 134 (by kernel_rfl)
                    obtain ⟨g137, k137, b137⟩ : TwoV J M (a.tmps.getD 137 undef) W := hD 15 137 (by kernel_rfl)
                    refine plan_want rfl (by kernel_rfl) k134 ?_
                    refine plan_call (f := 28) (args := #[a.tmps.getD 137 undef]) (by kernel_rfl) ?_
                    rw [k137]
                    refine (join_two J M HJ.out HM.out g137 2 W b137).mono ?_
                    rintro e W2 ⟨rfl, hb⟩
                    refine ⟨_, rfl, _, rfl, ⟨hS.1.next hb, (hS.2.below hb).more hb.size⟩, hb, ?_⟩
                    show _ = _
                    rw [JM.out]
                  · intro a W hS hE hD
                    obtain ⟨x11, _, _, _⟩ := hE
                    have e11 := x11 (by kernel_rfl)
                    have k134 : a.tmps.getD 134 undef = .bool false := hD 12 134 (by kernel_rfl)
                    refine plan_want rfl (by kernel_rfl) k134 ?_
                    refine plan_value (ex_load e11 HJ.out (hS.1.nth 1 rfl)) ⟨_, rfl, hS, Grows.refl _, rfl⟩
                  · intro a W hS hE hD
                    have k134 : a.tmps.getD 134 undef = .bool false := hD 12 134 (by kernel_rfl)
                    have k138 : a.tmps.getD 138 undef = .agg (vecA J) := hD 16 138 (by kernel_rfl)
                    have k139 : a.tmps.getD 139 undef = .agg (vecA J) := hD 17 139 (by kernel_rfl)
                    refine plan_want rfl (by kernel_rfl) k134 ?_
                    refine plan_value (v := .bool false) (w' := W) (by go_simp) ⟨_, rfl, hS, Grows.refl _, rfl⟩
                  · intro a W hS hE hD
                    have k134 : a.tmps.getD 134 undef = .bool false := hD 12 134 (by kernel_rfl)
                    have k140 : a.tmps.getD 140 undef = .bool false := hD 18 140 (by kernel_rfl)
                    refine plan_free rfl ?_
                    refine plan_value (v := .bool false) (w' := W) (by go_simp) ⟨_, rfl, hS, Grows.refl _, rfl⟩
                · intro f w20 V20 hE
                  have f141 : f 141 = .bool false := Ends.get hE 19 _ rfl 141 rfl
                  clear hE
                  simp only [setAll, List.setIfInBounds_toArray, List.set_cons_zero, List.set_cons_succ]
                  rw [f141]; clear f141
                  clear VRH VS
                  obtain ⟨V21, V22⟩ := V20
                  go_wp2_with fail
                  refine wp_region_plan (fun W => Vs w W [(w.heap.size, L1), (w2.heap.size, J), (w4.heap.size, M)] ∧ Vecs W W.heap.size A' ls) Grows [IsV (.agg (vecA J)), IsV (.agg (vecA J)), IsV (.agg (vecA L1)), TwoV J L1, IsV (.agg (vecA P)), IsV (.bool true), IsV (.bool true), IsV (.agg (vecA J)), IsV (.agg (vecA L1)), TwoV J L1, IsV (.agg (vecA P)), IsV (.agg (vecA L1)), IsV (.int .u64 0), IsV (.bool true), IsV (.bool true), IsV (.bool true), IsV (.bool true), IsV (.bool true), IsV (.bool true)] ([(6, .pointer (some ⟨w.heap.size, 0, none⟩)), (11, .pointer (some ⟨w2.heap.size, 0, none⟩))] : List (Nat × Value)) (⟨rfl, rfl, trivial⟩) (n := 160) (by kernel_rfl) rfl (by kernel_rfl) ⟨Vs.drew V21, V22.below (Below.drew (Below.refl _ _))⟩ Grows.refl (StabAll.get ?_) ?_ ?_
                  · repeat (first | exact trivial | refine ⟨stab_c _, ?_⟩ | refine ⟨stab_two _ _, ?_⟩ | refine ⟨fun _ _ _ _ _ _ _ => trivial, ?_⟩)
                  · refine ⟨?_, ⟨?_, ⟨?_, ⟨?_, ⟨?_, ⟨?_, ⟨?_, ⟨?_, ⟨?_, ⟨?_, ⟨?_, ⟨?_, ⟨?_, ⟨?_, ⟨?_, ⟨?_, ⟨?_, ⟨?_, ⟨?_, trivial⟩⟩⟩⟩⟩⟩⟩⟩⟩⟩⟩⟩⟩⟩⟩⟩⟩⟩⟩
                    · intro a W hS hE hD
                      obtain ⟨_, x11, _⟩ := hE
                      have e11 := x11 (by kernel_rfl)
                      refine plan_free rfl ?_
                      refine plan_value (ex_load e11 HJ.out (hS.1.nth 1 rfl)) ⟨_, rfl, hS, Grows.refl _, rfl⟩
                    · intro a W hS hE hD
                      obtain ⟨_, x11, _⟩ := hE
                      have e11 := x11 (by kernel_rfl)
                      refine plan_free rfl ?_
                      refine plan_value (ex_load e11 HJ.out (hS.1.nth 1 rfl)) ⟨_, rfl, hS, Grows.refl _, rfl⟩
                    · intro a W hS hE hD
                      obtain ⟨x6, _, _⟩ := hE
                      have e6 := x6 (by kernel_rfl)
                      refine plan_free rfl ?_
                      refine plan_value (ex_load e6 W1.out (hS.1.nth 0 rfl)) ⟨_, rfl, hS, Grows.refl _, rfl⟩
                    · intro a W hS hE hD
                      have k143 : a.tmps.getD 143 undef = .agg (vecA J) := hD 1 143 (by kernel_rfl)
                      have k144 : a.tmps.getD 144 undef = .agg (vecA L1) := hD 2 144 (by kernel_rfl)
                      refine plan_free rfl ?_
                      refine plan_value (ex_build k143 k144 HJ.out W1.out) ⟨_, rfl, ⟨hS.1.alloc _, (hS.2.below (Grows.alloc _ _)).more (Grows.alloc _ _).size⟩, Grows.alloc _ _, ⟨_, rfl, Blk.new _ _ _⟩⟩
                    · intro a W hS hE hD
                      obtain ⟨g145, k145, b145⟩ : TwoV J L1 (a.tmps.getD 145 undef) W := hD 3 145 (by kernel_rfl)
                      refine plan_free rfl ?_
                      refine plan_call (f := 28) (args := #[a.tmps.getD 145 undef]) (by kernel_rfl) ?_
                      rw [k145]
                      refine (join_two J L1 HJ.out W1.out g145 2 W b145).mono ?_
                      rintro e W2 ⟨rfl, hb⟩
                      refine ⟨_, rfl, _, rfl, ⟨hS.1.next hb, (hS.2.below hb).more hb.size⟩, hb, ?_⟩
                      show _ = _
                      rw [eP.out]
                    · intro a W hS hE hD
                      have k142 : a.tmps.getD 142 undef = .agg (vecA J) := hD 0 142 (by kernel_rfl)
                      have k146 : a.tmps.getD 146 undef = .agg (vecA P) := hD 4 146 (by kernel_rfl)
                      refine plan_free rfl ?_
                      refine plan_call (f := 22) (args := #[a.tmps.getD 142 undef, a.tmps.getD 146 undef]) (by kernel_rfl) ?_
                      rw [k142, k146]
                      refine (less_any J P HJ.out HP.out W).mono ?_
                      rintro e W2 ⟨rfl, hb⟩
                      refine ⟨_, rfl, _, rfl, ⟨hS.1.next hb, (hS.2.below hb).more hb.size⟩, hb, ?_⟩
                      show _ = _
                      rw [k5.out]
                    · intro a W hS hE hD
                      have k147 : a.tmps.getD 147 undef = .bool true := hD 5 147 (by kernel_rfl)
                      refine plan_free rfl ?_
                      refine plan_value ex_move ⟨_, rfl, hS, Grows.refl _, ?_⟩
                      exact k147
                    · intro a W hS hE hD
                      obtain ⟨_, x11, _⟩ := hE
                      have e11 := x11 (by kernel_rfl)
                      have k148 : a.tmps.getD 148 undef = .bool true := hD 6 148 (by kernel_rfl)
                      refine plan_want rfl (by kernel_rfl) k148 ?_
                      refine plan_value (ex_load e11 HJ.out (hS.1.nth 1 rfl)) ⟨_, rfl, hS, Grows.refl _, rfl⟩
                    · intro a W hS hE hD
                      obtain ⟨x6, _, _⟩ := hE
                      have e6 := x6 (by kernel_rfl)
                      have k148 : a.tmps.getD 148 undef = .bool true := hD 6 148 (by kernel_rfl)
                      refine plan_want rfl (by kernel_rfl) k148 ?_
                      refine plan_value (ex_load e6 W1.out (hS.1.nth 0 rfl)) ⟨_, rfl, hS, Grows.refl _, rfl⟩
                    · intro a W hS hE hD
                      have k148 : a.tmps.getD 148 undef = .bool true := hD 6 148 (by kernel_rfl)
                      have k149 : a.tmps.getD 149 undef = .agg (vecA J) := hD 7 149 (by kernel_rfl)
                      have k150 : a.tmps.getD 150 undef = .agg (vecA L1) := hD 8 150 (by kernel_rfl)
                      refine plan_want rfl (by kernel_rfl) k148 ?_
                      refine plan_value (ex_build k149 k150 HJ.out W1.out) ⟨_, rfl, ⟨hS.1.alloc _, (hS.2.below (Grows.alloc _ _)).more (Grows.alloc _ _).size⟩, Grows.alloc _ _, ⟨_, rfl, Blk.new _ _ _⟩⟩
                    · intro a W hS hE hD
                      have k148 : a.tmps.getD 148 undef = .bool true := hD 6 148 (by kernel_rfl)
                      obtain ⟨g151, k151, b151⟩ : TwoV J L1 (a.tmps.getD 151 undef) W := hD 9 151 (by kernel_rfl)
                      refine plan_want rfl (by kernel_rfl) k148 ?_
                      refine plan_call (f := 28) (args := #[a.tmps.getD 151 undef]) (by kernel_rfl) ?_
                      rw [k151]
                      refine (join_two J L1 HJ.out W1.out g151 2 W b151).mono ?_
                      rintro e W2 ⟨rfl, hb⟩
                      refine ⟨_, rfl, _, rfl, ⟨hS.1.next hb, (hS.2.below hb).more hb.size⟩, hb, ?_⟩
                      show _ = _
                      rw [eP.out]
                    · intro a W hS hE hD
                      obtain ⟨x6, _, _⟩ := hE
                      have e6 := x6 (by kernel_rfl)
                      have k148 : a.tmps.getD 148 undef = .bool true := hD 6 148 (by kernel_rfl)
                      refine plan_want rfl (by kernel_rfl) k148 ?_
                      refine plan_value (ex_load e6 W1.out (hS.1.nth 0 rfl)) ⟨_, rfl, hS, Grows.refl _, rfl⟩
                    · intro a W hS hE hD
                      have k148 : a.tmps.getD 148 undef = .bool true := hD 6 148 (by kernel_rfl)
                      have k152 : a.tmps.getD 152 undef = .agg (vecA P) := hD 10 152 (by kernel_rfl)
                      have k153 : a.tmps.getD 153 undef = .agg (vecA L1) := hD 11 153 (by kernel_rfl)
                      refine plan_want rfl (by kernel_rfl) k148 ?_
                      refine plan_call (f := 26) (args := #[a.tmps.getD 152 undef, a.tmps.getD 153 undef]) (by kernel_rfl) ?_
                      rw [k152, k153]
                      refine (lack_any P L1 HP.out W1.out U1.out W).mono ?_
                      rintro e W2 ⟨rfl, hb⟩
                      refine ⟨_, rfl, _, rfl, ⟨hS.1.next hb, (hS.2.below hb).more hb.size⟩, hb, ?_⟩
                      show _ = _
                      rw [k6.out]; rfl
                    · intro a W hS hE hD
                      have k148 : a.tmps.getD 148 undef = .bool true := hD 6 148 (by kernel_rfl)
                      have k154 : a.tmps.getD 154 undef = .int .u64 0 := hD 12 154 (by kernel_rfl)
                      refine plan_want rfl (by kernel_rfl) k148 ?_
                      refine plan_value (v := .bool true) (w' := W) (by go_simp) ⟨_, rfl, hS, Grows.refl _, rfl⟩
                    · intro a W hS hE hD
                      have k148 : a.tmps.getD 148 undef = .bool true := hD 6 148 (by kernel_rfl)
                      have k155 : a.tmps.getD 155 undef = .bool true := hD 13 155 (by kernel_rfl)
                      refine plan_free rfl ?_
                      refine plan_value (v := .bool true) (w' := W) (by go_simp) ⟨_, rfl, hS, Grows.refl _, rfl⟩
                    · intro a W hS hE hD
                      have k156 : a.tmps.getD 156 undef = .bool true := hD 14 156 (by kernel_rfl)
                      refine plan_free rfl ?_
                      refine plan_value ex_move ⟨_, rfl, hS, Grows.refl _, ?_⟩
                      exact k156
                    · intro a W hS hE hD
                      have k157 : a.tmps.getD 157 undef = .bool true := hD 15 157 (by kernel_rfl)
                      refine plan_want rfl (by kernel_rfl) k157 ?_
                      refine plan_call (f := 15) (args := #[]) (by kernel_rfl) ?_
                      refine (vworks_any W).mono ?_
                      rintro e W2 ⟨rfl, hb⟩
                      refine ⟨_, rfl, _, rfl, ⟨hS.1.next hb, (hS.2.below hb).more hb.size⟩, hb, ?_⟩
                      exact rfl
                    · intro a W hS hE hD
                      have k157 : a.tmps.getD 157 undef = .bool true := hD 15 157 (by kernel_rfl)
                      have k158 : a.tmps.getD 158 undef = .bool true := hD 16 158 (by kernel_rfl)
                      refine plan_free rfl ?_
                      refine plan_value (v := .bool true) (w' := W) (by go_simp) ⟨_, rfl, hS, Grows.refl _, rfl⟩
                    · intro a W hS hE hD
                      have k159 : a.tmps.getD 159 undef = .bool true := hD 17 159 (by kernel_rfl)
                      refine plan_free rfl ?_
                      refine plan_value ex_assign ⟨_, rfl, hS, Grows.refl _, ?_⟩
                      exact k159
                  · intro f w23 V23 hE
                    have f10 : f 10 = .bool true := Ends.get hE 18 _ rfl 10 rfl
                    clear hE
                    simp only [setAll, List.setIfInBounds_toArray, List.set_cons_zero, List.set_cons_succ]
                    rw [f10]; clear f10
                    clear V21 V22 qJ
                    have hbel := V23.1.bel
                    clear V23
                    go_wp2_with fail
                    go_ret
                    exact ⟨rfl, hbel⟩
            
  rw [← hn0.out, ← hnb.out]
  exact hzw

set_option maxRecDepth 100000 in
theorem lifted (os : Os) (started : os.Started) (H : Type) (enc : TypeId × Value → H) :
    ReturnsInHanded {} Try.checked os 5 .any (Rows.vectorJoinsSpec.pre6 enc Try.prog Try.f5 Rows.vectorJoinsRow.domain false) (Rows.vectorJoinsSpec.post enc Try.prog Try.f5 false true false false) := by
  refine returnsInHanded_of_change (C := Try.checked) own started (by kernel_rfl) Try.func5
    (ChangeSpec.witness6 (enc := enc) (C := Try.checked) false ⟨#[], #[.slice none 0 0, .agg #[.int .u64 0, .int .u64 0, .int .u64 0, .int .u64 0, .int .u64 0, .int .u64 0], .slice none 0 0, .int .i64 0, .int .u64 0], []⟩ 8 (by kernel_rfl) (by kernel_rfl) (by kernel_rfl) (by kernel_rfl)) ?_
  intro W base args ds gs before hval0 hW hcnd _
  have hval : ∀ (j : Nat) t v, Try.f5.params[j]? = some t → args[j]? = some v → Value.okWide Try.prog W .any base t v := hval0
  have hW' := hW
  obtain ⟨p, q, hA0, hV, rfl, hfz, hnd⟩ := hW
  have hA : DataW.TrodAll enc Try.prog W 0 (fun _ => true) true Try.f5.params.toList args.toList ds p := hA0
  rw [Try.params5] at hA hval
  obtain ⟨v0, vs0, d0, ds0, p0, q0, hargs, rfl, rfl, h0, r0⟩ := trodAll_cons hA
  obtain ⟨v1, vs1, d1, ds1, p1, q1, rfl, rfl, rfl, h1, r1⟩ := trodAll_cons r0
  obtain ⟨v2, vs2, d2, ds2, p2, q2, rfl, rfl, rfl, h2, r2⟩ := trodAll_cons r1
  obtain ⟨v3, vs3, d3, ds3, p3, q3, rfl, rfl, rfl, h3, r3⟩ := trodAll_cons r2
  obtain ⟨v4, vs4, d4, ds4, p4, q4, rfl, rfl, rfl, h4, r4⟩ := trodAll_cons r3
  obtain ⟨rfl, rfl, rfl⟩ := trodAll_nil r4
  obtain rfl : args = #[v0, v1, v2, v3, v4] := by cases args; simp_all
  obtain ⟨rfl, rfl⟩ := trodVars_none hV
  obtain ⟨A0, n0, c0, rfl⟩ := okWide_slice Try.underlying25 (hval 0 25 v0 rfl rfl)
  have k0 := h0
  have lt0 : ∀ x ∈ p0, x.block < W.heap.size := by obtain ⟨m, hm⟩ := k0; exact DataW.trod_lt m _ _ _ hm
  obtain ⟨g0, m0, l0, rfl, w0, u0⟩ := open_vecs h0
  have k1 := h1
  have lt1 : ∀ x ∈ p1, x.block < W.heap.size := by obtain ⟨m, hm⟩ := k1; exact DataW.trod_lt m _ _ _ hm
  obtain ⟨L1, rfl, w1, u1⟩ := open_vec (hval 1 24 v1 rfl rfl) h1
  obtain ⟨A2, n2, c2, rfl⟩ := okWide_slice Try.underlying39 (hval 2 39 v2 rfl rfl)
  have k2 := h2
  have lt2 : ∀ x ∈ p2, x.block < W.heap.size := by obtain ⟨m, hm⟩ := k2; exact DataW.trod_lt m _ _ _ hm
  obtain ⟨z2, x2⟩ : ∃ zs, IsRow .u8 W A2 n2 c2 zs := by
    obtain ⟨fuel, hf⟩ := h2
    rcases open_ints Try.underlying39 Try.underlying5 (by kernel_rfl) hf with ⟨hcs, _⟩ | ⟨x, l, c, zs, hcs, _, hl, hm, hz, _, hcell, hwz⟩
    · simp [Value.cells] at hcs
      obtain ⟨rfl, rfl, rfl⟩ := hcs
      exact ⟨[], .inl ⟨rfl, rfl, rfl, rfl⟩⟩
    · simp [Value.cells] at hcs
      obtain ⟨rfl, rfl, rfl⟩ := hcs
      exact ⟨zs, .inr ⟨_, rfl, hl, hm, by simpa using hz, hcell, hwz⟩⟩
  obtain ⟨b2, rfl, w2, l2, m2⟩ := row_bytes x2
  obtain ⟨a3, rfl, rfl, rfl, w3⟩ := open_int Try.underlying3 (hval 3 3 v3 rfl rfl) h3
  obtain ⟨a4, rfl, rfl, rfl, w4⟩ := open_int Try.underlying22 (hval 4 22 v4 rfl rfl) h4
  clear hA0 hval0
  refine (walk A0 l0 c0 L1 A2 b2 c2 a3 a4 W w0 u0 g0 m0 w1 u1 w2 l2 m2 w3 w4).mono fun e W' ⟨he, bel⟩ => ?_
  subst he
  exact ⟨_, rfl, _, _, _, [], _, [], hW', trodAll_mk1 (shut_bool Try.underlying4 _), (trodAll_cons_mk (Below.trod laidOut (by kernel_rfl) (of_decide_eq_true (by kernel_rfl)) k0 bel lt0) (trodAll_cons_mk (Below.trod laidOut (by kernel_rfl) (of_decide_eq_true (by kernel_rfl)) k1 bel lt1) (trodAll_cons_mk (Below.trod laidOut (by kernel_rfl) (of_decide_eq_true (by kernel_rfl)) k2 bel lt2) (trodAll_cons_mk (shut_int Try.underlying3 w3) (trodAll_cons_mk (shut_int Try.underlying22 w4) trodAll_mk0))))), rfl, bel.frame _, fun h => by cases h⟩

theorem over : Rows.vectorJoinsRow.holds Try.pinned (OpenSpec.ofChange Rows.vectorJoinsSpec) :=
  OpenClaim.holds_of_wide 5 Try.f5 rfl rfl rfl rfl rfl rfl rfl ⟨rfl, rfl, rfl, rfl, rfl⟩ rfl rfl rfl rfl rfl (by kernel_rfl) Try.func5 (by kernel_rfl)
    (of_decide_eq_true (by kernel_rfl)) (by unfold Func.isWrapper; first | (rw [if_pos (by decide +kernel)]; kernel_rfl) | (rw [if_neg (by decide +kernel)]; exact ⟨rfl, rfl⟩))
    (fun os started H enc _ => lifted os started H enc)

theorem proved : Rows.VectorJoinsSaid := over
#print axioms proved
end Go.Proofs.Ytdliklkfhakmhaa.vectorJoins
