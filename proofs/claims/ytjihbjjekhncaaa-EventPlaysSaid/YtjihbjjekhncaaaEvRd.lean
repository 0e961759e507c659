import Derived.Test.YtjihbjjekhncaaaEvRc
import Derived.Test.YtjihbjjekhncaaaPlanF
namespace Go.Proofs.Ytjihbjjekhncaaa
open Go.RowKit
/-! leatref08: whether an event may be, its number. -/
attribute [local go_sem ↓] exec_loadE exec_storeE exec_allocE exec_buildE exec_loadV
set_option maxRecDepth 100000 in
set_option maxHeartbeats 1000000 in
theorem rmay_A (e : Ev) (h : e.ok) (w : World) (hr : regE e.o = false) : Calls Try.prog 22 #[.agg (evA e)] w fun x w' => x = .returned (.bool false) ∧ Below w.heap.size w w' := by
  have P0 := PB.first (w := w) h.d6
  have RG := Lib.hid (rregion6_any e.o)
  rw [hr] at RG
  clear hr
  go_enter Try.func22, Try.ntmps22
  go_wp2_with fail
  refine wp_region_plan (fun W => PB w W e) Grows [IsV (.pointer (some ⟨w.heap.size, 0, none⟩)), IsV (.int .i64 e.o), IsV (.bool false), IsV (.bool true), IsV (.bool true), IsV (undef), IsV (undef), IsV (undef), IsV (.bool true), IsV (.bool true), IsV (undef), IsV (undef), IsV (undef), IsV (.bool true), IsV (.bool true), IsV (undef), IsV (undef), IsV (undef), IsV (undef), IsV (undef), IsV (undef), IsV (undef), IsV (undef), IsV (undef), IsV (undef), IsV (.bool true)] ([(1, .pointer (some ⟨w.heap.size, 0, none⟩))] : List (Nat × Value)) (⟨rfl, trivial⟩) (n := 47) (by kernel_rfl) rfl (by kernel_rfl) P0.drew Grows.refl (StabAll.get ?_) ?_ ?_
  · repeat (first | exact trivial | refine ⟨stab_c _, ?_⟩ | refine ⟨stab_two _ _, ?_⟩ | refine ⟨fun _ _ _ _ _ _ _ => trivial, ?_⟩)
  · refine ⟨?_, ⟨?_, ⟨?_, ⟨?_, ⟨?_, ⟨?_, ⟨?_, ⟨?_, ⟨?_, ⟨?_, ⟨?_, ⟨?_, ⟨?_, ⟨?_, ⟨?_, ⟨?_, ⟨?_, ⟨?_, ⟨?_, ⟨?_, ⟨?_, ⟨?_, ⟨?_, ⟨?_, ⟨?_, ⟨?_, trivial⟩⟩⟩⟩⟩⟩⟩⟩⟩⟩⟩⟩⟩⟩⟩⟩⟩⟩⟩⟩⟩⟩⟩⟩⟩⟩
    · intro a W hS hE hD
      obtain ⟨x1, _⟩ := hE
      have e1 := x1 (by kernel_rfl)
      refine plan_free rfl ?_
      have k1 := e1
      refine plan_value (v := .pointer (some ⟨w.heap.size, 0, none⟩)) (w' := W) (by go_simp) ⟨_, rfl, hS, Grows.refl _, rfl⟩
    · intro a W hS hE hD
      have k4 : a.tmps.getD 4 undef = .pointer (some ⟨w.heap.size, 0, none⟩) := hD 0 4 (by kernel_rfl)
      refine plan_free rfl ?_
      have cc := hS.src.o
      refine plan_value (v := .int .i64 e.o) (w' := W) (by go_simp) ⟨_, rfl, hS, Grows.refl _, rfl⟩
    · intro a W hS hE hD
      have k5 : a.tmps.getD 5 undef = .int .i64 e.o := hD 1 5 (by kernel_rfl)
      refine plan_free rfl ?_
      refine plan_call (f := 59) (args := #[a.tmps.getD 5 undef]) (by kernel_rfl) ?_
      rw [k5]
      refine (RG.out W).mono ?_
      rintro _ W2 ⟨rfl, rfl⟩
      exact ⟨_, rfl, _, rfl, hS, Grows.refl _, rfl⟩
    · intro a W hS hE hD
      have k6 : a.tmps.getD 6 undef = .bool false := hD 2 6 (by kernel_rfl)
      refine plan_free rfl ?_
      refine plan_value (v := .bool true) (w' := W) (by go_simp) ⟨_, rfl, hS, Grows.refl _, rfl⟩
    · intro a W hS hE hD
      have k7 : a.tmps.getD 7 undef = .bool true := hD 3 7 (by kernel_rfl)
      refine plan_free rfl ?_
      refine plan_value ex_move ⟨_, rfl, hS, Grows.refl _, ?_⟩
      exact k7
    · intro a W hS hE hD
      have k8 : a.tmps.getD 8 undef = .bool true := hD 4 8 (by kernel_rfl)
      refine plan_skip rfl (by kernel_rfl) k8 rfl ?_
      exact rfl
    · intro a W hS hE hD
      have k8 : a.tmps.getD 8 undef = .bool true := hD 4 8 (by kernel_rfl)
      refine plan_skip rfl (by kernel_rfl) k8 rfl ?_
      exact rfl
    · intro a W hS hE hD
      have k8 : a.tmps.getD 8 undef = .bool true := hD 4 8 (by kernel_rfl)
      refine plan_skip rfl (by kernel_rfl) k8 rfl ?_
      exact rfl
    · intro a W hS hE hD
      have k8 : a.tmps.getD 8 undef = .bool true := hD 4 8 (by kernel_rfl)
      have k11 : a.tmps.getD 11 undef = undef := hD 7 11 (by kernel_rfl)
      refine plan_free rfl ?_
      refine plan_value (v := .bool true) (w' := W) (by go_simp) ⟨_, rfl, hS, Grows.refl _, rfl⟩
    · intro a W hS hE hD
      have k12 : a.tmps.getD 12 undef = .bool true := hD 8 12 (by kernel_rfl)
      refine plan_free rfl ?_
      refine plan_value ex_move ⟨_, rfl, hS, Grows.refl _, ?_⟩
      exact k12
    · intro a W hS hE hD
      have k13 : a.tmps.getD 13 undef = .bool true := hD 9 13 (by kernel_rfl)
      refine plan_skip rfl (by kernel_rfl) k13 rfl ?_
      exact rfl
    · intro a W hS hE hD
      have k13 : a.tmps.getD 13 undef = .bool true := hD 9 13 (by kernel_rfl)
      refine plan_skip rfl (by kernel_rfl) k13 rfl ?_
      exact rfl
    · intro a W hS hE hD
      have k13 : a.tmps.getD 13 undef = .bool true := hD 9 13 (by kernel_rfl)
      refine plan_skip rfl (by kernel_rfl) k13 rfl ?_
      exact rfl
    · intro a W hS hE hD
      have k13 : a.tmps.getD 13 undef = .bool true := hD 9 13 (by kernel_rfl)
      have k16 : a.tmps.getD 16 undef = undef := hD 12 16 (by kernel_rfl)
      refine plan_free rfl ?_
      refine plan_value (v := .bool true) (w' := W) (by go_simp) ⟨_, rfl, hS, Grows.refl _, rfl⟩
    · intro a W hS hE hD
      have k17 : a.tmps.getD 17 undef = .bool true := hD 13 17 (by kernel_rfl)
      refine plan_free rfl ?_
      refine plan_value ex_move ⟨_, rfl, hS, Grows.refl _, ?_⟩
      exact k17
    · intro a W hS hE hD
      have k18 : a.tmps.getD 18 undef = .bool true := hD 14 18 (by kernel_rfl)
      refine plan_skip rfl (by kernel_rfl) k18 rfl ?_
      exact rfl
    · intro a W hS hE hD
      have k18 : a.tmps.getD 18 undef = .bool true := hD 14 18 (by kernel_rfl)
      refine plan_skip rfl (by kernel_rfl) k18 rfl ?_
      exact rfl
    · intro a W hS hE hD
      have k18 : a.tmps.getD 18 undef = .bool true := hD 14 18 (by kernel_rfl)
      refine plan_skip rfl (by kernel_rfl) k18 rfl ?_
      exact rfl
    · intro a W hS hE hD
      have k18 : a.tmps.getD 18 undef = .bool true := hD 14 18 (by kernel_rfl)
      refine plan_skip rfl (by kernel_rfl) k18 rfl ?_
      exact rfl
    · intro a W hS hE hD
      have k18 : a.tmps.getD 18 undef = .bool true := hD 14 18 (by kernel_rfl)
      refine plan_skip rfl (by kernel_rfl) k18 rfl ?_
      exact rfl
    · intro a W hS hE hD
      have k18 : a.tmps.getD 18 undef = .bool true := hD 14 18 (by kernel_rfl)
      refine plan_skip rfl (by kernel_rfl) k18 rfl ?_
      exact rfl
    · intro a W hS hE hD
      have k18 : a.tmps.getD 18 undef = .bool true := hD 14 18 (by kernel_rfl)
      refine plan_skip rfl (by kernel_rfl) k18 rfl ?_
      exact rfl
    · intro a W hS hE hD
      have k18 : a.tmps.getD 18 undef = .bool true := hD 14 18 (by kernel_rfl)
      refine plan_skip rfl (by kernel_rfl) k18 rfl ?_
      exact rfl
    · intro a W hS hE hD
      have k18 : a.tmps.getD 18 undef = .bool true := hD 14 18 (by kernel_rfl)
      refine plan_skip rfl (by kernel_rfl) k18 rfl ?_
      exact rfl
    · intro a W hS hE hD
      have k18 : a.tmps.getD 18 undef = .bool true := hD 14 18 (by kernel_rfl)
      refine plan_skip rfl (by kernel_rfl) k18 rfl ?_
      exact rfl
    · intro a W hS hE hD
      have k18 : a.tmps.getD 18 undef = .bool true := hD 14 18 (by kernel_rfl)
      have k28 : a.tmps.getD 28 undef = undef := hD 24 28 (by kernel_rfl)
      refine plan_free rfl ?_
      refine plan_value (v := .bool true) (w' := W) (by go_simp) ⟨_, rfl, hS, Grows.refl _, rfl⟩
  · intro f w2 V hE
    have f29 : f 29 = .bool true := Ends.get hE 25 _ rfl 29 rfl
    clear hE
    simp only [setAll, List.setIfInBounds_toArray, List.set_cons_zero, List.set_cons_succ]
    rw [f29]; clear f29
    have VF := V.bel
    clear V
    go_wp2_with fail
    go_ret
    exact ⟨rfl, VF⟩
set_option maxRecDepth 100000 in
set_option maxHeartbeats 1000000 in
theorem rmay_B (e : Ev) (h : e.ok) (w : World) (hr : regE e.o = true) (hs : ¬ 1 ≤ e.s) : Calls Try.prog 22 #[.agg (evA e)] w fun x w' => x = .returned (.bool false) ∧ Below w.heap.size w w' := by
  have P0 := PB.first (w := w) h.d6
  have RG := Lib.hid (rregion6_any e.o)
  rw [hr] at RG
  have hs0 : (0 : Int) ≤ (e.s : Int) := by omega
  have h1 : (e.s : Int) < 1 := by omega
  clear hr hs
  go_enter Try.func22, Try.ntmps22
  go_wp2_with fail
  refine wp_region_plan (fun W => PB w W e) Grows [IsV (.pointer (some ⟨w.heap.size, 0, none⟩)), IsV (.int .i64 e.o), IsV (.bool true), IsV (.bool false), IsV (.bool false), IsV (.pointer (some ⟨w.heap.size, 1, none⟩)), IsV (.int .u64 (e.s : Int)), IsV (.bool true), IsV (.bool true), IsV (.bool true), IsV (undef), IsV (undef), IsV (undef), IsV (.bool true), IsV (.bool true), IsV (undef), IsV (undef), IsV (undef), IsV (undef), IsV (undef), IsV (undef), IsV (undef), IsV (undef), IsV (undef), IsV (undef), IsV (.bool true)] ([(1, .pointer (some ⟨w.heap.size, 0, none⟩))] : List (Nat × Value)) (⟨rfl, trivial⟩) (n := 47) (by kernel_rfl) rfl (by kernel_rfl) P0.drew Grows.refl (StabAll.get ?_) ?_ ?_
  · repeat (first | exact trivial | refine ⟨stab_c _, ?_⟩ | refine ⟨stab_two _ _, ?_⟩ | refine ⟨fun _ _ _ _ _ _ _ => trivial, ?_⟩)
  · refine ⟨?_, ⟨?_, ⟨?_, ⟨?_, ⟨?_, ⟨?_, ⟨?_, ⟨?_, ⟨?_, ⟨?_, ⟨?_, ⟨?_, ⟨?_, ⟨?_, ⟨?_, ⟨?_, ⟨?_, ⟨?_, ⟨?_, ⟨?_, ⟨?_, ⟨?_, ⟨?_, ⟨?_, ⟨?_, ⟨?_, trivial⟩⟩⟩⟩⟩⟩⟩⟩⟩⟩⟩⟩⟩⟩⟩⟩⟩⟩⟩⟩⟩⟩⟩⟩⟩⟩
    · intro a W hS hE hD
      obtain ⟨x1, _⟩ := hE
      have e1 := x1 (by kernel_rfl)
      refine plan_free rfl ?_
      have k1 := e1
      refine plan_value (v := .pointer (some ⟨w.heap.size, 0, none⟩)) (w' := W) (by go_simp) ⟨_, rfl, hS, Grows.refl _, rfl⟩
    · intro a W hS hE hD
      have k4 : a.tmps.getD 4 undef = .pointer (some ⟨w.heap.size, 0, none⟩) := hD 0 4 (by kernel_rfl)
      refine plan_free rfl ?_
      have cc := hS.src.o
      refine plan_value (v := .int .i64 e.o) (w' := W) (by go_simp) ⟨_, rfl, hS, Grows.refl _, rfl⟩
    · intro a W hS hE hD
      have k5 : a.tmps.getD 5 undef = .int .i64 e.o := hD 1 5 (by kernel_rfl)
      refine plan_free rfl ?_
      refine plan_call (f := 59) (args := #[a.tmps.getD 5 undef]) (by kernel_rfl) ?_
      rw [k5]
      refine (RG.out W).mono ?_
      rintro _ W2 ⟨rfl, rfl⟩
      exact ⟨_, rfl, _, rfl, hS, Grows.refl _, rfl⟩
    · intro a W hS hE hD
      have k6 : a.tmps.getD 6 undef = .bool true := hD 2 6 (by kernel_rfl)
      refine plan_free rfl ?_
      refine plan_value (v := .bool false) (w' := W) (by go_simp) ⟨_, rfl, hS, Grows.refl _, rfl⟩
    · intro a W hS hE hD
      have k7 : a.tmps.getD 7 undef = .bool false := hD 3 7 (by kernel_rfl)
      refine plan_free rfl ?_
      refine plan_value ex_move ⟨_, rfl, hS, Grows.refl _, ?_⟩
      exact k7
    · intro a W hS hE hD
      obtain ⟨x1, _⟩ := hE
      have e1 := x1 (by kernel_rfl)
      have k8 : a.tmps.getD 8 undef = .bool false := hD 4 8 (by kernel_rfl)
      refine plan_want rfl (by kernel_rfl) k8 ?_
      have k1 := e1
      refine plan_value (v := .pointer (some ⟨w.heap.size, 1, none⟩)) (w' := W) (by go_simp) ⟨_, rfl, hS, Grows.refl _, rfl⟩
    · intro a W hS hE hD
      have k8 : a.tmps.getD 8 undef = .bool false := hD 4 8 (by kernel_rfl)
      have k9 : a.tmps.getD 9 undef = .pointer (some ⟨w.heap.size, 1, none⟩) := hD 5 9 (by kernel_rfl)
      refine plan_want rfl (by kernel_rfl) k8 ?_
      have cc := hS.src.s
      refine plan_value (v := .int .u64 (e.s : Int)) (w' := W) (by go_simp) ⟨_, rfl, hS, Grows.refl _, rfl⟩
    · intro a W hS hE hD
      have k8 : a.tmps.getD 8 undef = .bool false := hD 4 8 (by kernel_rfl)
      have k10 : a.tmps.getD 10 undef = .int .u64 (e.s : Int) := hD 6 10 (by kernel_rfl)
      refine plan_want rfl (by kernel_rfl) k8 ?_
      refine plan_value (v := .bool true) (w' := W) (by go_simp) ⟨_, rfl, hS, Grows.refl _, rfl⟩
    · intro a W hS hE hD
      have k8 : a.tmps.getD 8 undef = .bool false := hD 4 8 (by kernel_rfl)
      have k11 : a.tmps.getD 11 undef = .bool true := hD 7 11 (by kernel_rfl)
      refine plan_free rfl ?_
      refine plan_value (v := .bool true) (w' := W) (by go_simp) ⟨_, rfl, hS, Grows.refl _, rfl⟩
    · intro a W hS hE hD
      have k12 : a.tmps.getD 12 undef = .bool true := hD 8 12 (by kernel_rfl)
      refine plan_free rfl ?_
      refine plan_value ex_move ⟨_, rfl, hS, Grows.refl _, ?_⟩
      exact k12
    · intro a W hS hE hD
      have k13 : a.tmps.getD 13 undef = .bool true := hD 9 13 (by kernel_rfl)
      refine plan_skip rfl (by kernel_rfl) k13 rfl ?_
      exact rfl
    · intro a W hS hE hD
      have k13 : a.tmps.getD 13 undef = .bool true := hD 9 13 (by kernel_rfl)
      refine plan_skip rfl (by kernel_rfl) k13 rfl ?_
      exact rfl
    · intro a W hS hE hD
      have k13 : a.tmps.getD 13 undef = .bool true := hD 9 13 (by kernel_rfl)
      refine plan_skip rfl (by kernel_rfl) k13 rfl ?_
      exact rfl
    · intro a W hS hE hD
      have k13 : a.tmps.getD 13 undef = .bool true := hD 9 13 (by kernel_rfl)
      have k16 : a.tmps.getD 16 undef = undef := hD 12 16 (by kernel_rfl)
      refine plan_free rfl ?_
      refine plan_value (v := .bool true) (w' := W) (by go_simp) ⟨_, rfl, hS, Grows.refl _, rfl⟩
    · intro a W hS hE hD
      have k17 : a.tmps.getD 17 undef = .bool true := hD 13 17 (by kernel_rfl)
      refine plan_free rfl ?_
      refine plan_value ex_move ⟨_, rfl, hS, Grows.refl _, ?_⟩
      exact k17
    · intro a W hS hE hD
      have k18 : a.tmps.getD 18 undef = .bool true := hD 14 18 (by kernel_rfl)
      refine plan_skip rfl (by kernel_rfl) k18 rfl ?_
      exact rfl
    · intro a W hS hE hD
      have k18 : a.tmps.getD 18 undef = .bool true := hD 14 18 (by kernel_rfl)
      refine plan_skip rfl (by kernel_rfl) k18 rfl ?_
      exact rfl
    · intro a W hS hE hD
      have k18 : a.tmps.getD 18 undef = .bool true := hD 14 18 (by kernel_rfl)
      refine plan_skip rfl (by kernel_rfl) k18 rfl ?_
      exact rfl
    · intro a W hS hE hD
      have k18 : a.tmps.getD 18 undef = .bool true := hD 14 18 (by kernel_rfl)
      refine plan_skip rfl (by kernel_rfl) k18 rfl ?_
      exact rfl
    · intro a W hS hE hD
      have k18 : a.tmps.getD 18 undef = .bool true := hD 14 18 (by kernel_rfl)
      refine plan_skip rfl (by kernel_rfl) k18 rfl ?_
      exact rfl
    · intro a W hS hE hD
      have k18 : a.tmps.getD 18 undef = .bool true := hD 14 18 (by kernel_rfl)
      refine plan_skip rfl (by kernel_rfl) k18 rfl ?_
      exact rfl
    · intro a W hS hE hD
      have k18 : a.tmps.getD 18 undef = .bool true := hD 14 18 (by kernel_rfl)
      refine plan_skip rfl (by kernel_rfl) k18 rfl ?_
      exact rfl
    · intro a W hS hE hD
      have k18 : a.tmps.getD 18 undef = .bool true := hD 14 18 (by kernel_rfl)
      refine plan_skip rfl (by kernel_rfl) k18 rfl ?_
      exact rfl
    · intro a W hS hE hD
      have k18 : a.tmps.getD 18 undef = .bool true := hD 14 18 (by kernel_rfl)
      refine plan_skip rfl (by kernel_rfl) k18 rfl ?_
      exact rfl
    · intro a W hS hE hD
      have k18 : a.tmps.getD 18 undef = .bool true := hD 14 18 (by kernel_rfl)
      refine plan_skip rfl (by kernel_rfl) k18 rfl ?_
      exact rfl
    · intro a W hS hE hD
      have k18 : a.tmps.getD 18 undef = .bool true := hD 14 18 (by kernel_rfl)
      have k28 : a.tmps.getD 28 undef = undef := hD 24 28 (by kernel_rfl)
      refine plan_free rfl ?_
      refine plan_value (v := .bool true) (w' := W) (by go_simp) ⟨_, rfl, hS, Grows.refl _, rfl⟩
  · intro f w2 V hE
    have f29 : f 29 = .bool true := Ends.get hE 25 _ rfl 29 rfl
    clear hE
    simp only [setAll, List.setIfInBounds_toArray, List.set_cons_zero, List.set_cons_succ]
    rw [f29]; clear f29
    have VF := V.bel
    clear V
    go_wp2_with fail
    go_ret
    exact ⟨rfl, VF⟩
set_option maxRecDepth 100000 in
set_option maxHeartbeats 1000000 in
theorem rmay_C (e : Ev) (h : e.ok) (w : World) (hr : regE e.o = true) (hs : 1 ≤ e.s) (hc : ¬ e.s < 1099511627776) : Calls Try.prog 22 #[.agg (evA e)] w fun x w' => x = .returned (.bool false) ∧ Below w.heap.size w w' := by
  have P0 := PB.first (w := w) h.d6
  have RG := Lib.hid (rregion6_any e.o)
  rw [hr] at RG
  have hs0 : (0 : Int) ≤ (e.s : Int) := by omega
  have h1 : ¬ (e.s : Int) < 1 := by omega
  have h2 : (1099511627776 : Int) ≤ (e.s : Int) := by omega
  clear hr hs hc
  go_enter Try.func22, Try.ntmps22
  go_wp2_with fail
  refine wp_region_plan (fun W => PB w W e) Grows [IsV (.pointer (some ⟨w.heap.size, 0, none⟩)), IsV (.int .i64 e.o), IsV (.bool true), IsV (.bool false), IsV (.bool false), IsV (.pointer (some ⟨w.heap.size, 1, none⟩)), IsV (.int .u64 (e.s : Int)), IsV (.bool false), IsV (.bool false), IsV (.bool false), IsV (.pointer (some ⟨w.heap.size, 1, none⟩)), IsV (.int .u64 (e.s : Int)), IsV (.bool true), IsV (.bool true), IsV (.bool true), IsV (undef), IsV (undef), IsV (undef), IsV (undef), IsV (undef), IsV (undef), IsV (undef), IsV (undef), IsV (undef), IsV (undef), IsV (.bool true)] ([(1, .pointer (some ⟨w.heap.size, 0, none⟩))] : List (Nat × Value)) (⟨rfl, trivial⟩) (n := 47) (by kernel_rfl) rfl (by kernel_rfl) P0.drew Grows.refl (StabAll.get ?_) ?_ ?_
  · repeat (first | exact trivial | refine ⟨stab_c _, ?_⟩ | refine ⟨stab_two _ _, ?_⟩ | refine ⟨fun _ _ _ _ _ _ _ => trivial, ?_⟩)
  · refine ⟨?_, ⟨?_, ⟨?_, ⟨?_, ⟨?_, ⟨?_, ⟨?_, ⟨?_, ⟨?_, ⟨?_, ⟨?_, ⟨?_, ⟨?_, ⟨?_, ⟨?_, ⟨?_, ⟨?_, ⟨?_, ⟨?_, ⟨?_, ⟨?_, ⟨?_, ⟨?_, ⟨?_, ⟨?_, ⟨?_, trivial⟩⟩⟩⟩⟩⟩⟩⟩⟩⟩⟩⟩⟩⟩⟩⟩⟩⟩⟩⟩⟩⟩⟩⟩⟩⟩
    · intro a W hS hE hD
      obtain ⟨x1, _⟩ := hE
      have e1 := x1 (by kernel_rfl)
      refine plan_free rfl ?_
      have k1 := e1
      refine plan_value (v := .pointer (some ⟨w.heap.size, 0, none⟩)) (w' := W) (by go_simp) ⟨_, rfl, hS, Grows.refl _, rfl⟩
    · intro a W hS hE hD
      have k4 : a.tmps.getD 4 undef = .pointer (some ⟨w.heap.size, 0, none⟩) := hD 0 4 (by kernel_rfl)
      refine plan_free rfl ?_
      have cc := hS.src.o
      refine plan_value (v := .int .i64 e.o) (w' := W) (by go_simp) ⟨_, rfl, hS, Grows.refl _, rfl⟩
    · intro a W hS hE hD
      have k5 : a.tmps.getD 5 undef = .int .i64 e.o := hD 1 5 (by kernel_rfl)
      refine plan_free rfl ?_
      refine plan_call (f := 59) (args := #[a.tmps.getD 5 undef]) (by kernel_rfl) ?_
      rw [k5]
      refine (RG.out W).mono ?_
      rintro _ W2 ⟨rfl, rfl⟩
      exact ⟨_, rfl, _, rfl, hS, Grows.refl _, rfl⟩
    · intro a W hS hE hD
      have k6 : a.tmps.getD 6 undef = .bool true := hD 2 6 (by kernel_rfl)
      refine plan_free rfl ?_
      refine plan_value (v := .bool false) (w' := W) (by go_simp) ⟨_, rfl, hS, Grows.refl _, rfl⟩
    · intro a W hS hE hD
      have k7 : a.tmps.getD 7 undef = .bool false := hD 3 7 (by kernel_rfl)
      refine plan_free rfl ?_
      refine plan_value ex_move ⟨_, rfl, hS, Grows.refl _, ?_⟩
      exact k7
    · intro a W hS hE hD
      obtain ⟨x1, _⟩ := hE
      have e1 := x1 (by kernel_rfl)
      have k8 : a.tmps.getD 8 undef = .bool false := hD 4 8 (by kernel_rfl)
      refine plan_want rfl (by kernel_rfl) k8 ?_
      have k1 := e1
      refine plan_value (v := .pointer (some ⟨w.heap.size, 1, none⟩)) (w' := W) (by go_simp) ⟨_, rfl, hS, Grows.refl _, rfl⟩
    · intro a W hS hE hD
      have k8 : a.tmps.getD 8 undef = .bool false := hD 4 8 (by kernel_rfl)
      have k9 : a.tmps.getD 9 undef = .pointer (some ⟨w.heap.size, 1, none⟩) := hD 5 9 (by kernel_rfl)
      refine plan_want rfl (by kernel_rfl) k8 ?_
      have cc := hS.src.s
      refine plan_value (v := .int .u64 (e.s : Int)) (w' := W) (by go_simp) ⟨_, rfl, hS, Grows.refl _, rfl⟩
    · intro a W hS hE hD
      have k8 : a.tmps.getD 8 undef = .bool false := hD 4 8 (by kernel_rfl)
      have k10 : a.tmps.getD 10 undef = .int .u64 (e.s : Int) := hD 6 10 (by kernel_rfl)
      refine plan_want rfl (by kernel_rfl) k8 ?_
      refine plan_value (v := .bool false) (w' := W) (by go_simp) ⟨_, rfl, hS, Grows.refl _, rfl⟩
    · intro a W hS hE hD
      have k8 : a.tmps.getD 8 undef = .bool false := hD 4 8 (by kernel_rfl)
      have k11 : a.tmps.getD 11 undef = .bool false := hD 7 11 (by kernel_rfl)
      refine plan_free rfl ?_
      refine plan_value (v := .bool false) (w' := W) (by go_simp) ⟨_, rfl, hS, Grows.refl _, rfl⟩
    · intro a W hS hE hD
      have k12 : a.tmps.getD 12 undef = .bool false := hD 8 12 (by kernel_rfl)
      refine plan_free rfl ?_
      refine plan_value ex_move ⟨_, rfl, hS, Grows.refl _, ?_⟩
      exact k12
    · intro a W hS hE hD
      obtain ⟨x1, _⟩ := hE
      have e1 := x1 (by kernel_rfl)
      have k13 : a.tmps.getD 13 undef = .bool false := hD 9 13 (by kernel_rfl)
      refine plan_want rfl (by kernel_rfl) k13 ?_
      have k1 := e1
      refine plan_value (v := .pointer (some ⟨w.heap.size, 1, none⟩)) (w' := W) (by go_simp) ⟨_, rfl, hS, Grows.refl _, rfl⟩
    · intro a W hS hE hD
      have k13 : a.tmps.getD 13 undef = .bool false := hD 9 13 (by kernel_rfl)
      have k14 : a.tmps.getD 14 undef = .pointer (some ⟨w.heap.size, 1, none⟩) := hD 10 14 (by kernel_rfl)
      refine plan_want rfl (by kernel_rfl) k13 ?_
      have cc := hS.src.s
      refine plan_value (v := .int .u64 (e.s : Int)) (w' := W) (by go_simp) ⟨_, rfl, hS, Grows.refl _, rfl⟩
    · intro a W hS hE hD
      have k13 : a.tmps.getD 13 undef = .bool false := hD 9 13 (by kernel_rfl)
      have k15 : a.tmps.getD 15 undef = .int .u64 (e.s : Int) := hD 11 15 (by kernel_rfl)
      refine plan_want rfl (by kernel_rfl) k13 ?_
      refine plan_value (v := .bool true) (w' := W) (by go_simp) ⟨_, rfl, hS, Grows.refl _, rfl⟩
    · intro a W hS hE hD
      have k13 : a.tmps.getD 13 undef = .bool false := hD 9 13 (by kernel_rfl)
      have k16 : a.tmps.getD 16 undef = .bool true := hD 12 16 (by kernel_rfl)
      refine plan_free rfl ?_
      refine plan_value (v := .bool true) (w' := W) (by go_simp) ⟨_, rfl, hS, Grows.refl _, rfl⟩
    · intro a W hS hE hD
      have k17 : a.tmps.getD 17 undef = .bool true := hD 13 17 (by kernel_rfl)
      refine plan_free rfl ?_
      refine plan_value ex_move ⟨_, rfl, hS, Grows.refl _, ?_⟩
      exact k17
    · intro a W hS hE hD
      have k18 : a.tmps.getD 18 undef = .bool true := hD 14 18 (by kernel_rfl)
      refine plan_skip rfl (by kernel_rfl) k18 rfl ?_
      exact rfl
    · intro a W hS hE hD
      have k18 : a.tmps.getD 18 undef = .bool true := hD 14 18 (by kernel_rfl)
      refine plan_skip rfl (by kernel_rfl) k18 rfl ?_
      exact rfl
    · intro a W hS hE hD
      have k18 : a.tmps.getD 18 undef = .bool true := hD 14 18 (by kernel_rfl)
      refine plan_skip rfl (by kernel_rfl) k18 rfl ?_
      exact rfl
    · intro a W hS hE hD
      have k18 : a.tmps.getD 18 undef = .bool true := hD 14 18 (by kernel_rfl)
      refine plan_skip rfl (by kernel_rfl) k18 rfl ?_
      exact rfl
    · intro a W hS hE hD
      have k18 : a.tmps.getD 18 undef = .bool true := hD 14 18 (by kernel_rfl)
      refine plan_skip rfl (by kernel_rfl) k18 rfl ?_
      exact rfl
    · intro a W hS hE hD
      have k18 : a.tmps.getD 18 undef = .bool true := hD 14 18 (by kernel_rfl)
      refine plan_skip rfl (by kernel_rfl) k18 rfl ?_
      exact rfl
    · intro a W hS hE hD
      have k18 : a.tmps.getD 18 undef = .bool true := hD 14 18 (by kernel_rfl)
      refine plan_skip rfl (by kernel_rfl) k18 rfl ?_
      exact rfl
    · intro a W hS hE hD
      have k18 : a.tmps.getD 18 undef = .bool true := hD 14 18 (by kernel_rfl)
      refine plan_skip rfl (by kernel_rfl) k18 rfl ?_
      exact rfl
    · intro a W hS hE hD
      have k18 : a.tmps.getD 18 undef = .bool true := hD 14 18 (by kernel_rfl)
      refine plan_skip rfl (by kernel_rfl) k18 rfl ?_
      exact rfl
    · intro a W hS hE hD
      have k18 : a.tmps.getD 18 undef = .bool true := hD 14 18 (by kernel_rfl)
      refine plan_skip rfl (by kernel_rfl) k18 rfl ?_
      exact rfl
    · intro a W hS hE hD
      have k18 : a.tmps.getD 18 undef = .bool true := hD 14 18 (by kernel_rfl)
      have k28 : a.tmps.getD 28 undef = undef := hD 24 28 (by kernel_rfl)
      refine plan_free rfl ?_
      refine plan_value (v := .bool true) (w' := W) (by go_simp) ⟨_, rfl, hS, Grows.refl _, rfl⟩
  · intro f w2 V hE
    have f29 : f 29 = .bool true := Ends.get hE 25 _ rfl 29 rfl
    clear hE
    simp only [setAll, List.setIfInBounds_toArray, List.set_cons_zero, List.set_cons_succ]
    rw [f29]; clear f29
    have VF := V.bel
    clear V
    go_wp2_with fail
    go_ret
    exact ⟨rfl, VF⟩
set_option maxRecDepth 100000 in
set_option maxHeartbeats 1000000 in
theorem rmay_D (e : Ev) (h : e.ok) (w : World) (hr : regE e.o = true) (hs : 1 ≤ e.s) (hc : e.s < 1099511627776) (hd : ¬ e.d.getD (e.o - 1).toNat 0 = e.s - 1) : Calls Try.prog 22 #[.agg (evA e)] w fun x w' => x = .returned (.bool false) ∧ Below w.heap.size w w' := by
  have P0 := PB.first (w := w) h.d6
  have RG := Lib.hid (rregion6_any e.o)
  rw [hr] at RG
  have hs0 : (0 : Int) ≤ (e.s : Int) := by omega
  have h1 : ¬ (e.s : Int) < 1 := by omega
  have h2 : ¬ (1099511627776 : Int) ≤ (e.s : Int) := by omega
  obtain ⟨k, hk, hz, hk1⟩ := regE_nat hr
  have hkd : k < e.d.length := by rw [h.d6]; exact hk
  have hdk : e.d.getD (e.o - 1).toNat 0 = e.d[k] := by rw [hk1]; simp [List.getD_eq_getElem?_getD, hkd]
  rw [hdk] at hd
  have hk0 : (0 : Int) ≤ (k : Int) := by omega
  have hk6 : (k : Int) < 6 := by omega
  have hz2 : e.o - 1 = (k : Int) := by omega
  have wr1 : IntKind.i64.wrap (k : Int) = (k : Int) := by rw [IntKind.wrap_i64]; omega
  have wr2 : IntKind.u64.wrap ((e.s : Int) - 1) = (e.s : Int) - 1 := by rw [IntKind.wrap_u64]; omega
  have h3 : (((e.d[k] : Nat) : Int) != (e.s : Int) - 1) = true := by
    have : ¬ ((e.d[k] : Nat) : Int) = (e.s : Int) - 1 := by omega
    simpa using this
  clear hr hs hc hd hdk
  go_enter Try.func22, Try.ntmps22
  go_wp2_with fail
  refine wp_region_plan (fun W => PB w W e) Grows [IsV (.pointer (some ⟨w.heap.size, 0, none⟩)), IsV (.int .i64 e.o), IsV (.bool true), IsV (.bool false), IsV (.bool false), IsV (.pointer (some ⟨w.heap.size, 1, none⟩)), IsV (.int .u64 (e.s : Int)), IsV (.bool false), IsV (.bool false), IsV (.bool false), IsV (.pointer (some ⟨w.heap.size, 1, none⟩)), IsV (.int .u64 (e.s : Int)), IsV (.bool false), IsV (.bool false), IsV (.bool false), IsV (.pointer (some ⟨w.heap.size, 0, none⟩)), IsV (.int .i64 e.o), IsV (.int .i64 (k : Int)), IsV (.pointer (some ⟨w.heap.size, 2, none⟩)), IsV (.pointer (some ⟨w.heap.size, 2 + k, none⟩)), IsV (.int .u64 ((e.d[k] : Nat) : Int)), IsV (.pointer (some ⟨w.heap.size, 1, none⟩)), IsV (.int .u64 (e.s : Int)), IsV (.int .u64 ((e.s : Int) - 1)), IsV (.bool true), IsV (.bool true)] ([(1, .pointer (some ⟨w.heap.size, 0, none⟩))] : List (Nat × Value)) (⟨rfl, trivial⟩) (n := 47) (by kernel_rfl) rfl (by kernel_rfl) P0.drew Grows.refl (StabAll.get ?_) ?_ ?_
  · repeat (first | exact trivial | refine ⟨stab_c _, ?_⟩ | refine ⟨stab_two _ _, ?_⟩ | refine ⟨fun _ _ _ _ _ _ _ => trivial, ?_⟩)
  · refine ⟨?_, ⟨?_, ⟨?_, ⟨?_, ⟨?_, ⟨?_, ⟨?_, ⟨?_, ⟨?_, ⟨?_, ⟨?_, ⟨?_, ⟨?_, ⟨?_, ⟨?_, ⟨?_, ⟨?_, ⟨?_, ⟨?_, ⟨?_, ⟨?_, ⟨?_, ⟨?_, ⟨?_, ⟨?_, ⟨?_, trivial⟩⟩⟩⟩⟩⟩⟩⟩⟩⟩⟩⟩⟩⟩⟩⟩⟩⟩⟩⟩⟩⟩⟩⟩⟩⟩
    · intro a W hS hE hD
      obtain ⟨x1, _⟩ := hE
      have e1 := x1 (by kernel_rfl)
      refine plan_free rfl ?_
      have k1 := e1
      refine plan_value (v := .pointer (some ⟨w.heap.size, 0, none⟩)) (w' := W) (by go_simp) ⟨_, rfl, hS, Grows.refl _, rfl⟩
    · intro a W hS hE hD
      have k4 : a.tmps.getD 4 undef = .pointer (some ⟨w.heap.size, 0, none⟩) := hD 0 4 (by kernel_rfl)
      refine plan_free rfl ?_
      have cc := hS.src.o
      refine plan_value (v := .int .i64 e.o) (w' := W) (by go_simp) ⟨_, rfl, hS, Grows.refl _, rfl⟩
    · intro a W hS hE hD
      have k5 : a.tmps.getD 5 undef = .int .i64 e.o := hD 1 5 (by kernel_rfl)
      refine plan_free rfl ?_
      refine plan_call (f := 59) (args := #[a.tmps.getD 5 undef]) (by kernel_rfl) ?_
      rw [k5]
      refine (RG.out W).mono ?_
      rintro _ W2 ⟨rfl, rfl⟩
      exact ⟨_, rfl, _, rfl, hS, Grows.refl _, rfl⟩
    · intro a W hS hE hD
      have k6 : a.tmps.getD 6 undef = .bool true := hD 2 6 (by kernel_rfl)
      refine plan_free rfl ?_
      refine plan_value (v := .bool false) (w' := W) (by go_simp) ⟨_, rfl, hS, Grows.refl _, rfl⟩
    · intro a W hS hE hD
      have k7 : a.tmps.getD 7 undef = .bool false := hD 3 7 (by kernel_rfl)
      refine plan_free rfl ?_
      refine plan_value ex_move ⟨_, rfl, hS, Grows.refl _, ?_⟩
      exact k7
    · intro a W hS hE hD
      obtain ⟨x1, _⟩ := hE
      have e1 := x1 (by kernel_rfl)
      have k8 : a.tmps.getD 8 undef = .bool false := hD 4 8 (by kernel_rfl)
      refine plan_want rfl (by kernel_rfl) k8 ?_
      have k1 := e1
      refine plan_value (v := .pointer (some ⟨w.heap.size, 1, none⟩)) (w' := W) (by go_simp) ⟨_, rfl, hS, Grows.refl _, rfl⟩
    · intro a W hS hE hD
      have k8 : a.tmps.getD 8 undef = .bool false := hD 4 8 (by kernel_rfl)
      have k9 : a.tmps.getD 9 undef = .pointer (some ⟨w.heap.size, 1, none⟩) := hD 5 9 (by kernel_rfl)
      refine plan_want rfl (by kernel_rfl) k8 ?_
      have cc := hS.src.s
      refine plan_value (v := .int .u64 (e.s : Int)) (w' := W) (by go_simp) ⟨_, rfl, hS, Grows.refl _, rfl⟩
    · intro a W hS hE hD
      have k8 : a.tmps.getD 8 undef = .bool false := hD 4 8 (by kernel_rfl)
      have k10 : a.tmps.getD 10 undef = .int .u64 (e.s : Int) := hD 6 10 (by kernel_rfl)
      refine plan_want rfl (by kernel_rfl) k8 ?_
      refine plan_value (v := .bool false) (w' := W) (by go_simp) ⟨_, rfl, hS, Grows.refl _, rfl⟩
    · intro a W hS hE hD
      have k8 : a.tmps.getD 8 undef = .bool false := hD 4 8 (by kernel_rfl)
      have k11 : a.tmps.getD 11 undef = .bool false := hD 7 11 (by kernel_rfl)
      refine plan_free rfl ?_
      refine plan_value (v := .bool false) (w' := W) (by go_simp) ⟨_, rfl, hS, Grows.refl _, rfl⟩
    · intro a W hS hE hD
      have k12 : a.tmps.getD 12 undef = .bool false := hD 8 12 (by kernel_rfl)
      refine plan_free rfl ?_
      refine plan_value ex_move ⟨_, rfl, hS, Grows.refl _, ?_⟩
      exact k12
    · intro a W hS hE hD
      obtain ⟨x1, _⟩ := hE
      have e1 := x1 (by kernel_rfl)
      have k13 : a.tmps.getD 13 undef = .bool false := hD 9 13 (by kernel_rfl)
      refine plan_want rfl (by kernel_rfl) k13 ?_
      have k1 := e1
      refine plan_value (v := .pointer (some ⟨w.heap.size, 1, none⟩)) (w' := W) (by go_simp) ⟨_, rfl, hS, Grows.refl _, rfl⟩
    · intro a W hS hE hD
      have k13 : a.tmps.getD 13 undef = .bool false := hD 9 13 (by kernel_rfl)
      have k14 : a.tmps.getD 14 undef = .pointer (some ⟨w.heap.size, 1, none⟩) := hD 10 14 (by kernel_rfl)
      refine plan_want rfl (by kernel_rfl) k13 ?_
      have cc := hS.src.s
      refine plan_value (v := .int .u64 (e.s : Int)) (w' := W) (by go_simp) ⟨_, rfl, hS, Grows.refl _, rfl⟩
    · intro a W hS hE hD
      have k13 : a.tmps.getD 13 undef = .bool false := hD 9 13 (by kernel_rfl)
      have k15 : a.tmps.getD 15 undef = .int .u64 (e.s : Int) := hD 11 15 (by kernel_rfl)
      refine plan_want rfl (by kernel_rfl) k13 ?_
      refine plan_value (v := .bool false) (w' := W) (by go_simp) ⟨_, rfl, hS, Grows.refl _, rfl⟩
    · intro a W hS hE hD
      have k13 : a.tmps.getD 13 undef = .bool false := hD 9 13 (by kernel_rfl)
      have k16 : a.tmps.getD 16 undef = .bool false := hD 12 16 (by kernel_rfl)
      refine plan_free rfl ?_
      refine plan_value (v := .bool false) (w' := W) (by go_simp) ⟨_, rfl, hS, Grows.refl _, rfl⟩
    · intro a W hS hE hD
      have k17 : a.tmps.getD 17 undef = .bool false := hD 13 17 (by kernel_rfl)
      refine plan_free rfl ?_
      refine plan_value ex_move ⟨_, rfl, hS, Grows.refl _, ?_⟩
      exact k17
    · intro a W hS hE hD
      obtain ⟨x1, _⟩ := hE
      have e1 := x1 (by kernel_rfl)
      have k18 : a.tmps.getD 18 undef = .bool false := hD 14 18 (by kernel_rfl)
      refine plan_want rfl (by kernel_rfl) k18 ?_
      have k1 := e1
      refine plan_value (v := .pointer (some ⟨w.heap.size, 0, none⟩)) (w' := W) (by go_simp) ⟨_, rfl, hS, Grows.refl _, rfl⟩
    · intro a W hS hE hD
      have k18 : a.tmps.getD 18 undef = .bool false := hD 14 18 (by kernel_rfl)
      have k19 : a.tmps.getD 19 undef = .pointer (some ⟨w.heap.size, 0, none⟩) := hD 15 19 (by kernel_rfl)
      refine plan_want rfl (by kernel_rfl) k18 ?_
      have cc := hS.src.o
      refine plan_value (v := .int .i64 e.o) (w' := W) (by go_simp) ⟨_, rfl, hS, Grows.refl _, rfl⟩
    · intro a W hS hE hD
      have k18 : a.tmps.getD 18 undef = .bool false := hD 14 18 (by kernel_rfl)
      have k20 : a.tmps.getD 20 undef = .int .i64 e.o := hD 16 20 (by kernel_rfl)
      refine plan_want rfl (by kernel_rfl) k18 ?_
      refine plan_value (v := .int .i64 (k : Int)) (w' := W) (by go_simp) ⟨_, rfl, hS, Grows.refl _, rfl⟩
    · intro a W hS hE hD
      obtain ⟨x1, _⟩ := hE
      have e1 := x1 (by kernel_rfl)
      have k18 : a.tmps.getD 18 undef = .bool false := hD 14 18 (by kernel_rfl)
      refine plan_want rfl (by kernel_rfl) k18 ?_
      have k1 := e1
      refine plan_value (v := .pointer (some ⟨w.heap.size, 2, none⟩)) (w' := W) (by go_simp) ⟨_, rfl, hS, Grows.refl _, rfl⟩
    · intro a W hS hE hD
      have k18 : a.tmps.getD 18 undef = .bool false := hD 14 18 (by kernel_rfl)
      have k22 : a.tmps.getD 22 undef = .pointer (some ⟨w.heap.size, 2, none⟩) := hD 18 22 (by kernel_rfl)
      have k21 : a.tmps.getD 21 undef = .int .i64 (k : Int) := hD 17 21 (by kernel_rfl)
      refine plan_want rfl (by kernel_rfl) k18 ?_
      refine plan_value (v := .pointer (some ⟨w.heap.size, 2 + k, none⟩)) (w' := W) (by go_simp) ⟨_, rfl, hS, Grows.refl _, rfl⟩
    · intro a W hS hE hD
      have k18 : a.tmps.getD 18 undef = .bool false := hD 14 18 (by kernel_rfl)
      have k23 : a.tmps.getD 23 undef = .pointer (some ⟨w.heap.size, 2 + k, none⟩) := hD 19 23 (by kernel_rfl)
      refine plan_want rfl (by kernel_rfl) k18 ?_
      have cc := hS.src.d k hkd
      refine plan_value (v := .int .u64 ((e.d[k] : Nat) : Int)) (w' := W) (by go_simp) ⟨_, rfl, hS, Grows.refl _, rfl⟩
    · intro a W hS hE hD
      obtain ⟨x1, _⟩ := hE
      have e1 := x1 (by kernel_rfl)
      have k18 : a.tmps.getD 18 undef = .bool false := hD 14 18 (by kernel_rfl)
      refine plan_want rfl (by kernel_rfl) k18 ?_
      have k1 := e1
      refine plan_value (v := .pointer (some ⟨w.heap.size, 1, none⟩)) (w' := W) (by go_simp) ⟨_, rfl, hS, Grows.refl _, rfl⟩
    · intro a W hS hE hD
      have k18 : a.tmps.getD 18 undef = .bool false := hD 14 18 (by kernel_rfl)
      have k25 : a.tmps.getD 25 undef = .pointer (some ⟨w.heap.size, 1, none⟩) := hD 21 25 (by kernel_rfl)
      refine plan_want rfl (by kernel_rfl) k18 ?_
      have cc := hS.src.s
      refine plan_value (v := .int .u64 (e.s : Int)) (w' := W) (by go_simp) ⟨_, rfl, hS, Grows.refl _, rfl⟩
    · intro a W hS hE hD
      have k18 : a.tmps.getD 18 undef = .bool false := hD 14 18 (by kernel_rfl)
      have k26 : a.tmps.getD 26 undef = .int .u64 (e.s : Int) := hD 22 26 (by kernel_rfl)
      refine plan_want rfl (by kernel_rfl) k18 ?_
      refine plan_value (v := .int .u64 ((e.s : Int) - 1)) (w' := W) (by go_simp) ⟨_, rfl, hS, Grows.refl _, rfl⟩
    · intro a W hS hE hD
      have k18 : a.tmps.getD 18 undef = .bool false := hD 14 18 (by kernel_rfl)
      have k24 : a.tmps.getD 24 undef = .int .u64 ((e.d[k] : Nat) : Int) := hD 20 24 (by kernel_rfl)
      have k27 : a.tmps.getD 27 undef = .int .u64 ((e.s : Int) - 1) := hD 23 27 (by kernel_rfl)
      refine plan_want rfl (by kernel_rfl) k18 ?_
      refine plan_value (v := .bool true) (w' := W) (by go_simp) ⟨_, rfl, hS, Grows.refl _, rfl⟩
    · intro a W hS hE hD
      have k18 : a.tmps.getD 18 undef = .bool false := hD 14 18 (by kernel_rfl)
      have k28 : a.tmps.getD 28 undef = .bool true := hD 24 28 (by kernel_rfl)
      refine plan_free rfl ?_
      refine plan_value (v := .bool true) (w' := W) (by go_simp) ⟨_, rfl, hS, Grows.refl _, rfl⟩
  · intro f w2 V hE
    have f29 : f 29 = .bool true := Ends.get hE 25 _ rfl 29 rfl
    clear hE
    simp only [setAll, List.setIfInBounds_toArray, List.set_cons_zero, List.set_cons_succ]
    rw [f29]; clear f29
    have VF := V.bel
    clear V
    go_wp2_with fail
    go_ret
    exact ⟨rfl, VF⟩
set_option maxRecDepth 100000 in
set_option maxHeartbeats 1000000 in
theorem rmay_E (e : Ev) (h : e.ok) (w : World) (hr : regE e.o = true) (hs : 1 ≤ e.s) (hc : e.s < 1099511627776) (hd : e.d.getD (e.o - 1).toNat 0 = e.s - 1) : Calls Try.prog 22 #[.agg (evA e)] w fun x w' => x = .returned (.bool (e.d.all seqN && mfE e)) ∧ Below w.heap.size w w' := by
  have P0 := PB.first (w := w) h.d6
  have RG := Lib.hid (rregion6_any e.o)
  rw [hr] at RG
  have hs0 : (0 : Int) ≤ (e.s : Int) := by omega
  have h1 : ¬ (e.s : Int) < 1 := by omega
  have h2 : ¬ (1099511627776 : Int) ≤ (e.s : Int) := by omega
  obtain ⟨k, hk, hz, hk1⟩ := regE_nat hr
  have hkd : k < e.d.length := by rw [h.d6]; exact hk
  have hdk : e.d.getD (e.o - 1).toNat 0 = e.d[k] := by rw [hk1]; simp [List.getD_eq_getElem?_getD, hkd]
  rw [hdk] at hd
  have hk0 : (0 : Int) ≤ (k : Int) := by omega
  have hk6 : (k : Int) < 6 := by omega
  have hz2 : e.o - 1 = (k : Int) := by omega
  have wr1 : IntKind.i64.wrap (k : Int) = (k : Int) := by rw [IntKind.wrap_i64]; omega
  have wr2 : IntKind.u64.wrap ((e.s : Int) - 1) = (e.s : Int) - 1 := by rw [IntKind.wrap_u64]; omega
  have h3 : (((e.d[k] : Nat) : Int) != (e.s : Int) - 1) = false := by
    have : ((e.d[k] : Nat) : Int) = (e.s : Int) - 1 := by omega
    simpa using this
  have OK := Lib.hid h
  clear hr hs hc hd hdk h
  go_enter Try.func22, Try.ntmps22
  go_wp2_with fail
  refine wp_region_plan (fun W => PB w W e) Grows [IsV (.pointer (some ⟨w.heap.size, 0, none⟩)), IsV (.int .i64 e.o), IsV (.bool true), IsV (.bool false), IsV (.bool false), IsV (.pointer (some ⟨w.heap.size, 1, none⟩)), IsV (.int .u64 (e.s : Int)), IsV (.bool false), IsV (.bool false), IsV (.bool false), IsV (.pointer (some ⟨w.heap.size, 1, none⟩)), IsV (.int .u64 (e.s : Int)), IsV (.bool false), IsV (.bool false), IsV (.bool false), IsV (.pointer (some ⟨w.heap.size, 0, none⟩)), IsV (.int .i64 e.o), IsV (.int .i64 (k : Int)), IsV (.pointer (some ⟨w.heap.size, 2, none⟩)), IsV (.pointer (some ⟨w.heap.size, 2 + k, none⟩)), IsV (.int .u64 ((e.d[k] : Nat) : Int)), IsV (.pointer (some ⟨w.heap.size, 1, none⟩)), IsV (.int .u64 (e.s : Int)), IsV (.int .u64 ((e.s : Int) - 1)), IsV (.bool false), IsV (.bool false)] ([(1, .pointer (some ⟨w.heap.size, 0, none⟩))] : List (Nat × Value)) (⟨rfl, trivial⟩) (n := 47) (by kernel_rfl) rfl (by kernel_rfl) P0.drew Grows.refl (StabAll.get ?_) ?_ ?_
  · repeat (first | exact trivial | refine ⟨stab_c _, ?_⟩ | refine ⟨stab_two _ _, ?_⟩ | refine ⟨fun _ _ _ _ _ _ _ => trivial, ?_⟩)
  · refine ⟨?_, ⟨?_, ⟨?_, ⟨?_, ⟨?_, ⟨?_, ⟨?_, ⟨?_, ⟨?_, ⟨?_, ⟨?_, ⟨?_, ⟨?_, ⟨?_, ⟨?_, ⟨?_, ⟨?_, ⟨?_, ⟨?_, ⟨?_, ⟨?_, ⟨?_, ⟨?_, ⟨?_, ⟨?_, ⟨?_, trivial⟩⟩⟩⟩⟩⟩⟩⟩⟩⟩⟩⟩⟩⟩⟩⟩⟩⟩⟩⟩⟩⟩⟩⟩⟩⟩
    · intro a W hS hE hD
      obtain ⟨x1, _⟩ := hE
      have e1 := x1 (by kernel_rfl)
      refine plan_free rfl ?_
      have k1 := e1
      refine plan_value (v := .pointer (some ⟨w.heap.size, 0, none⟩)) (w' := W) (by go_simp) ⟨_, rfl, hS, Grows.refl _, rfl⟩
    · intro a W hS hE hD
      have k4 : a.tmps.getD 4 undef = .pointer (some ⟨w.heap.size, 0, none⟩) := hD 0 4 (by kernel_rfl)
      refine plan_free rfl ?_
      have cc := hS.src.o
      refine plan_value (v := .int .i64 e.o) (w' := W) (by go_simp) ⟨_, rfl, hS, Grows.refl _, rfl⟩
    · intro a W hS hE hD
      have k5 : a.tmps.getD 5 undef = .int .i64 e.o := hD 1 5 (by kernel_rfl)
      refine plan_free rfl ?_
      refine plan_call (f := 59) (args := #[a.tmps.getD 5 undef]) (by kernel_rfl) ?_
      rw [k5]
      refine (RG.out W).mono ?_
      rintro _ W2 ⟨rfl, rfl⟩
      exact ⟨_, rfl, _, rfl, hS, Grows.refl _, rfl⟩
    · intro a W hS hE hD
      have k6 : a.tmps.getD 6 undef = .bool true := hD 2 6 (by kernel_rfl)
      refine plan_free rfl ?_
      refine plan_value (v := .bool false) (w' := W) (by go_simp) ⟨_, rfl, hS, Grows.refl _, rfl⟩
    · intro a W hS hE hD
      have k7 : a.tmps.getD 7 undef = .bool false := hD 3 7 (by kernel_rfl)
      refine plan_free rfl ?_
      refine plan_value ex_move ⟨_, rfl, hS, Grows.refl _, ?_⟩
      exact k7
    · intro a W hS hE hD
      obtain ⟨x1, _⟩ := hE
      have e1 := x1 (by kernel_rfl)
      have k8 : a.tmps.getD 8 undef = .bool false := hD 4 8 (by kernel_rfl)
      refine plan_want rfl (by kernel_rfl) k8 ?_
      have k1 := e1
      refine plan_value (v := .pointer (some ⟨w.heap.size, 1, none⟩)) (w' := W) (by go_simp) ⟨_, rfl, hS, Grows.refl _, rfl⟩
    · intro a W hS hE hD
      have k8 : a.tmps.getD 8 undef = .bool false := hD 4 8 (by kernel_rfl)
      have k9 : a.tmps.getD 9 undef = .pointer (some ⟨w.heap.size, 1, none⟩) := hD 5 9 (by kernel_rfl)
      refine plan_want rfl (by kernel_rfl) k8 ?_
      have cc := hS.src.s
      refine plan_value (v := .int .u64 (e.s : Int)) (w' := W) (by go_simp) ⟨_, rfl, hS, Grows.refl _, rfl⟩
    · intro a W hS hE hD
      have k8 : a.tmps.getD 8 undef = .bool false := hD 4 8 (by kernel_rfl)
      have k10 : a.tmps.getD 10 undef = .int .u64 (e.s : Int) := hD 6 10 (by kernel_rfl)
      refine plan_want rfl (by kernel_rfl) k8 ?_
      refine plan_value (v := .bool false) (w' := W) (by go_simp) ⟨_, rfl, hS, Grows.refl _, rfl⟩
    · intro a W hS hE hD
      have k8 : a.tmps.getD 8 undef = .bool false := hD 4 8 (by kernel_rfl)
      have k11 : a.tmps.getD 11 undef = .bool false := hD 7 11 (by kernel_rfl)
      refine plan_free rfl ?_
      refine plan_value (v := .bool false) (w' := W) (by go_simp) ⟨_, rfl, hS, Grows.refl _, rfl⟩
    · intro a W hS hE hD
      have k12 : a.tmps.getD 12 undef = .bool false := hD 8 12 (by kernel_rfl)
      refine plan_free rfl ?_
      refine plan_value ex_move ⟨_, rfl, hS, Grows.refl _, ?_⟩
      exact k12
    · intro a W hS hE hD
      obtain ⟨x1, _⟩ := hE
      have e1 := x1 (by kernel_rfl)
      have k13 : a.tmps.getD 13 undef = .bool false := hD 9 13 (by kernel_rfl)
      refine plan_want rfl (by kernel_rfl) k13 ?_
      have k1 := e1
      refine plan_value (v := .pointer (some ⟨w.heap.size, 1, none⟩)) (w' := W) (by go_simp) ⟨_, rfl, hS, Grows.refl _, rfl⟩
    · intro a W hS hE hD
      have k13 : a.tmps.getD 13 undef = .bool false := hD 9 13 (by kernel_rfl)
      have k14 : a.tmps.getD 14 undef = .pointer (some ⟨w.heap.size, 1, none⟩) := hD 10 14 (by kernel_rfl)
      refine plan_want rfl (by kernel_rfl) k13 ?_
      have cc := hS.src.s
      refine plan_value (v := .int .u64 (e.s : Int)) (w' := W) (by go_simp) ⟨_, rfl, hS, Grows.refl _, rfl⟩
    · intro a W hS hE hD
      have k13 : a.tmps.getD 13 undef = .bool false := hD 9 13 (by kernel_rfl)
      have k15 : a.tmps.getD 15 undef = .int .u64 (e.s : Int) := hD 11 15 (by kernel_rfl)
      refine plan_want rfl (by kernel_rfl) k13 ?_
      refine plan_value (v := .bool false) (w' := W) (by go_simp) ⟨_, rfl, hS, Grows.refl _, rfl⟩
    · intro a W hS hE hD
      have k13 : a.tmps.getD 13 undef = .bool false := hD 9 13 (by kernel_rfl)
      have k16 : a.tmps.getD 16 undef = .bool false := hD 12 16 (by kernel_rfl)
      refine plan_free rfl ?_
      refine plan_value (v := .bool false) (w' := W) (by go_simp) ⟨_, rfl, hS, Grows.refl _, rfl⟩
    · intro a W hS hE hD
      have k17 : a.tmps.getD 17 undef = .bool false := hD 13 17 (by kernel_rfl)
      refine plan_free rfl ?_
      refine plan_value ex_move ⟨_, rfl, hS, Grows.refl _, ?_⟩
      exact k17
    · intro a W hS hE hD
      obtain ⟨x1, _⟩ := hE
      have e1 := x1 (by kernel_rfl)
      have k18 : a.tmps.getD 18 undef = .bool false := hD 14 18 (by kernel_rfl)
      refine plan_want rfl (by kernel_rfl) k18 ?_
      have k1 := e1
      refine plan_value (v := .pointer (some ⟨w.heap.size, 0, none⟩)) (w' := W) (by go_simp) ⟨_, rfl, hS, Grows.refl _, rfl⟩
    · intro a W hS hE hD
      have k18 : a.tmps.getD 18 undef = .bool false := hD 14 18 (by kernel_rfl)
      have k19 : a.tmps.getD 19 undef = .pointer (some ⟨w.heap.size, 0, none⟩) := hD 15 19 (by kernel_rfl)
      refine plan_want rfl (by kernel_rfl) k18 ?_
      have cc := hS.src.o
      refine plan_value (v := .int .i64 e.o) (w' := W) (by go_simp) ⟨_, rfl, hS, Grows.refl _, rfl⟩
    · intro a W hS hE hD
      have k18 : a.tmps.getD 18 undef = .bool false := hD 14 18 (by kernel_rfl)
      have k20 : a.tmps.getD 20 undef = .int .i64 e.o := hD 16 20 (by kernel_rfl)
      refine plan_want rfl (by kernel_rfl) k18 ?_
      refine plan_value (v := .int .i64 (k : Int)) (w' := W) (by go_simp) ⟨_, rfl, hS, Grows.refl _, rfl⟩
    · intro a W hS hE hD
      obtain ⟨x1, _⟩ := hE
      have e1 := x1 (by kernel_rfl)
      have k18 : a.tmps.getD 18 undef = .bool false := hD 14 18 (by kernel_rfl)
      refine plan_want rfl (by kernel_rfl) k18 ?_
      have k1 := e1
      refine plan_value (v := .pointer (some ⟨w.heap.size, 2, none⟩)) (w' := W) (by go_simp) ⟨_, rfl, hS, Grows.refl _, rfl⟩
    · intro a W hS hE hD
      have k18 : a.tmps.getD 18 undef = .bool false := hD 14 18 (by kernel_rfl)
      have k22 : a.tmps.getD 22 undef = .pointer (some ⟨w.heap.size, 2, none⟩) := hD 18 22 (by kernel_rfl)
      have k21 : a.tmps.getD 21 undef = .int .i64 (k : Int) := hD 17 21 (by kernel_rfl)
      refine plan_want rfl (by kernel_rfl) k18 ?_
      refine plan_value (v := .pointer (some ⟨w.heap.size, 2 + k, none⟩)) (w' := W) (by go_simp) ⟨_, rfl, hS, Grows.refl _, rfl⟩
    · intro a W hS hE hD
      have k18 : a.tmps.getD 18 undef = .bool false := hD 14 18 (by kernel_rfl)
      have k23 : a.tmps.getD 23 undef = .pointer (some ⟨w.heap.size, 2 + k, none⟩) := hD 19 23 (by kernel_rfl)
      refine plan_want rfl (by kernel_rfl) k18 ?_
      have cc := hS.src.d k hkd
      refine plan_value (v := .int .u64 ((e.d[k] : Nat) : Int)) (w' := W) (by go_simp) ⟨_, rfl, hS, Grows.refl _, rfl⟩
    · intro a W hS hE hD
      obtain ⟨x1, _⟩ := hE
      have e1 := x1 (by kernel_rfl)
      have k18 : a.tmps.getD 18 undef = .bool false := hD 14 18 (by kernel_rfl)
      refine plan_want rfl (by kernel_rfl) k18 ?_
      have k1 := e1
      refine plan_value (v := .pointer (some ⟨w.heap.size, 1, none⟩)) (w' := W) (by go_simp) ⟨_, rfl, hS, Grows.refl _, rfl⟩
    · intro a W hS hE hD
      have k18 : a.tmps.getD 18 undef = .bool false := hD 14 18 (by kernel_rfl)
      have k25 : a.tmps.getD 25 undef = .pointer (some ⟨w.heap.size, 1, none⟩) := hD 21 25 (by kernel_rfl)
      refine plan_want rfl (by kernel_rfl) k18 ?_
      have cc := hS.src.s
      refine plan_value (v := .int .u64 (e.s : Int)) (w' := W) (by go_simp) ⟨_, rfl, hS, Grows.refl _, rfl⟩
    · intro a W hS hE hD
      have k18 : a.tmps.getD 18 undef = .bool false := hD 14 18 (by kernel_rfl)
      have k26 : a.tmps.getD 26 undef = .int .u64 (e.s : Int) := hD 22 26 (by kernel_rfl)
      refine plan_want rfl (by kernel_rfl) k18 ?_
      refine plan_value (v := .int .u64 ((e.s : Int) - 1)) (w' := W) (by go_simp) ⟨_, rfl, hS, Grows.refl _, rfl⟩
    · intro a W hS hE hD
      have k18 : a.tmps.getD 18 undef = .bool false := hD 14 18 (by kernel_rfl)
      have k24 : a.tmps.getD 24 undef = .int .u64 ((e.d[k] : Nat) : Int) := hD 20 24 (by kernel_rfl)
      have k27 : a.tmps.getD 27 undef = .int .u64 ((e.s : Int) - 1) := hD 23 27 (by kernel_rfl)
      refine plan_want rfl (by kernel_rfl) k18 ?_
      refine plan_value (v := .bool false) (w' := W) (by go_simp) ⟨_, rfl, hS, Grows.refl _, rfl⟩
    · intro a W hS hE hD
      have k18 : a.tmps.getD 18 undef = .bool false := hD 14 18 (by kernel_rfl)
      have k28 : a.tmps.getD 28 undef = .bool false := hD 24 28 (by kernel_rfl)
      refine plan_free rfl ?_
      refine plan_value (v := .bool false) (w' := W) (by go_simp) ⟨_, rfl, hS, Grows.refl _, rfl⟩
  · intro f w2 V hE
    have f29 : f 29 = .bool false := Ends.get hE 25 _ rfl 29 rfl
    clear hE
    simp only [setAll, List.setIfInBounds_toArray, List.set_cons_zero, List.set_cons_succ]
    rw [f29]; clear f29
    clear h1 h2 h3 hk0 hk6 hz2 hk1 hkd hz hk P0 wr1 wr2
    go_wp2_with fail
    go_loopw [3] (fun i wr => ∃ j : Nat, j ≤ 6 ∧ i = .int .i64 (j : Int) ∧ SeqTo e.d j ∧ PB w wr e) (fun i _ => 6 - (intOf i).toNat)
    case atStart => exact ⟨0, by omega, rfl, rfl, V⟩
    case round =>
      clear V
      obtain ⟨j, hj, rfl, hall, V⟩ := hrel
      by_cases hlt : j < 6
      · have hjd : j < e.d.length := by rw [OK.out.d6]; exact hlt
        have hix := V.src.d j hjd
        have HNO := Lib.hid (all_no (p := seqN) e.d j hjd)
        have HYES := Lib.hid (all_step (p := seqN) e.d j hjd hall)
        generalize e.d[j] = x at hix HNO HYES
        have hj6 : (j : Int) < 6 := by omega
        have hj0 : (0 : Int) ≤ (j : Int) := by omega
        have HV := Lib.hid V
        clear V
        by_cases hx : 1099511627776 ≤ x
        · have hx1 : (1099511627776 : Int) ≤ (x : Int) := by omega
          have hv : Hid (e.d.all seqN = false) := HNO.out (by unfold seqN; rw [decide_eq_false]; omega)
          clear HNO HYES hall hx
          go_wp2_with fail
          go_ret
          exact ⟨by rw [hv.out]; rfl, HV.out.bel⟩
        · have hx1 : ¬ (1099511627776 : Int) ≤ (x : Int) := by omega
          have hnext : Hid (SeqTo e.d (j + 1)) := HYES.out (by unfold seqN; rw [decide_eq_true]; omega)
          clear HNO HYES hall hx
          go_wp2_with fail
          go_roundw
          case rel => exact ⟨j + 1, by omega, by go_num, hnext.out, HV.out⟩
          case measure => simp [intOf]; omega
      · obtain rfl : j = 6 := by omega
        have hv : Hid (e.d.all seqN = true) := by have := hall; unfold SeqTo at this; rwa [List.take_of_length_le (by rw [OK.out.d6]; omega)] at this
        have V3 := Lib.hid V
        clear V hall
        have OW := Lib.hid (own_any e OK.out)
        have FD := Lib.hid (fields_any e OK.out)
        have MO := Lib.hid (mfE_own e)
        have OKO := Lib.hid (ownE_ok OK.out)
        generalize ownE e = O at OW MO OKO
        by_cases hq : e = O
        case neg =>
          have qd : ∀ W, (Op.equalIn 10000 26 (.agg (evA e)) (.agg (evA O))).run Try.prog W = .ok false W := ev_diff OK.out OKO.out hq
          have RES : Hid ((e.d.all seqN && mfE e) = false) := by
            show _ = _
            cases hm : mfE e
            · simp
            · exact absurd (MO.out.1 hm).1 hq
          clear hq
          go_wp2_with fail
          refine wp_region_plan (fun W => PB w W e) Grows [IsV (.agg (evA e)), IsV (.agg (evA e)), IsV (.agg (evA O)), IsV (.bool false), IsV (.bool false), IsV (undef), IsV (undef), IsV (.bool false), IsV (.bool false)] ([(1, .pointer (some ⟨w.heap.size, 0, none⟩))] : List (Nat × Value)) (⟨rfl, trivial⟩) (n := 47) (by kernel_rfl) rfl (by kernel_rfl) V3.out.drew Grows.refl (StabAll.get ?_) ?_ ?_
          · repeat (first | exact trivial | refine ⟨stab_c _, ?_⟩ | refine ⟨stab_two _ _, ?_⟩ | refine ⟨fun _ _ _ _ _ _ _ => trivial, ?_⟩)
          · refine ⟨?_, ⟨?_, ⟨?_, ⟨?_, ⟨?_, ⟨?_, ⟨?_, ⟨?_, ⟨?_, trivial⟩⟩⟩⟩⟩⟩⟩⟩⟩
            · intro a W hS hE hD
              obtain ⟨x1, _⟩ := hE
              have e1 := x1 (by kernel_rfl)
              refine plan_free rfl ?_
              have k1 := e1
              refine plan_value (ex_loadE e1 hS.src.d6 hS.src.rg) ⟨_, rfl, hS, Grows.refl _, rfl⟩
            · intro a W hS hE hD
              obtain ⟨x1, _⟩ := hE
              have e1 := x1 (by kernel_rfl)
              refine plan_free rfl ?_
              have k1 := e1
              refine plan_value (ex_loadE e1 hS.src.d6 hS.src.rg) ⟨_, rfl, hS, Grows.refl _, rfl⟩
            · intro a W hS hE hD
              have k40 : a.tmps.getD 40 undef = .agg (evA e) := hD 1 40 (by kernel_rfl)
              refine plan_free rfl ?_
              refine plan_call (f := 60) (args := #[a.tmps.getD 40 undef]) (by kernel_rfl) ?_
              rw [k40]
              refine (OW.out W).mono ?_
              rintro e W2 ⟨rfl, hb⟩
              refine ⟨_, rfl, _, rfl, hS.next hb, hb, ?_⟩
              exact rfl
            · intro a W hS hE hD
              have k39 : a.tmps.getD 39 undef = .agg (evA e) := hD 0 39 (by kernel_rfl)
              have k41 : a.tmps.getD 41 undef = .agg (evA O) := hD 2 41 (by kernel_rfl)
              refine plan_free rfl ?_
              refine plan_value (v := .bool false) (w' := W) (by go_simp) ⟨_, rfl, hS, Grows.refl _, rfl⟩
            · intro a W hS hE hD
              have k42 : a.tmps.getD 42 undef = .bool false := hD 3 42 (by kernel_rfl)
              refine plan_free rfl ?_
              refine plan_value ex_move ⟨_, rfl, hS, Grows.refl _, ?_⟩
              exact k42
            · intro a W hS hE hD
              have k43 : a.tmps.getD 43 undef = .bool false := hD 4 43 (by kernel_rfl)
              refine plan_skip rfl (by kernel_rfl) k43 rfl ?_
              exact rfl
            · intro a W hS hE hD
              have k43 : a.tmps.getD 43 undef = .bool false := hD 4 43 (by kernel_rfl)
              refine plan_skip rfl (by kernel_rfl) k43 rfl ?_
              exact rfl
            · intro a W hS hE hD
              have k43 : a.tmps.getD 43 undef = .bool false := hD 4 43 (by kernel_rfl)
              have k45 : a.tmps.getD 45 undef = undef := hD 6 45 (by kernel_rfl)
              refine plan_free rfl ?_
              refine plan_value (v := .bool false) (w' := W) (by go_simp) ⟨_, rfl, hS, Grows.refl _, rfl⟩
            · intro a W hS hE hD
              have k46 : a.tmps.getD 46 undef = .bool false := hD 7 46 (by kernel_rfl)
              refine plan_free rfl ?_
              refine plan_value ex_assign ⟨_, rfl, hS, Grows.refl _, ?_⟩
              exact k46
          · intro f w5 V5 hE
            have f46 : f 46 = .bool false := Ends.get hE 7 _ rfl 46 rfl
            have f2 : f 2 = .bool false := Ends.get hE 8 _ rfl 2 rfl
            clear hE
            simp only [setAll, List.setIfInBounds_toArray, List.set_cons_zero, List.set_cons_succ]
            rw [f46]; clear f46
            rw [f2]; clear f2
            have VF := V5.bel
            clear V5
            go_wp2_with fail
            go_ret
            exact ⟨by rw [RES.out]; rfl, VF⟩
        case pos =>
          have qd : ∀ W, (Op.equalIn 10000 26 (.agg (evA e)) (.agg (evA O))).run Try.prog W = .ok true W := by rw [← hq]; exact ev_same OK.out
          cases hf : fldE e
          case false =>
            rw [hf] at FD
            have RES : Hid ((e.d.all seqN && mfE e) = false) := by
              show _ = _
              cases hm : mfE e
              · simp
              · have := (MO.out.1 hm).2; rw [hf] at this; cases this
            clear hq hf
            go_wp2_with fail
            refine wp_region_plan (fun W => PB w W e) Grows [IsV (.agg (evA e)), IsV (.agg (evA e)), IsV (.agg (evA O)), IsV (.bool true), IsV (.bool true), IsV (.agg (evA e)), IsV (.bool false), IsV (.bool false), IsV (.bool false)] ([(1, .pointer (some ⟨w.heap.size, 0, none⟩))] : List (Nat × Value)) (⟨rfl, trivial⟩) (n := 47) (by kernel_rfl) rfl (by kernel_rfl) V3.out.drew Grows.refl (StabAll.get ?_) ?_ ?_
            · repeat (first | exact trivial | refine ⟨stab_c _, ?_⟩ | refine ⟨stab_two _ _, ?_⟩ | refine ⟨fun _ _ _ _ _ _ _ => trivial, ?_⟩)
            · refine ⟨?_, ⟨?_, ⟨?_, ⟨?_, ⟨?_, ⟨?_, ⟨?_, ⟨?_, ⟨?_, trivial⟩⟩⟩⟩⟩⟩⟩⟩⟩
              · intro a W hS hE hD
                obtain ⟨x1, _⟩ := hE
                have e1 := x1 (by kernel_rfl)
                refine plan_free rfl ?_
                have k1 := e1
                refine plan_value (ex_loadE e1 hS.src.d6 hS.src.rg) ⟨_, rfl, hS, Grows.refl _, rfl⟩
              · intro a W hS hE hD
                obtain ⟨x1, _⟩ := hE
                have e1 := x1 (by kernel_rfl)
                refine plan_free rfl ?_
                have k1 := e1
                refine plan_value (ex_loadE e1 hS.src.d6 hS.src.rg) ⟨_, rfl, hS, Grows.refl _, rfl⟩
              · intro a W hS hE hD
                have k40 : a.tmps.getD 40 undef = .agg (evA e) := hD 1 40 (by kernel_rfl)
                refine plan_free rfl ?_
                refine plan_call (f := 60) (args := #[a.tmps.getD 40 undef]) (by kernel_rfl) ?_
                rw [k40]
                refine (OW.out W).mono ?_
                rintro e W2 ⟨rfl, hb⟩
                refine ⟨_, rfl, _, rfl, hS.next hb, hb, ?_⟩
                exact rfl
              · intro a W hS hE hD
                have k39 : a.tmps.getD 39 undef = .agg (evA e) := hD 0 39 (by kernel_rfl)
                have k41 : a.tmps.getD 41 undef = .agg (evA O) := hD 2 41 (by kernel_rfl)
                refine plan_free rfl ?_
                refine plan_value (v := .bool true) (w' := W) (by go_simp) ⟨_, rfl, hS, Grows.refl _, rfl⟩
              · intro a W hS hE hD
                have k42 : a.tmps.getD 42 undef = .bool true := hD 3 42 (by kernel_rfl)
                refine plan_free rfl ?_
                refine plan_value ex_move ⟨_, rfl, hS, Grows.refl _, ?_⟩
                exact k42
              · intro a W hS hE hD
                obtain ⟨x1, _⟩ := hE
                have e1 := x1 (by kernel_rfl)
                have k43 : a.tmps.getD 43 undef = .bool true := hD 4 43 (by kernel_rfl)
                refine plan_want rfl (by kernel_rfl) k43 ?_
                have k1 := e1
                refine plan_value (ex_loadE e1 hS.src.d6 hS.src.rg) ⟨_, rfl, hS, Grows.refl _, rfl⟩
              · intro a W hS hE hD
                have k43 : a.tmps.getD 43 undef = .bool true := hD 4 43 (by kernel_rfl)
                have k44 : a.tmps.getD 44 undef = .agg (evA e) := hD 5 44 (by kernel_rfl)
                refine plan_want rfl (by kernel_rfl) k43 ?_
                refine plan_call (f := 61) (args := #[a.tmps.getD 44 undef]) (by kernel_rfl) ?_
                rw [k44]
                refine (FD.out W).mono ?_
                rintro e W2 ⟨rfl, hb⟩
                refine ⟨_, rfl, _, rfl, hS.next hb, hb, ?_⟩
                exact rfl
              · intro a W hS hE hD
                have k43 : a.tmps.getD 43 undef = .bool true := hD 4 43 (by kernel_rfl)
                have k45 : a.tmps.getD 45 undef = .bool false := hD 6 45 (by kernel_rfl)
                refine plan_free rfl ?_
                refine plan_value (v := .bool false) (w' := W) (by go_simp) ⟨_, rfl, hS, Grows.refl _, rfl⟩
              · intro a W hS hE hD
                have k46 : a.tmps.getD 46 undef = .bool false := hD 7 46 (by kernel_rfl)
                refine plan_free rfl ?_
                refine plan_value ex_assign ⟨_, rfl, hS, Grows.refl _, ?_⟩
                exact k46
            · intro f w5 V5 hE
              have f46 : f 46 = .bool false := Ends.get hE 7 _ rfl 46 rfl
              have f2 : f 2 = .bool false := Ends.get hE 8 _ rfl 2 rfl
              clear hE
              simp only [setAll, List.setIfInBounds_toArray, List.set_cons_zero, List.set_cons_succ]
              rw [f46]; clear f46
              rw [f2]; clear f2
              have VF := V5.bel
              clear V5
              go_wp2_with fail
              go_ret
              exact ⟨by rw [RES.out]; rfl, VF⟩
          case true =>
            rw [hf] at FD
            have RES : Hid ((e.d.all seqN && mfE e) = true) := by
              show _ = _
              rw [hv.out, MO.out.2 ⟨hq, hf⟩]; rfl
            clear hq hf
            go_wp2_with fail
            refine wp_region_plan (fun W => PB w W e) Grows [IsV (.agg (evA e)), IsV (.agg (evA e)), IsV (.agg (evA O)), IsV (.bool true), IsV (.bool true), IsV (.agg (evA e)), IsV (.bool true), IsV (.bool true), IsV (.bool true)] ([(1, .pointer (some ⟨w.heap.size, 0, none⟩))] : List (Nat × Value)) (⟨rfl, trivial⟩) (n := 47) (by kernel_rfl) rfl (by kernel_rfl) V3.out.drew Grows.refl (StabAll.get ?_) ?_ ?_
            · repeat (first | exact trivial | refine ⟨stab_c _, ?_⟩ | refine ⟨stab_two _ _, ?_⟩ | refine ⟨fun _ _ _ _ _ _ _ => trivial, ?_⟩)
            · refine ⟨?_, ⟨?_, ⟨?_, ⟨?_, ⟨?_, ⟨?_, ⟨?_, ⟨?_, ⟨?_, trivial⟩⟩⟩⟩⟩⟩⟩⟩⟩
              · intro a W hS hE hD
                obtain ⟨x1, _⟩ := hE
                have e1 := x1 (by kernel_rfl)
                refine plan_free rfl ?_
                have k1 := e1
                refine plan_value (ex_loadE e1 hS.src.d6 hS.src.rg) ⟨_, rfl, hS, Grows.refl _, rfl⟩
              · intro a W hS hE hD
                obtain ⟨x1, _⟩ := hE
                have e1 := x1 (by kernel_rfl)
                refine plan_free rfl ?_
                have k1 := e1
                refine plan_value (ex_loadE e1 hS.src.d6 hS.src.rg) ⟨_, rfl, hS, Grows.refl _, rfl⟩
              · intro a W hS hE hD
                have k40 : a.tmps.getD 40 undef = .agg (evA e) := hD 1 40 (by kernel_rfl)
                refine plan_free rfl ?_
                refine plan_call (f := 60) (args := #[a.tmps.getD 40 undef]) (by kernel_rfl) ?_
                rw [k40]
                refine (OW.out W).mono ?_
                rintro e W2 ⟨rfl, hb⟩
                refine ⟨_, rfl, _, rfl, hS.next hb, hb, ?_⟩
                exact rfl
              · intro a W hS hE hD
                have k39 : a.tmps.getD 39 undef = .agg (evA e) := hD 0 39 (by kernel_rfl)
                have k41 : a.tmps.getD 41 undef = .agg (evA O) := hD 2 41 (by kernel_rfl)
                refine plan_free rfl ?_
                refine plan_value (v := .bool true) (w' := W) (by go_simp) ⟨_, rfl, hS, Grows.refl _, rfl⟩
              · intro a W hS hE hD
                have k42 : a.tmps.getD 42 undef = .bool true := hD 3 42 (by kernel_rfl)
                refine plan_free rfl ?_
                refine plan_value ex_move ⟨_, rfl, hS, Grows.refl _, ?_⟩
                exact k42
              · intro a W hS hE hD
                obtain ⟨x1, _⟩ := hE
                have e1 := x1 (by kernel_rfl)
                have k43 : a.tmps.getD 43 undef = .bool true := hD 4 43 (by kernel_rfl)
                refine plan_want rfl (by kernel_rfl) k43 ?_
                have k1 := e1
                refine plan_value (ex_loadE e1 hS.src.d6 hS.src.rg) ⟨_, rfl, hS, Grows.refl _, rfl⟩
              · intro a W hS hE hD
                have k43 : a.tmps.getD 43 undef = .bool true := hD 4 43 (by kernel_rfl)
                have k44 : a.tmps.getD 44 undef = .agg (evA e) := hD 5 44 (by kernel_rfl)
                refine plan_want rfl (by kernel_rfl) k43 ?_
                refine plan_call (f := 61) (args := #[a.tmps.getD 44 undef]) (by kernel_rfl) ?_
                rw [k44]
                refine (FD.out W).mono ?_
                rintro e W2 ⟨rfl, hb⟩
                refine ⟨_, rfl, _, rfl, hS.next hb, hb, ?_⟩
                exact rfl
              · intro a W hS hE hD
                have k43 : a.tmps.getD 43 undef = .bool true := hD 4 43 (by kernel_rfl)
                have k45 : a.tmps.getD 45 undef = .bool true := hD 6 45 (by kernel_rfl)
                refine plan_free rfl ?_
                refine plan_value (v := .bool true) (w' := W) (by go_simp) ⟨_, rfl, hS, Grows.refl _, rfl⟩
              · intro a W hS hE hD
                have k46 : a.tmps.getD 46 undef = .bool true := hD 7 46 (by kernel_rfl)
                refine plan_free rfl ?_
                refine plan_value ex_assign ⟨_, rfl, hS, Grows.refl _, ?_⟩
                exact k46
            · intro f w5 V5 hE
              have f46 : f 46 = .bool true := Ends.get hE 7 _ rfl 46 rfl
              have f2 : f 2 = .bool true := Ends.get hE 8 _ rfl 2 rfl
              clear hE
              simp only [setAll, List.setIfInBounds_toArray, List.set_cons_zero, List.set_cons_succ]
              rw [f46]; clear f46
              rw [f2]; clear f2
              have VF := V5.bel
              clear V5
              go_wp2_with fail
              go_ret
              exact ⟨by rw [RES.out]; rfl, VF⟩
theorem ermay_any (e : Ev) (h : e.ok) (w : World) : Calls Try.prog 22 #[.agg (evA e)] w fun x w' => x = .returned (.bool (mayE e)) ∧ Below w.heap.size w w' := by
  unfold mayE
  cases hr : regE e.o
  · exact rmay_A e h w hr
  by_cases hs : 1 ≤ e.s
  · by_cases hc : e.s < 1099511627776
    · by_cases hd : e.d.getD (e.o - 1).toNat 0 = e.s - 1
      · rw [decide_eq_true hs, decide_eq_true hc, decide_eq_true hd]; exact rmay_E e h w hr hs hc hd
      · rw [decide_eq_true hs, decide_eq_true hc, decide_eq_false hd]; exact rmay_D e h w hr hs hc hd
    · rw [decide_eq_true hs, decide_eq_false hc]; exact rmay_C e h w hr hs hc
  · rw [decide_eq_false hs]; exact rmay_B e h w hr hs
set_option maxRecDepth 100000 in
theorem erid_any (e : Ev) (d6 : e.d.length = 6) (hs : e.s ≤ 18446744073709551615) (w : World) : Calls Try.prog 26 #[.agg (evA e)] w fun x w' => x = .returned (.int .u64 (idE e)) ∧ Below w.heap.size w w' := by
  unfold idE
  have P0 := PB.first (w := w) d6
  have co := P0.src.o
  have cs := P0.src.s
  have hb := P0.bel
  clear P0
  have hs0 : (0 : Int) ≤ (e.s : Int) := by omega
  have hs1 : (e.s : Int) ≤ 18446744073709551615 := by omega
  cases hr : regE e.o
  case false =>
    have RG := Lib.hid (rregion6_any e.o)
    rw [hr] at RG
    clear hr
    go_enter Try.func26, Try.ntmps26
    go_wp2_with fail
    refine (RG.out _).mono ?_
    rintro _ w2 ⟨rfl, rfl⟩
    go_wp2_with fail
    go_ret
    exact ⟨rfl, hb⟩
  case true =>
    obtain ⟨k, hk, hz, _⟩ := regE_nat hr
    have RG := Lib.hid (rregion6_any e.o)
    rw [hr] at RG
    have ho0 : 1 ≤ e.o := by omega
    have ho1 : e.o ≤ 6 := by omega
    clear hr hz hk
    generalize e.o = z at *
    generalize (e.s : Int) = y at *
    go_enter Try.func26, Try.ntmps26
    go_wp2_with fail
    refine (RG.out _).mono ?_
    rintro _ w2 ⟨rfl, rfl⟩
    go_wp2_with fail
    go_ret
    exact ⟨by simp [IntKind.wrap_u64], hb⟩
end Go.Proofs.Ytjihbjjekhncaaa
