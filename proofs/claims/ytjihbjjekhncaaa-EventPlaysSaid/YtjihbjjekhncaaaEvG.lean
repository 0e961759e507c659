import Derived.Test.YtjihbjjekhncaaaEvF
namespace Go.Proofs.Ytjihbjjekhncaaa
open Go.RowKit
/-! event: may an event be? its number. -/
attribute [local go_sem ↓] exec_loadE exec_storeE exec_allocE exec_buildE exec_loadV
/-- are an event's fields such as its kind has? -/
def mfE (e : Ev) : Bool :=
  if e.k = 1 then decide (evZ e true false true false false) && (amtE e.a 0)
  else if e.k = 2 then decide (evZ e true false true false false) && (amtE e.a 1)
  else if e.k = 3 then decide (evZ e true false true true false) && (amtE e.a 1 && (!(e.r == 0)))
  else if e.k = 4 then decide (evZ e false false false true true) && (!(e.r == 0) && (!(e.f == 0) && (!(e.r == e.f))))
  else if e.k = 5 then decide (evZ e true true true false false) && (amtE e.a 1 && (othE e))
  else if e.k = 6 then decide (evZ e false true false false false) && (othE e)
  else if e.k = 7 then decide (evZ e false false false false false)
  else false
set_option maxRecDepth 100000 in
set_option maxHeartbeats 1000000 in
theorem mf_0 (e : Ev) (h : e.ok) (hk : ¬ e.k = 1 ∧ ¬ e.k = 2 ∧ ¬ e.k = 3 ∧ ¬ e.k = 4 ∧ ¬ e.k = 5 ∧ ¬ e.k = 6 ∧ ¬ e.k = 7) (w : World) : Calls Try.prog 58 #[.agg (evA e)] w fun x w' => x = .returned (.bool false) ∧ Below w.heap.size w w' := by
  have M0 := MB.first (w := w) h.d6
  have c0 := (EB.new w h.d6).o
  have c1 := (EB.new w h.d6).s
  have c2 := run_loadV_mid h.d6 (EB.new w h.d6).dl
  have c3 := (EB.new w h.d6).k
  have bE := run_buildE4 e h.d6
  have aE := run_allocE
  have sE := run_storeE_new (e := headE e) h.d6 (w.alloc (.cells (evA e) 26))
  rw [show (w.alloc (.cells (evA e) 26)).heap.size = w.heap.size + 1 by simp] at sE
  have c4 := M0.src.k
  have q : ∀ j : Nat, ¬ e.k = j → ((e.k : Int) == (j : Int)) = false := fun j hj => by simpa using (fun x : (e.k : Int) = (j : Int) => hj (by omega))
  have q1 : ((e.k : Int) == 1) = false := q 1 hk.1
  have q2 : ((e.k : Int) == 2) = false := q 2 hk.2.1
  have q3 : ((e.k : Int) == 3) = false := q 3 hk.2.2.1
  have q4 : ((e.k : Int) == 4) = false := q 4 hk.2.2.2.1
  have q5 : ((e.k : Int) == 5) = false := q 5 hk.2.2.2.2.1
  have q6 : ((e.k : Int) == 6) = false := q 6 hk.2.2.2.2.2.1
  have q7 : ((e.k : Int) == 7) = false := q 7 hk.2.2.2.2.2.2
  have HM := Lib.hid M0
  clear M0 q hk
  generalize (e.k : Int) = kz at c3 bE c4 q1 q2 q3 q4 q5 q6 q7
  go_enter Try.func58, Try.ntmps58
  go_wp2_with fail
  go_ret
  exact ⟨rfl, HM.out.bel⟩
theorem mf_any (e : Ev) (h : e.ok) (w : World) : Calls Try.prog 58 #[.agg (evA e)] w fun x w' => x = .returned (.bool (mfE e)) ∧ Below w.heap.size w w' := by
  unfold mfE
  by_cases h1 : e.k = 1
  · rw [if_pos h1]; exact mf_1 e h h1 w
  by_cases h2 : e.k = 2
  · rw [if_neg h1, if_pos h2]; exact mf_2 e h h2 w
  by_cases h3 : e.k = 3
  · rw [if_neg h1, if_neg h2, if_pos h3]; exact mf_3 e h h3 w
  by_cases h4 : e.k = 4
  · rw [if_neg h1, if_neg h2, if_neg h3, if_pos h4]; exact mf_4 e h h4 w
  by_cases h5 : e.k = 5
  · rw [if_neg h1, if_neg h2, if_neg h3, if_neg h4, if_pos h5]; exact mf_5 e h h5 w
  by_cases h6 : e.k = 6
  · rw [if_neg h1, if_neg h2, if_neg h3, if_neg h4, if_neg h5, if_pos h6]; exact mf_6 e h h6 w
  by_cases h7 : e.k = 7
  · rw [if_neg h1, if_neg h2, if_neg h3, if_neg h4, if_neg h5, if_neg h6, if_pos h7]; exact mf_7 e h h7 w
  · rw [if_neg h1, if_neg h2, if_neg h3, if_neg h4, if_neg h5, if_neg h6, if_neg h7]; exact mf_0 e h ⟨h1, h2, h3, h4, h5, h6, h7⟩ w
/-- are all below 2^40? -/
def seqN (n : Nat) : Bool := decide (n < 1099511627776)
def SeqTo (L : List Nat) (k : Nat) : Prop := (L.take k).all seqN = true
def mayE (e : Ev) : Bool := regE e.o && (decide (1 ≤ e.s) && (decide (e.s < 1099511627776) && (decide (e.d.getD (e.o - 1).toNat 0 = e.s - 1) && (e.d.all seqN && mfE e))))
structure PB (w W : World) (e : Ev) : Prop where
  src : EB W w.heap.size e
  bel : Below w.heap.size w W
theorem PB.drew {w W : World} {e : Ev} (h : PB w W e) : PB w W.drew e := ⟨h.src.drew, h.bel.drew⟩
theorem PB.next {w W W' : World} {e : Ev} (h : PB w W e) (hb : Below W.heap.size W W') : PB w W' e := ⟨h.src.after hb, h.bel.trans (hb.mono h.bel.size)⟩
theorem PB.first {w : World} {e : Ev} (h : e.d.length = 6) : PB w (w.alloc (.cells (evA e) 26)) e := ⟨EB.new w h, (Below.refl _ _).alloc (Nat.le_refl _) _⟩
theorem regE_nat {z : Int} (h : regE z = true) : ∃ k : Nat, k < 6 ∧ z = (k : Int) + 1 ∧ (z - 1).toNat = k := by
  simp only [regE, Bool.and_eq_true, decide_eq_true_eq] at h
  exact ⟨(z - 1).toNat, by omega, by omega, rfl⟩
set_option maxRecDepth 100000 in
theorem eid_any (e : Ev) (d6 : e.d.length = 6) (hs : e.s ≤ 18446744073709551615) (w : World) : Calls Try.prog 25 #[.agg (evA e)] w fun x w' => x = .returned (.int .u64 (if regE e.o = true then (e.o * 1099511627776 + (e.s : Int)) % 18446744073709551616 else 0)) ∧ Below w.heap.size w w' := by
  have P0 := PB.first (w := w) d6
  have co := P0.src.o
  have cs := P0.src.s
  have hb := P0.bel
  clear P0
  have hs0 : (0 : Int) ≤ (e.s : Int) := by omega
  have hs1 : (e.s : Int) ≤ 18446744073709551615 := by omega
  cases hr : regE e.o
  case false =>
    have RG := Lib.hid (eregion_any e.o)
    rw [hr] at RG
    clear hr
    go_enter Try.func25, Try.ntmps25
    go_wp2_with fail
    refine (RG.out _).mono ?_
    rintro _ w2 ⟨rfl, rfl⟩
    go_wp2_with fail
    go_ret
    exact ⟨rfl, hb⟩
  case true =>
    obtain ⟨k, hk, hz, _⟩ := regE_nat hr
    have RG := Lib.hid (eregion_any e.o)
    rw [hr] at RG
    have ho0 : 1 ≤ e.o := by omega
    have ho1 : e.o ≤ 6 := by omega
    clear hr hz hk
    generalize e.o = z at *
    generalize (e.s : Int) = y at *
    go_enter Try.func25, Try.ntmps25
    go_wp2_with fail
    refine (RG.out _).mono ?_
    rintro _ w2 ⟨rfl, rfl⟩
    go_wp2_with fail
    go_ret
    exact ⟨by simp [IntKind.wrap_u64], hb⟩
set_option maxRecDepth 100000 in
set_option maxHeartbeats 1000000 in
theorem may_A (e : Ev) (h : e.ok) (w : World) (hr : regE e.o = false) : Calls Try.prog 21 #[.agg (evA e)] w fun x w' => x = .returned (.bool false) ∧ Below w.heap.size w w' := by
  have P0 := PB.first (w := w) h.d6
  have RG := Lib.hid (eregion_any e.o)
  rw [hr] at RG
  clear hr
  go_enter Try.func21, Try.ntmps21
  go_wp2_with fail
  refine wp_region_plan (fun W => PB w W e) Grows [IsV (.pointer (some ⟨w.heap.size, 0, none⟩)), IsV (.int .i64 e.o), IsV (.bool false), IsV (.bool true), IsV (.bool true), IsV (undef), IsV (undef), IsV (undef), IsV (.bool true), IsV (.bool true), IsV (undef), IsV (undef), IsV (undef), IsV (.bool true), IsV (.bool true), IsV (undef), IsV (undef), IsV (undef), IsV (undef), IsV (undef), IsV (undef), IsV (undef), IsV (undef), IsV (undef), IsV (undef), IsV (.bool true)] ([(1, .pointer (some ⟨w.heap.size, 0, none⟩))] : List (Nat × Value)) (⟨rfl, trivial⟩) (n := 41) (by kernel_rfl) rfl (by kernel_rfl) P0.drew Grows.refl (StabAll.get ?_) ?_ ?_
  · repeat (first | exact trivial | refine ⟨stab_c _, ?_⟩ | refine ⟨stab_two _ _, ?_⟩ | refine ⟨fun _ _ _ _ _ _ _ => trivial, ?_⟩)
  · refine ⟨?_, ⟨?_, ⟨?_, ⟨?_, ⟨?_, ⟨?_, ⟨?_, ⟨?_, ⟨?_, ⟨?_, ⟨?_, ⟨?_, ⟨?_, ⟨?_, ⟨?_, ⟨?_, ⟨?_, ⟨?_, ⟨?_, ⟨?_, ⟨?_, ⟨?_, ⟨?_, ⟨?_, ⟨?_, ⟨?_, trivial⟩⟩⟩⟩⟩⟩⟩⟩⟩⟩⟩⟩⟩⟩⟩⟩⟩⟩⟩⟩⟩⟩⟩⟩⟩⟩
    · intro a W hS hE hD
      obtain ⟨x1, _⟩ := hE
      have e1 := x1 (by kernel_rfl)
      refine plan_free rfl ?_
      have k1 := e1
      refine plan_value (v := .pointer (some ⟨w.heap.size, 0, none⟩)) (w' := W) (by go_simp) ⟨_, rfl, hS, Grows.refl _, rfl⟩
    · intro a W hS hE hD
      have k5 : a.tmps.getD 5 undef = .pointer (some ⟨w.heap.size, 0, none⟩) := hD 0 5 (by kernel_rfl)
      refine plan_free rfl ?_
      have cc := hS.src.o
      refine plan_value (v := .int .i64 e.o) (w' := W) (by go_simp) ⟨_, rfl, hS, Grows.refl _, rfl⟩
    · intro a W hS hE hD
      have k6 : a.tmps.getD 6 undef = .int .i64 e.o := hD 1 6 (by kernel_rfl)
      refine plan_free rfl ?_
      refine plan_call (f := 57) (args := #[a.tmps.getD 6 undef]) (by kernel_rfl) ?_
      rw [k6]
      refine (RG.out W).mono ?_
      rintro _ W2 ⟨rfl, rfl⟩
      exact ⟨_, rfl, _, rfl, hS, Grows.refl _, rfl⟩
    · intro a W hS hE hD
      have k7 : a.tmps.getD 7 undef = .bool false := hD 2 7 (by kernel_rfl)
      refine plan_free rfl ?_
      refine plan_value (v := .bool true) (w' := W) (by go_simp) ⟨_, rfl, hS, Grows.refl _, rfl⟩
    · intro a W hS hE hD
      have k8 : a.tmps.getD 8 undef = .bool true := hD 3 8 (by kernel_rfl)
      refine plan_free rfl ?_
      refine plan_value ex_move ⟨_, rfl, hS, Grows.refl _, ?_⟩
      exact k8
    · intro a W hS hE hD
      have k9 : a.tmps.getD 9 undef = .bool true := hD 4 9 (by kernel_rfl)
      refine plan_skip rfl (by kernel_rfl) k9 rfl ?_
      exact rfl
    · intro a W hS hE hD
      have k9 : a.tmps.getD 9 undef = .bool true := hD 4 9 (by kernel_rfl)
      refine plan_skip rfl (by kernel_rfl) k9 rfl ?_
      exact rfl
    · intro a W hS hE hD
      have k9 : a.tmps.getD 9 undef = .bool true := hD 4 9 (by kernel_rfl)
      refine plan_skip rfl (by kernel_rfl) k9 rfl ?_
      exact rfl
    · intro a W hS hE hD
      have k9 : a.tmps.getD 9 undef = .bool true := hD 4 9 (by kernel_rfl)
      have k12 : a.tmps.getD 12 undef = undef := hD 7 12 (by kernel_rfl)
      refine plan_free rfl ?_
      refine plan_value (v := .bool true) (w' := W) (by go_simp) ⟨_, rfl, hS, Grows.refl _, rfl⟩
    · intro a W hS hE hD
      have k13 : a.tmps.getD 13 undef = .bool true := hD 8 13 (by kernel_rfl)
      refine plan_free rfl ?_
      refine plan_value ex_move ⟨_, rfl, hS, Grows.refl _, ?_⟩
      exact k13
    · intro a W hS hE hD
      have k14 : a.tmps.getD 14 undef = .bool true := hD 9 14 (by kernel_rfl)
      refine plan_skip rfl (by kernel_rfl) k14 rfl ?_
      exact rfl
    · intro a W hS hE hD
      have k14 : a.tmps.getD 14 undef = .bool true := hD 9 14 (by kernel_rfl)
      refine plan_skip rfl (by kernel_rfl) k14 rfl ?_
      exact rfl
    · intro a W hS hE hD
      have k14 : a.tmps.getD 14 undef = .bool true := hD 9 14 (by kernel_rfl)
      refine plan_skip rfl (by kernel_rfl) k14 rfl ?_
      exact rfl
    · intro a W hS hE hD
      have k14 : a.tmps.getD 14 undef = .bool true := hD 9 14 (by kernel_rfl)
      have k17 : a.tmps.getD 17 undef = undef := hD 12 17 (by kernel_rfl)
      refine plan_free rfl ?_
      refine plan_value (v := .bool true) (w' := W) (by go_simp) ⟨_, rfl, hS, Grows.refl _, rfl⟩
    · intro a W hS hE hD
      have k18 : a.tmps.getD 18 undef = .bool true := hD 13 18 (by kernel_rfl)
      refine plan_free rfl ?_
      refine plan_value ex_move ⟨_, rfl, hS, Grows.refl _, ?_⟩
      exact k18
    · intro a W hS hE hD
      have k19 : a.tmps.getD 19 undef = .bool true := hD 14 19 (by kernel_rfl)
      refine plan_skip rfl (by kernel_rfl) k19 rfl ?_
      exact rfl
    · intro a W hS hE hD
      have k19 : a.tmps.getD 19 undef = .bool true := hD 14 19 (by kernel_rfl)
      refine plan_skip rfl (by kernel_rfl) k19 rfl ?_
      exact rfl
    · intro a W hS hE hD
      have k19 : a.tmps.getD 19 undef = .bool true := hD 14 19 (by kernel_rfl)
      refine plan_skip rfl (by kernel_rfl) k19 rfl ?_
      exact rfl
    · intro a W hS hE hD
      have k19 : a.tmps.getD 19 undef = .bool true := hD 14 19 (by kernel_rfl)
      refine plan_skip rfl (by kernel_rfl) k19 rfl ?_
      exact rfl
    · intro a W hS hE hD
      have k19 : a.tmps.getD 19 undef = .bool true := hD 14 19 (by kernel_rfl)
      refine plan_skip rfl (by kernel_rfl) k19 rfl ?_
      exact rfl
    · intro a W hS hE hD
      have k19 : a.tmps.getD 19 undef = .bool true := hD 14 19 (by kernel_rfl)
      refine plan_skip rfl (by kernel_rfl) k19 rfl ?_
      exact rfl
    · intro a W hS hE hD
      have k19 : a.tmps.getD 19 undef = .bool true := hD 14 19 (by kernel_rfl)
      refine plan_skip rfl (by kernel_rfl) k19 rfl ?_
      exact rfl
    · intro a W hS hE hD
      have k19 : a.tmps.getD 19 undef = .bool true := hD 14 19 (by kernel_rfl)
      refine plan_skip rfl (by kernel_rfl) k19 rfl ?_
      exact rfl
    · intro a W hS hE hD
      have k19 : a.tmps.getD 19 undef = .bool true := hD 14 19 (by kernel_rfl)
      refine plan_skip rfl (by kernel_rfl) k19 rfl ?_
      exact rfl
    · intro a W hS hE hD
      have k19 : a.tmps.getD 19 undef = .bool true := hD 14 19 (by kernel_rfl)
      refine plan_skip rfl (by kernel_rfl) k19 rfl ?_
      exact rfl
    · intro a W hS hE hD
      have k19 : a.tmps.getD 19 undef = .bool true := hD 14 19 (by kernel_rfl)
      have k29 : a.tmps.getD 29 undef = undef := hD 24 29 (by kernel_rfl)
      refine plan_free rfl ?_
      refine plan_value (v := .bool true) (w' := W) (by go_simp) ⟨_, rfl, hS, Grows.refl _, rfl⟩
  · intro f w2 V hE
    have f30 : f 30 = .bool true := Ends.get hE 25 _ rfl 30 rfl
    clear hE
    simp only [setAll, List.setIfInBounds_toArray, List.set_cons_zero, List.set_cons_succ]
    rw [f30]; clear f30
    have VF := V.bel
    clear V
    go_wp2_with fail
    go_ret
    exact ⟨rfl, VF⟩
set_option maxRecDepth 100000 in
set_option maxHeartbeats 1000000 in
theorem may_B (e : Ev) (h : e.ok) (w : World) (hr : regE e.o = true) (hs : ¬ 1 ≤ e.s) : Calls Try.prog 21 #[.agg (evA e)] w fun x w' => x = .returned (.bool false) ∧ Below w.heap.size w w' := by
  have P0 := PB.first (w := w) h.d6
  have RG := Lib.hid (eregion_any e.o)
  rw [hr] at RG
  have hs0 : (0 : Int) ≤ (e.s : Int) := by omega
  have h1 : (e.s : Int) < 1 := by omega
  clear hr hs
  go_enter Try.func21, Try.ntmps21
  go_wp2_with fail
  refine wp_region_plan (fun W => PB w W e) Grows [IsV (.pointer (some ⟨w.heap.size, 0, none⟩)), IsV (.int .i64 e.o), IsV (.bool true), IsV (.bool false), IsV (.bool false), IsV (.pointer (some ⟨w.heap.size, 1, none⟩)), IsV (.int .u64 (e.s : Int)), IsV (.bool true), IsV (.bool true), IsV (.bool true), IsV (undef), IsV (undef), IsV (undef), IsV (.bool true), IsV (.bool true), IsV (undef), IsV (undef), IsV (undef), IsV (undef), IsV (undef), IsV (undef), IsV (undef), IsV (undef), IsV (undef), IsV (undef), IsV (.bool true)] ([(1, .pointer (some ⟨w.heap.size, 0, none⟩))] : List (Nat × Value)) (⟨rfl, trivial⟩) (n := 41) (by kernel_rfl) rfl (by kernel_rfl) P0.drew Grows.refl (StabAll.get ?_) ?_ ?_
  · repeat (first | exact trivial | refine ⟨stab_c _, ?_⟩ | refine ⟨stab_two _ _, ?_⟩ | refine ⟨fun _ _ _ _ _ _ _ => trivial, ?_⟩)
  · refine ⟨?_, ⟨?_, ⟨?_, ⟨?_, ⟨?_, ⟨?_, ⟨?_, ⟨?_, ⟨?_, ⟨?_, ⟨?_, ⟨?_, ⟨?_, ⟨?_, ⟨?_, ⟨?_, ⟨?_, ⟨?_, ⟨?_, ⟨?_, ⟨?_, ⟨?_, ⟨?_, ⟨?_, ⟨?_, ⟨?_, trivial⟩⟩⟩⟩⟩⟩⟩⟩⟩⟩⟩⟩⟩⟩⟩⟩⟩⟩⟩⟩⟩⟩⟩⟩⟩⟩
    · intro a W hS hE hD
      obtain ⟨x1, _⟩ := hE
      have e1 := x1 (by kernel_rfl)
      refine plan_free rfl ?_
      have k1 := e1
      refine plan_value (v := .pointer (some ⟨w.heap.size, 0, none⟩)) (w' := W) (by go_simp) ⟨_, rfl, hS, Grows.refl _, rfl⟩
    · intro a W hS hE hD
      have k5 : a.tmps.getD 5 undef = .pointer (some ⟨w.heap.size, 0, none⟩) := hD 0 5 (by kernel_rfl)
      refine plan_free rfl ?_
      have cc := hS.src.o
      refine plan_value (v := .int .i64 e.o) (w' := W) (by go_simp) ⟨_, rfl, hS, Grows.refl _, rfl⟩
    · intro a W hS hE hD
      have k6 : a.tmps.getD 6 undef = .int .i64 e.o := hD 1 6 (by kernel_rfl)
      refine plan_free rfl ?_
      refine plan_call (f := 57) (args := #[a.tmps.getD 6 undef]) (by kernel_rfl) ?_
      rw [k6]
      refine (RG.out W).mono ?_
      rintro _ W2 ⟨rfl, rfl⟩
      exact ⟨_, rfl, _, rfl, hS, Grows.refl _, rfl⟩
    · intro a W hS hE hD
      have k7 : a.tmps.getD 7 undef = .bool true := hD 2 7 (by kernel_rfl)
      refine plan_free rfl ?_
      refine plan_value (v := .bool false) (w' := W) (by go_simp) ⟨_, rfl, hS, Grows.refl _, rfl⟩
    · intro a W hS hE hD
      have k8 : a.tmps.getD 8 undef = .bool false := hD 3 8 (by kernel_rfl)
      refine plan_free rfl ?_
      refine plan_value ex_move ⟨_, rfl, hS, Grows.refl _, ?_⟩
      exact k8
    · intro a W hS hE hD
      obtain ⟨x1, _⟩ := hE
      have e1 := x1 (by kernel_rfl)
      have k9 : a.tmps.getD 9 undef = .bool false := hD 4 9 (by kernel_rfl)
      refine plan_want rfl (by kernel_rfl) k9 ?_
      have k1 := e1
      refine plan_value (v := .pointer (some ⟨w.heap.size, 1, none⟩)) (w' := W) (by go_simp) ⟨_, rfl, hS, Grows.refl _, rfl⟩
    · intro a W hS hE hD
      have k9 : a.tmps.getD 9 undef = .bool false := hD 4 9 (by kernel_rfl)
      have k10 : a.tmps.getD 10 undef = .pointer (some ⟨w.heap.size, 1, none⟩) := hD 5 10 (by kernel_rfl)
      refine plan_want rfl (by kernel_rfl) k9 ?_
      have cc := hS.src.s
      refine plan_value (v := .int .u64 (e.s : Int)) (w' := W) (by go_simp) ⟨_, rfl, hS, Grows.refl _, rfl⟩
    · intro a W hS hE hD
      have k9 : a.tmps.getD 9 undef = .bool false := hD 4 9 (by kernel_rfl)
      have k11 : a.tmps.getD 11 undef = .int .u64 (e.s : Int) := hD 6 11 (by kernel_rfl)
      refine plan_want rfl (by kernel_rfl) k9 ?_
      refine plan_value (v := .bool true) (w' := W) (by go_simp) ⟨_, rfl, hS, Grows.refl _, rfl⟩
    · intro a W hS hE hD
      have k9 : a.tmps.getD 9 undef = .bool false := hD 4 9 (by kernel_rfl)
      have k12 : a.tmps.getD 12 undef = .bool true := hD 7 12 (by kernel_rfl)
      refine plan_free rfl ?_
      refine plan_value (v := .bool true) (w' := W) (by go_simp) ⟨_, rfl, hS, Grows.refl _, rfl⟩
    · intro a W hS hE hD
      have k13 : a.tmps.getD 13 undef = .bool true := hD 8 13 (by kernel_rfl)
      refine plan_free rfl ?_
      refine plan_value ex_move ⟨_, rfl, hS, Grows.refl _, ?_⟩
      exact k13
    · intro a W hS hE hD
      have k14 : a.tmps.getD 14 undef = .bool true := hD 9 14 (by kernel_rfl)
      refine plan_skip rfl (by kernel_rfl) k14 rfl ?_
      exact rfl
    · intro a W hS hE hD
      have k14 : a.tmps.getD 14 undef = .bool true := hD 9 14 (by kernel_rfl)
      refine plan_skip rfl (by kernel_rfl) k14 rfl ?_
      exact rfl
    · intro a W hS hE hD
      have k14 : a.tmps.getD 14 undef = .bool true := hD 9 14 (by kernel_rfl)
      refine plan_skip rfl (by kernel_rfl) k14 rfl ?_
      exact rfl
    · intro a W hS hE hD
      have k14 : a.tmps.getD 14 undef = .bool true := hD 9 14 (by kernel_rfl)
      have k17 : a.tmps.getD 17 undef = undef := hD 12 17 (by kernel_rfl)
      refine plan_free rfl ?_
      refine plan_value (v := .bool true) (w' := W) (by go_simp) ⟨_, rfl, hS, Grows.refl _, rfl⟩
    · intro a W hS hE hD
      have k18 : a.tmps.getD 18 undef = .bool true := hD 13 18 (by kernel_rfl)
      refine plan_free rfl ?_
      refine plan_value ex_move ⟨_, rfl, hS, Grows.refl _, ?_⟩
      exact k18
    · intro a W hS hE hD
      have k19 : a.tmps.getD 19 undef = .bool true := hD 14 19 (by kernel_rfl)
      refine plan_skip rfl (by kernel_rfl) k19 rfl ?_
      exact rfl
    · intro a W hS hE hD
      have k19 : a.tmps.getD 19 undef = .bool true := hD 14 19 (by kernel_rfl)
      refine plan_skip rfl (by kernel_rfl) k19 rfl ?_
      exact rfl
    · intro a W hS hE hD
      have k19 : a.tmps.getD 19 undef = .bool true := hD 14 19 (by kernel_rfl)
      refine plan_skip rfl (by kernel_rfl) k19 rfl ?_
      exact rfl
    · intro a W hS hE hD
      have k19 : a.tmps.getD 19 undef = .bool true := hD 14 19 (by kernel_rfl)
      refine plan_skip rfl (by kernel_rfl) k19 rfl ?_
      exact rfl
    · intro a W hS hE hD
      have k19 : a.tmps.getD 19 undef = .bool true := hD 14 19 (by kernel_rfl)
      refine plan_skip rfl (by kernel_rfl) k19 rfl ?_
      exact rfl
    · intro a W hS hE hD
      have k19 : a.tmps.getD 19 undef = .bool true := hD 14 19 (by kernel_rfl)
      refine plan_skip rfl (by kernel_rfl) k19 rfl ?_
      exact rfl
    · intro a W hS hE hD
      have k19 : a.tmps.getD 19 undef = .bool true := hD 14 19 (by kernel_rfl)
      refine plan_skip rfl (by kernel_rfl) k19 rfl ?_
      exact rfl
    · intro a W hS hE hD
      have k19 : a.tmps.getD 19 undef = .bool true := hD 14 19 (by kernel_rfl)
      refine plan_skip rfl (by kernel_rfl) k19 rfl ?_
      exact rfl
    · intro a W hS hE hD
      have k19 : a.tmps.getD 19 undef = .bool true := hD 14 19 (by kernel_rfl)
      refine plan_skip rfl (by kernel_rfl) k19 rfl ?_
      exact rfl
    · intro a W hS hE hD
      have k19 : a.tmps.getD 19 undef = .bool true := hD 14 19 (by kernel_rfl)
      refine plan_skip rfl (by kernel_rfl) k19 rfl ?_
      exact rfl
    · intro a W hS hE hD
      have k19 : a.tmps.getD 19 undef = .bool true := hD 14 19 (by kernel_rfl)
      have k29 : a.tmps.getD 29 undef = undef := hD 24 29 (by kernel_rfl)
      refine plan_free rfl ?_
      refine plan_value (v := .bool true) (w' := W) (by go_simp) ⟨_, rfl, hS, Grows.refl _, rfl⟩
  · intro f w2 V hE
    have f30 : f 30 = .bool true := Ends.get hE 25 _ rfl 30 rfl
    clear hE
    simp only [setAll, List.setIfInBounds_toArray, List.set_cons_zero, List.set_cons_succ]
    rw [f30]; clear f30
    have VF := V.bel
    clear V
    go_wp2_with fail
    go_ret
    exact ⟨rfl, VF⟩
set_option maxRecDepth 100000 in
set_option maxHeartbeats 1000000 in
theorem may_C (e : Ev) (h : e.ok) (w : World) (hr : regE e.o = true) (hs : 1 ≤ e.s) (hc : ¬ e.s < 1099511627776) : Calls Try.prog 21 #[.agg (evA e)] w fun x w' => x = .returned (.bool false) ∧ Below w.heap.size w w' := by
  have P0 := PB.first (w := w) h.d6
  have RG := Lib.hid (eregion_any e.o)
  rw [hr] at RG
  have hs0 : (0 : Int) ≤ (e.s : Int) := by omega
  have h1 : ¬ (e.s : Int) < 1 := by omega
  have h2 : (1099511627776 : Int) ≤ (e.s : Int) := by omega
  clear hr hs hc
  go_enter Try.func21, Try.ntmps21
  go_wp2_with fail
  refine wp_region_plan (fun W => PB w W e) Grows [IsV (.pointer (some ⟨w.heap.size, 0, none⟩)), IsV (.int .i64 e.o), IsV (.bool true), IsV (.bool false), IsV (.bool false), IsV (.pointer (some ⟨w.heap.size, 1, none⟩)), IsV (.int .u64 (e.s : Int)), IsV (.bool false), IsV (.bool false), IsV (.bool false), IsV (.pointer (some ⟨w.heap.size, 1, none⟩)), IsV (.int .u64 (e.s : Int)), IsV (.bool true), IsV (.bool true), IsV (.bool true), IsV (undef), IsV (undef), IsV (undef), IsV (undef), IsV (undef), IsV (undef), IsV (undef), IsV (undef), IsV (undef), IsV (undef), IsV (.bool true)] ([(1, .pointer (some ⟨w.heap.size, 0, none⟩))] : List (Nat × Value)) (⟨rfl, trivial⟩) (n := 41) (by kernel_rfl) rfl (by kernel_rfl) P0.drew Grows.refl (StabAll.get ?_) ?_ ?_
  · repeat (first | exact trivial | refine ⟨stab_c _, ?_⟩ | refine ⟨stab_two _ _, ?_⟩ | refine ⟨fun _ _ _ _ _ _ _ => trivial, ?_⟩)
  · refine ⟨?_, ⟨?_, ⟨?_, ⟨?_, ⟨?_, ⟨?_, ⟨?_, ⟨?_, ⟨?_, ⟨?_, ⟨?_, ⟨?_, ⟨?_, ⟨?_, ⟨?_, ⟨?_, ⟨?_, ⟨?_, ⟨?_, ⟨?_, ⟨?_, ⟨?_, ⟨?_, ⟨?_, ⟨?_, ⟨?_, trivial⟩⟩⟩⟩⟩⟩⟩⟩⟩⟩⟩⟩⟩⟩⟩⟩⟩⟩⟩⟩⟩⟩⟩⟩⟩⟩
    · intro a W hS hE hD
      obtain ⟨x1, _⟩ := hE
      have e1 := x1 (by kernel_rfl)
      refine plan_free rfl ?_
      have k1 := e1
      refine plan_value (v := .pointer (some ⟨w.heap.size, 0, none⟩)) (w' := W) (by go_simp) ⟨_, rfl, hS, Grows.refl _, rfl⟩
    · intro a W hS hE hD
      have k5 : a.tmps.getD 5 undef = .pointer (some ⟨w.heap.size, 0, none⟩) := hD 0 5 (by kernel_rfl)
      refine plan_free rfl ?_
      have cc := hS.src.o
      refine plan_value (v := .int .i64 e.o) (w' := W) (by go_simp) ⟨_, rfl, hS, Grows.refl _, rfl⟩
    · intro a W hS hE hD
      have k6 : a.tmps.getD 6 undef = .int .i64 e.o := hD 1 6 (by kernel_rfl)
      refine plan_free rfl ?_
      refine plan_call (f := 57) (args := #[a.tmps.getD 6 undef]) (by kernel_rfl) ?_
      rw [k6]
      refine (RG.out W).mono ?_
      rintro _ W2 ⟨rfl, rfl⟩
      exact ⟨_, rfl, _, rfl, hS, Grows.refl _, rfl⟩
    · intro a W hS hE hD
      have k7 : a.tmps.getD 7 undef = .bool true := hD 2 7 (by kernel_rfl)
      refine plan_free rfl ?_
      refine plan_value (v := .bool false) (w' := W) (by go_simp) ⟨_, rfl, hS, Grows.refl _, rfl⟩
    · intro a W hS hE hD
      have k8 : a.tmps.getD 8 undef = .bool false := hD 3 8 (by kernel_rfl)
      refine plan_free rfl ?_
      refine plan_value ex_move ⟨_, rfl, hS, Grows.refl _, ?_⟩
      exact k8
    · intro a W hS hE hD
      obtain ⟨x1, _⟩ := hE
      have e1 := x1 (by kernel_rfl)
      have k9 : a.tmps.getD 9 undef = .bool false := hD 4 9 (by kernel_rfl)
      refine plan_want rfl (by kernel_rfl) k9 ?_
      have k1 := e1
      refine plan_value (v := .pointer (some ⟨w.heap.size, 1, none⟩)) (w' := W) (by go_simp) ⟨_, rfl, hS, Grows.refl _, rfl⟩
    · intro a W hS hE hD
      have k9 : a.tmps.getD 9 undef = .bool false := hD 4 9 (by kernel_rfl)
      have k10 : a.tmps.getD 10 undef = .pointer (some ⟨w.heap.size, 1, none⟩) := hD 5 10 (by kernel_rfl)
      refine plan_want rfl (by kernel_rfl) k9 ?_
      have cc := hS.src.s
      refine plan_value (v := .int .u64 (e.s : Int)) (w' := W) (by go_simp) ⟨_, rfl, hS, Grows.refl _, rfl⟩
    · intro a W hS hE hD
      have k9 : a.tmps.getD 9 undef = .bool false := hD 4 9 (by kernel_rfl)
      have k11 : a.tmps.getD 11 undef = .int .u64 (e.s : Int) := hD 6 11 (by kernel_rfl)
      refine plan_want rfl (by kernel_rfl) k9 ?_
      refine plan_value (v := .bool false) (w' := W) (by go_simp) ⟨_, rfl, hS, Grows.refl _, rfl⟩
    · intro a W hS hE hD
      have k9 : a.tmps.getD 9 undef = .bool false := hD 4 9 (by kernel_rfl)
      have k12 : a.tmps.getD 12 undef = .bool false := hD 7 12 (by kernel_rfl)
      refine plan_free rfl ?_
      refine plan_value (v := .bool false) (w' := W) (by go_simp) ⟨_, rfl, hS, Grows.refl _, rfl⟩
    · intro a W hS hE hD
      have k13 : a.tmps.getD 13 undef = .bool false := hD 8 13 (by kernel_rfl)
      refine plan_free rfl ?_
      refine plan_value ex_move ⟨_, rfl, hS, Grows.refl _, ?_⟩
      exact k13
    · intro a W hS hE hD
      obtain ⟨x1, _⟩ := hE
      have e1 := x1 (by kernel_rfl)
      have k14 : a.tmps.getD 14 undef = .bool false := hD 9 14 (by kernel_rfl)
      refine plan_want rfl (by kernel_rfl) k14 ?_
      have k1 := e1
      refine plan_value (v := .pointer (some ⟨w.heap.size, 1, none⟩)) (w' := W) (by go_simp) ⟨_, rfl, hS, Grows.refl _, rfl⟩
    · intro a W hS hE hD
      have k14 : a.tmps.getD 14 undef = .bool false := hD 9 14 (by kernel_rfl)
      have k15 : a.tmps.getD 15 undef = .pointer (some ⟨w.heap.size, 1, none⟩) := hD 10 15 (by kernel_rfl)
      refine plan_want rfl (by kernel_rfl) k14 ?_
      have cc := hS.src.s
      refine plan_value (v := .int .u64 (e.s : Int)) (w' := W) (by go_simp) ⟨_, rfl, hS, Grows.refl _, rfl⟩
    · intro a W hS hE hD
      have k14 : a.tmps.getD 14 undef = .bool false := hD 9 14 (by kernel_rfl)
      have k16 : a.tmps.getD 16 undef = .int .u64 (e.s : Int) := hD 11 16 (by kernel_rfl)
      refine plan_want rfl (by kernel_rfl) k14 ?_
      refine plan_value (v := .bool true) (w' := W) (by go_simp) ⟨_, rfl, hS, Grows.refl _, rfl⟩
    · intro a W hS hE hD
      have k14 : a.tmps.getD 14 undef = .bool false := hD 9 14 (by kernel_rfl)
      have k17 : a.tmps.getD 17 undef = .bool true := hD 12 17 (by kernel_rfl)
      refine plan_free rfl ?_
      refine plan_value (v := .bool true) (w' := W) (by go_simp) ⟨_, rfl, hS, Grows.refl _, rfl⟩
    · intro a W hS hE hD
      have k18 : a.tmps.getD 18 undef = .bool true := hD 13 18 (by kernel_rfl)
      refine plan_free rfl ?_
      refine plan_value ex_move ⟨_, rfl, hS, Grows.refl _, ?_⟩
      exact k18
    · intro a W hS hE hD
      have k19 : a.tmps.getD 19 undef = .bool true := hD 14 19 (by kernel_rfl)
      refine plan_skip rfl (by kernel_rfl) k19 rfl ?_
      exact rfl
    · intro a W hS hE hD
      have k19 : a.tmps.getD 19 undef = .bool true := hD 14 19 (by kernel_rfl)
      refine plan_skip rfl (by kernel_rfl) k19 rfl ?_
      exact rfl
    · intro a W hS hE hD
      have k19 : a.tmps.getD 19 undef = .bool true := hD 14 19 (by kernel_rfl)
      refine plan_skip rfl (by kernel_rfl) k19 rfl ?_
      exact rfl
    · intro a W hS hE hD
      have k19 : a.tmps.getD 19 undef = .bool true := hD 14 19 (by kernel_rfl)
      refine plan_skip rfl (by kernel_rfl) k19 rfl ?_
      exact rfl
    · intro a W hS hE hD
      have k19 : a.tmps.getD 19 undef = .bool true := hD 14 19 (by kernel_rfl)
      refine plan_skip rfl (by kernel_rfl) k19 rfl ?_
      exact rfl
    · intro a W hS hE hD
      have k19 : a.tmps.getD 19 undef = .bool true := hD 14 19 (by kernel_rfl)
      refine plan_skip rfl (by kernel_rfl) k19 rfl ?_
      exact rfl
    · intro a W hS hE hD
      have k19 : a.tmps.getD 19 undef = .bool true := hD 14 19 (by kernel_rfl)
      refine plan_skip rfl (by kernel_rfl) k19 rfl ?_
      exact rfl
    · intro a W hS hE hD
      have k19 : a.tmps.getD 19 undef = .bool true := hD 14 19 (by kernel_rfl)
      refine plan_skip rfl (by kernel_rfl) k19 rfl ?_
      exact rfl
    · intro a W hS hE hD
      have k19 : a.tmps.getD 19 undef = .bool true := hD 14 19 (by kernel_rfl)
      refine plan_skip rfl (by kernel_rfl) k19 rfl ?_
      exact rfl
    · intro a W hS hE hD
      have k19 : a.tmps.getD 19 undef = .bool true := hD 14 19 (by kernel_rfl)
      refine plan_skip rfl (by kernel_rfl) k19 rfl ?_
      exact rfl
    · intro a W hS hE hD
      have k19 : a.tmps.getD 19 undef = .bool true := hD 14 19 (by kernel_rfl)
      have k29 : a.tmps.getD 29 undef = undef := hD 24 29 (by kernel_rfl)
      refine plan_free rfl ?_
      refine plan_value (v := .bool true) (w' := W) (by go_simp) ⟨_, rfl, hS, Grows.refl _, rfl⟩
  · intro f w2 V hE
    have f30 : f 30 = .bool true := Ends.get hE 25 _ rfl 30 rfl
    clear hE
    simp only [setAll, List.setIfInBounds_toArray, List.set_cons_zero, List.set_cons_succ]
    rw [f30]; clear f30
    have VF := V.bel
    clear V
    go_wp2_with fail
    go_ret
    exact ⟨rfl, VF⟩
set_option maxRecDepth 100000 in
set_option maxHeartbeats 1000000 in
theorem may_D (e : Ev) (h : e.ok) (w : World) (hr : regE e.o = true) (hs : 1 ≤ e.s) (hc : e.s < 1099511627776) (hd : ¬ e.d.getD (e.o - 1).toNat 0 = e.s - 1) : Calls Try.prog 21 #[.agg (evA e)] w fun x w' => x = .returned (.bool false) ∧ Below w.heap.size w w' := by
  have P0 := PB.first (w := w) h.d6
  have RG := Lib.hid (eregion_any e.o)
  rw [hr] at RG
  have hs0 : (0 : Int) ≤ (e.s : Int) := by omega
  have h1 : ¬ (e.s : Int) < 1 := by omega
  have h2 : ¬ (1099511627776 : Int) ≤ (e.s : Int) := by omega
  obtain ⟨k, hk, hz, hk1⟩ := regE_nat hr
  have hkd : k < e.d.length := by rw [h.d6]; exact hk
  have hdk : e.d.getD (e.o - 1).toNat 0 = e.d[k] := by rw [hk1]; simp [List.getD_eq_getElem?_getD, hkd]
  rw [hdk] at hd
  have hk0 : (0 : Int) ≤ (k : Int) := by omega
  have hk6 : (k : Int) < 6 := by omega
  have hz2 : e.o - 1 = (k : Int) := by omega
  have wr1 : IntKind.i64.wrap (k : Int) = (k : Int) := by rw [IntKind.wrap_i64]; omega
  have wr2 : IntKind.u64.wrap ((e.s : Int) - 1) = (e.s : Int) - 1 := by rw [IntKind.wrap_u64]; omega
  have h3 : (((e.d[k] : Nat) : Int) != (e.s : Int) - 1) = true := by
    have : ¬ ((e.d[k] : Nat) : Int) = (e.s : Int) - 1 := by omega
    simpa using this
  clear hr hs hc hd hdk
  go_enter Try.func21, Try.ntmps21
  go_wp2_with fail
  refine wp_region_plan (fun W => PB w W e) Grows [IsV (.pointer (some ⟨w.heap.size, 0, none⟩)), IsV (.int .i64 e.o), IsV (.bool true), IsV (.bool false), IsV (.bool false), IsV (.pointer (some ⟨w.heap.size, 1, none⟩)), IsV (.int .u64 (e.s : Int)), IsV (.bool false), IsV (.bool false), IsV (.bool false), IsV (.pointer (some ⟨w.heap.size, 1, none⟩)), IsV (.int .u64 (e.s : Int)), IsV (.bool false), IsV (.bool false), IsV (.bool false), IsV (.pointer (some ⟨w.heap.size, 0, none⟩)), IsV (.int .i64 e.o), IsV (.int .i64 (k : Int)), IsV (.pointer (some ⟨w.heap.size, 2, none⟩)), IsV (.pointer (some ⟨w.heap.size, 2 + k, none⟩)), IsV (.int .u64 ((e.d[k] : Nat) : Int)), IsV (.pointer (some ⟨w.heap.size, 1, none⟩)), IsV (.int .u64 (e.s : Int)), IsV (.int .u64 ((e.s : Int) - 1)), IsV (.bool true), IsV (.bool true)] ([(1, .pointer (some ⟨w.heap.size, 0, none⟩))] : List (Nat × Value)) (⟨rfl, trivial⟩) (n := 41) (by kernel_rfl) rfl (by kernel_rfl) P0.drew Grows.refl (StabAll.get ?_) ?_ ?_
  · repeat (first | exact trivial | refine ⟨stab_c _, ?_⟩ | refine ⟨stab_two _ _, ?_⟩ | refine ⟨fun _ _ _ _ _ _ _ => trivial, ?_⟩)
  · refine ⟨?_, ⟨?_, ⟨?_, ⟨?_, ⟨?_, ⟨?_, ⟨?_, ⟨?_, ⟨?_, ⟨?_, ⟨?_, ⟨?_, ⟨?_, ⟨?_, ⟨?_, ⟨?_, ⟨?_, ⟨?_, ⟨?_, ⟨?_, ⟨?_, ⟨?_, ⟨?_, ⟨?_, ⟨?_, ⟨?_, trivial⟩⟩⟩⟩⟩⟩⟩⟩⟩⟩⟩⟩⟩⟩⟩⟩⟩⟩⟩⟩⟩⟩⟩⟩⟩⟩
    · intro a W hS hE hD
      obtain ⟨x1, _⟩ := hE
      have e1 := x1 (by kernel_rfl)
      refine plan_free rfl ?_
      have k1 := e1
      refine plan_value (v := .pointer (some ⟨w.heap.size, 0, none⟩)) (w' := W) (by go_simp) ⟨_, rfl, hS, Grows.refl _, rfl⟩
    · intro a W hS hE hD
      have k5 : a.tmps.getD 5 undef = .pointer (some ⟨w.heap.size, 0, none⟩) := hD 0 5 (by kernel_rfl)
      refine plan_free rfl ?_
      have cc := hS.src.o
      refine plan_value (v := .int .i64 e.o) (w' := W) (by go_simp) ⟨_, rfl, hS, Grows.refl _, rfl⟩
    · intro a W hS hE hD
      have k6 : a.tmps.getD 6 undef = .int .i64 e.o := hD 1 6 (by kernel_rfl)
      refine plan_free rfl ?_
      refine plan_call (f := 57) (args := #[a.tmps.getD 6 undef]) (by kernel_rfl) ?_
      rw [k6]
      refine (RG.out W).mono ?_
      rintro _ W2 ⟨rfl, rfl⟩
      exact ⟨_, rfl, _, rfl, hS, Grows.refl _, rfl⟩
    · intro a W hS hE hD
      have k7 : a.tmps.getD 7 undef = .bool true := hD 2 7 (by kernel_rfl)
      refine plan_free rfl ?_
      refine plan_value (v := .bool false) (w' := W) (by go_simp) ⟨_, rfl, hS, Grows.refl _, rfl⟩
    · intro a W hS hE hD
      have k8 : a.tmps.getD 8 undef = .bool false := hD 3 8 (by kernel_rfl)
      refine plan_free rfl ?_
      refine plan_value ex_move ⟨_, rfl, hS, Grows.refl _, ?_⟩
      exact k8
    · intro a W hS hE hD
      obtain ⟨x1, _⟩ := hE
      have e1 := x1 (by kernel_rfl)
      have k9 : a.tmps.getD 9 undef = .bool false := hD 4 9 (by kernel_rfl)
      refine plan_want rfl (by kernel_rfl) k9 ?_
      have k1 := e1
      refine plan_value (v := .pointer (some ⟨w.heap.size, 1, none⟩)) (w' := W) (by go_simp) ⟨_, rfl, hS, Grows.refl _, rfl⟩
    · intro a W hS hE hD
      have k9 : a.tmps.getD 9 undef = .bool false := hD 4 9 (by kernel_rfl)
      have k10 : a.tmps.getD 10 undef = .pointer (some ⟨w.heap.size, 1, none⟩) := hD 5 10 (by kernel_rfl)
      refine plan_want rfl (by kernel_rfl) k9 ?_
      have cc := hS.src.s
      refine plan_value (v := .int .u64 (e.s : Int)) (w' := W) (by go_simp) ⟨_, rfl, hS, Grows.refl _, rfl⟩
    · intro a W hS hE hD
      have k9 : a.tmps.getD 9 undef = .bool false := hD 4 9 (by kernel_rfl)
      have k11 : a.tmps.getD 11 undef = .int .u64 (e.s : Int) := hD 6 11 (by kernel_rfl)
      refine plan_want rfl (by kernel_rfl) k9 ?_
      refine plan_value (v := .bool false) (w' := W) (by go_simp) ⟨_, rfl, hS, Grows.refl _, rfl⟩
    · intro a W hS hE hD
      have k9 : a.tmps.getD 9 undef = .bool false := hD 4 9 (by kernel_rfl)
      have k12 : a.tmps.getD 12 undef = .bool false := hD 7 12 (by kernel_rfl)
      refine plan_free rfl ?_
      refine plan_value (v := .bool false) (w' := W) (by go_simp) ⟨_, rfl, hS, Grows.refl _, rfl⟩
    · intro a W hS hE hD
      have k13 : a.tmps.getD 13 undef = .bool false := hD 8 13 (by kernel_rfl)
      refine plan_free rfl ?_
      refine plan_value ex_move ⟨_, rfl, hS, Grows.refl _, ?_⟩
      exact k13
    · intro a W hS hE hD
      obtain ⟨x1, _⟩ := hE
      have e1 := x1 (by kernel_rfl)
      have k14 : a.tmps.getD 14 undef = .bool false := hD 9 14 (by kernel_rfl)
      refine plan_want rfl (by kernel_rfl) k14 ?_
      have k1 := e1
      refine plan_value (v := .pointer (some ⟨w.heap.size, 1, none⟩)) (w' := W) (by go_simp) ⟨_, rfl, hS, Grows.refl _, rfl⟩
    · intro a W hS hE hD
      have k14 : a.tmps.getD 14 undef = .bool false := hD 9 14 (by kernel_rfl)
      have k15 : a.tmps.getD 15 undef = .pointer (some ⟨w.heap.size, 1, none⟩) := hD 10 15 (by kernel_rfl)
      refine plan_want rfl (by kernel_rfl) k14 ?_
      have cc := hS.src.s
      refine plan_value (v := .int .u64 (e.s : Int)) (w' := W) (by go_simp) ⟨_, rfl, hS, Grows.refl _, rfl⟩
    · intro a W hS hE hD
      have k14 : a.tmps.getD 14 undef = .bool false := hD 9 14 (by kernel_rfl)
      have k16 : a.tmps.getD 16 undef = .int .u64 (e.s : Int) := hD 11 16 (by kernel_rfl)
      refine plan_want rfl (by kernel_rfl) k14 ?_
      refine plan_value (v := .bool false) (w' := W) (by go_simp) ⟨_, rfl, hS, Grows.refl _, rfl⟩
    · intro a W hS hE hD
      have k14 : a.tmps.getD 14 undef = .bool false := hD 9 14 (by kernel_rfl)
      have k17 : a.tmps.getD 17 undef = .bool false := hD 12 17 (by kernel_rfl)
      refine plan_free rfl ?_
      refine plan_value (v := .bool false) (w' := W) (by go_simp) ⟨_, rfl, hS, Grows.refl _, rfl⟩
    · intro a W hS hE hD
      have k18 : a.tmps.getD 18 undef = .bool false := hD 13 18 (by kernel_rfl)
      refine plan_free rfl ?_
      refine plan_value ex_move ⟨_, rfl, hS, Grows.refl _, ?_⟩
      exact k18
    · intro a W hS hE hD
      obtain ⟨x1, _⟩ := hE
      have e1 := x1 (by kernel_rfl)
      have k19 : a.tmps.getD 19 undef = .bool false := hD 14 19 (by kernel_rfl)
      refine plan_want rfl (by kernel_rfl) k19 ?_
      have k1 := e1
      refine plan_value (v := .pointer (some ⟨w.heap.size, 0, none⟩)) (w' := W) (by go_simp) ⟨_, rfl, hS, Grows.refl _, rfl⟩
    · intro a W hS hE hD
      have k19 : a.tmps.getD 19 undef = .bool false := hD 14 19 (by kernel_rfl)
      have k20 : a.tmps.getD 20 undef = .pointer (some ⟨w.heap.size, 0, none⟩) := hD 15 20 (by kernel_rfl)
      refine plan_want rfl (by kernel_rfl) k19 ?_
      have cc := hS.src.o
      refine plan_value (v := .int .i64 e.o) (w' := W) (by go_simp) ⟨_, rfl, hS, Grows.refl _, rfl⟩
    · intro a W hS hE hD
      have k19 : a.tmps.getD 19 undef = .bool false := hD 14 19 (by kernel_rfl)
      have k21 : a.tmps.getD 21 undef = .int .i64 e.o := hD 16 21 (by kernel_rfl)
      refine plan_want rfl (by kernel_rfl) k19 ?_
      refine plan_value (v := .int .i64 (k : Int)) (w' := W) (by go_simp) ⟨_, rfl, hS, Grows.refl _, rfl⟩
    · intro a W hS hE hD
      obtain ⟨x1, _⟩ := hE
      have e1 := x1 (by kernel_rfl)
      have k19 : a.tmps.getD 19 undef = .bool false := hD 14 19 (by kernel_rfl)
      refine plan_want rfl (by kernel_rfl) k19 ?_
      have k1 := e1
      refine plan_value (v := .pointer (some ⟨w.heap.size, 2, none⟩)) (w' := W) (by go_simp) ⟨_, rfl, hS, Grows.refl _, rfl⟩
    · intro a W hS hE hD
      have k19 : a.tmps.getD 19 undef = .bool false := hD 14 19 (by kernel_rfl)
      have k23 : a.tmps.getD 23 undef = .pointer (some ⟨w.heap.size, 2, none⟩) := hD 18 23 (by kernel_rfl)
      have k22 : a.tmps.getD 22 undef = .int .i64 (k : Int) := hD 17 22 (by kernel_rfl)
      refine plan_want rfl (by kernel_rfl) k19 ?_
      refine plan_value (v := .pointer (some ⟨w.heap.size, 2 + k, none⟩)) (w' := W) (by go_simp) ⟨_, rfl, hS, Grows.refl _, rfl⟩
    · intro a W hS hE hD
      have k19 : a.tmps.getD 19 undef = .bool false := hD 14 19 (by kernel_rfl)
      have k24 : a.tmps.getD 24 undef = .pointer (some ⟨w.heap.size, 2 + k, none⟩) := hD 19 24 (by kernel_rfl)
      refine plan_want rfl (by kernel_rfl) k19 ?_
      have cc := hS.src.d k hkd
      refine plan_value (v := .int .u64 ((e.d[k] : Nat) : Int)) (w' := W) (by go_simp) ⟨_, rfl, hS, Grows.refl _, rfl⟩
    · intro a W hS hE hD
      obtain ⟨x1, _⟩ := hE
      have e1 := x1 (by kernel_rfl)
      have k19 : a.tmps.getD 19 undef = .bool false := hD 14 19 (by kernel_rfl)
      refine plan_want rfl (by kernel_rfl) k19 ?_
      have k1 := e1
      refine plan_value (v := .pointer (some ⟨w.heap.size, 1, none⟩)) (w' := W) (by go_simp) ⟨_, rfl, hS, Grows.refl _, rfl⟩
    · intro a W hS hE hD
      have k19 : a.tmps.getD 19 undef = .bool false := hD 14 19 (by kernel_rfl)
      have k26 : a.tmps.getD 26 undef = .pointer (some ⟨w.heap.size, 1, none⟩) := hD 21 26 (by kernel_rfl)
      refine plan_want rfl (by kernel_rfl) k19 ?_
      have cc := hS.src.s
      refine plan_value (v := .int .u64 (e.s : Int)) (w' := W) (by go_simp) ⟨_, rfl, hS, Grows.refl _, rfl⟩
    · intro a W hS hE hD
      have k19 : a.tmps.getD 19 undef = .bool false := hD 14 19 (by kernel_rfl)
      have k27 : a.tmps.getD 27 undef = .int .u64 (e.s : Int) := hD 22 27 (by kernel_rfl)
      refine plan_want rfl (by kernel_rfl) k19 ?_
      refine plan_value (v := .int .u64 ((e.s : Int) - 1)) (w' := W) (by go_simp) ⟨_, rfl, hS, Grows.refl _, rfl⟩
    · intro a W hS hE hD
      have k19 : a.tmps.getD 19 undef = .bool false := hD 14 19 (by kernel_rfl)
      have k25 : a.tmps.getD 25 undef = .int .u64 ((e.d[k] : Nat) : Int) := hD 20 25 (by kernel_rfl)
      have k28 : a.tmps.getD 28 undef = .int .u64 ((e.s : Int) - 1) := hD 23 28 (by kernel_rfl)
      refine plan_want rfl (by kernel_rfl) k19 ?_
      refine plan_value (v := .bool true) (w' := W) (by go_simp) ⟨_, rfl, hS, Grows.refl _, rfl⟩
    · intro a W hS hE hD
      have k19 : a.tmps.getD 19 undef = .bool false := hD 14 19 (by kernel_rfl)
      have k29 : a.tmps.getD 29 undef = .bool true := hD 24 29 (by kernel_rfl)
      refine plan_free rfl ?_
      refine plan_value (v := .bool true) (w' := W) (by go_simp) ⟨_, rfl, hS, Grows.refl _, rfl⟩
  · intro f w2 V hE
    have f30 : f 30 = .bool true := Ends.get hE 25 _ rfl 30 rfl
    clear hE
    simp only [setAll, List.setIfInBounds_toArray, List.set_cons_zero, List.set_cons_succ]
    rw [f30]; clear f30
    have VF := V.bel
    clear V
    go_wp2_with fail
    go_ret
    exact ⟨rfl, VF⟩
set_option maxRecDepth 100000 in
set_option maxHeartbeats 1000000 in
theorem may_E (e : Ev) (h : e.ok) (w : World) (hr : regE e.o = true) (hs : 1 ≤ e.s) (hc : e.s < 1099511627776) (hd : e.d.getD (e.o - 1).toNat 0 = e.s - 1) : Calls Try.prog 21 #[.agg (evA e)] w fun x w' => x = .returned (.bool (e.d.all seqN && mfE e)) ∧ Below w.heap.size w w' := by
  have P0 := PB.first (w := w) h.d6
  have RG := Lib.hid (eregion_any e.o)
  rw [hr] at RG
  have hs0 : (0 : Int) ≤ (e.s : Int) := by omega
  have h1 : ¬ (e.s : Int) < 1 := by omega
  have h2 : ¬ (1099511627776 : Int) ≤ (e.s : Int) := by omega
  obtain ⟨k, hk, hz, hk1⟩ := regE_nat hr
  have hkd : k < e.d.length := by rw [h.d6]; exact hk
  have hdk : e.d.getD (e.o - 1).toNat 0 = e.d[k] := by rw [hk1]; simp [List.getD_eq_getElem?_getD, hkd]
  rw [hdk] at hd
  have hk0 : (0 : Int) ≤ (k : Int) := by omega
  have hk6 : (k : Int) < 6 := by omega
  have hz2 : e.o - 1 = (k : Int) := by omega
  have wr1 : IntKind.i64.wrap (k : Int) = (k : Int) := by rw [IntKind.wrap_i64]; omega
  have wr2 : IntKind.u64.wrap ((e.s : Int) - 1) = (e.s : Int) - 1 := by rw [IntKind.wrap_u64]; omega
  have h3 : (((e.d[k] : Nat) : Int) != (e.s : Int) - 1) = false := by
    have : ((e.d[k] : Nat) : Int) = (e.s : Int) - 1 := by omega
    simpa using this
  have OK := Lib.hid h
  clear hr hs hc hd hdk h
  go_enter Try.func21, Try.ntmps21
  go_wp2_with fail
  refine wp_region_plan (fun W => PB w W e) Grows [IsV (.pointer (some ⟨w.heap.size, 0, none⟩)), IsV (.int .i64 e.o), IsV (.bool true), IsV (.bool false), IsV (.bool false), IsV (.pointer (some ⟨w.heap.size, 1, none⟩)), IsV (.int .u64 (e.s : Int)), IsV (.bool false), IsV (.bool false), IsV (.bool false), IsV (.pointer (some ⟨w.heap.size, 1, none⟩)), IsV (.int .u64 (e.s : Int)), IsV (.bool false), IsV (.bool false), IsV (.bool false), IsV (.pointer (some ⟨w.heap.size, 0, none⟩)), IsV (.int .i64 e.o), IsV (.int .i64 (k : Int)), IsV (.pointer (some ⟨w.heap.size, 2, none⟩)), IsV (.pointer (some ⟨w.heap.size, 2 + k, none⟩)), IsV (.int .u64 ((e.d[k] : Nat) : Int)), IsV (.pointer (some ⟨w.heap.size, 1, none⟩)), IsV (.int .u64 (e.s : Int)), IsV (.int .u64 ((e.s : Int) - 1)), IsV (.bool false), IsV (.bool false)] ([(1, .pointer (some ⟨w.heap.size, 0, none⟩))] : List (Nat × Value)) (⟨rfl, trivial⟩) (n := 41) (by kernel_rfl) rfl (by kernel_rfl) P0.drew Grows.refl (StabAll.get ?_) ?_ ?_
  · repeat (first | exact trivial | refine ⟨stab_c _, ?_⟩ | refine ⟨stab_two _ _, ?_⟩ | refine ⟨fun _ _ _ _ _ _ _ => trivial, ?_⟩)
  · refine ⟨?_, ⟨?_, ⟨?_, ⟨?_, ⟨?_, ⟨?_, ⟨?_, ⟨?_, ⟨?_, ⟨?_, ⟨?_, ⟨?_, ⟨?_, ⟨?_, ⟨?_, ⟨?_, ⟨?_, ⟨?_, ⟨?_, ⟨?_, ⟨?_, ⟨?_, ⟨?_, ⟨?_, ⟨?_, ⟨?_, trivial⟩⟩⟩⟩⟩⟩⟩⟩⟩⟩⟩⟩⟩⟩⟩⟩⟩⟩⟩⟩⟩⟩⟩⟩⟩⟩
    · intro a W hS hE hD
      obtain ⟨x1, _⟩ := hE
      have e1 := x1 (by kernel_rfl)
      refine plan_free rfl ?_
      have k1 := e1
      refine plan_value (v := .pointer (some ⟨w.heap.size, 0, none⟩)) (w' := W) (by go_simp) ⟨_, rfl, hS, Grows.refl _, rfl⟩
    · intro a W hS hE hD
      have k5 : a.tmps.getD 5 undef = .pointer (some ⟨w.heap.size, 0, none⟩) := hD 0 5 (by kernel_rfl)
      refine plan_free rfl ?_
      have cc := hS.src.o
      refine plan_value (v := .int .i64 e.o) (w' := W) (by go_simp) ⟨_, rfl, hS, Grows.refl _, rfl⟩
    · intro a W hS hE hD
      have k6 : a.tmps.getD 6 undef = .int .i64 e.o := hD 1 6 (by kernel_rfl)
      refine plan_free rfl ?_
      refine plan_call (f := 57) (args := #[a.tmps.getD 6 undef]) (by kernel_rfl) ?_
      rw [k6]
      refine (RG.out W).mono ?_
      rintro _ W2 ⟨rfl, rfl⟩
      exact ⟨_, rfl, _, rfl, hS, Grows.refl _, rfl⟩
    · intro a W hS hE hD
      have k7 : a.tmps.getD 7 undef = .bool true := hD 2 7 (by kernel_rfl)
      refine plan_free rfl ?_
      refine plan_value (v := .bool false) (w' := W) (by go_simp) ⟨_, rfl, hS, Grows.refl _, rfl⟩
    · intro a W hS hE hD
      have k8 : a.tmps.getD 8 undef = .bool false := hD 3 8 (by kernel_rfl)
      refine plan_free rfl ?_
      refine plan_value ex_move ⟨_, rfl, hS, Grows.refl _, ?_⟩
      exact k8
    · intro a W hS hE hD
      obtain ⟨x1, _⟩ := hE
      have e1 := x1 (by kernel_rfl)
      have k9 : a.tmps.getD 9 undef = .bool false := hD 4 9 (by kernel_rfl)
      refine plan_want rfl (by kernel_rfl) k9 ?_
      have k1 := e1
      refine plan_value (v := .pointer (some ⟨w.heap.size, 1, none⟩)) (w' := W) (by go_simp) ⟨_, rfl, hS, Grows.refl _, rfl⟩
    · intro a W hS hE hD
      have k9 : a.tmps.getD 9 undef = .bool false := hD 4 9 (by kernel_rfl)
      have k10 : a.tmps.getD 10 undef = .pointer (some ⟨w.heap.size, 1, none⟩) := hD 5 10 (by kernel_rfl)
      refine plan_want rfl (by kernel_rfl) k9 ?_
      have cc := hS.src.s
      refine plan_value (v := .int .u64 (e.s : Int)) (w' := W) (by go_simp) ⟨_, rfl, hS, Grows.refl _, rfl⟩
    · intro a W hS hE hD
      have k9 : a.tmps.getD 9 undef = .bool false := hD 4 9 (by kernel_rfl)
      have k11 : a.tmps.getD 11 undef = .int .u64 (e.s : Int) := hD 6 11 (by kernel_rfl)
      refine plan_want rfl (by kernel_rfl) k9 ?_
      refine plan_value (v := .bool false) (w' := W) (by go_simp) ⟨_, rfl, hS, Grows.refl _, rfl⟩
    · intro a W hS hE hD
      have k9 : a.tmps.getD 9 undef = .bool false := hD 4 9 (by kernel_rfl)
      have k12 : a.tmps.getD 12 undef = .bool false := hD 7 12 (by kernel_rfl)
      refine plan_free rfl ?_
      refine plan_value (v := .bool false) (w' := W) (by go_simp) ⟨_, rfl, hS, Grows.refl _, rfl⟩
    · intro a W hS hE hD
      have k13 : a.tmps.getD 13 undef = .bool false := hD 8 13 (by kernel_rfl)
      refine plan_free rfl ?_
      refine plan_value ex_move ⟨_, rfl, hS, Grows.refl _, ?_⟩
      exact k13
    · intro a W hS hE hD
      obtain ⟨x1, _⟩ := hE
      have e1 := x1 (by kernel_rfl)
      have k14 : a.tmps.getD 14 undef = .bool false := hD 9 14 (by kernel_rfl)
      refine plan_want rfl (by kernel_rfl) k14 ?_
      have k1 := e1
      refine plan_value (v := .pointer (some ⟨w.heap.size, 1, none⟩)) (w' := W) (by go_simp) ⟨_, rfl, hS, Grows.refl _, rfl⟩
    · intro a W hS hE hD
      have k14 : a.tmps.getD 14 undef = .bool false := hD 9 14 (by kernel_rfl)
      have k15 : a.tmps.getD 15 undef = .pointer (some ⟨w.heap.size, 1, none⟩) := hD 10 15 (by kernel_rfl)
      refine plan_want rfl (by kernel_rfl) k14 ?_
      have cc := hS.src.s
      refine plan_value (v := .int .u64 (e.s : Int)) (w' := W) (by go_simp) ⟨_, rfl, hS, Grows.refl _, rfl⟩
    · intro a W hS hE hD
      have k14 : a.tmps.getD 14 undef = .bool false := hD 9 14 (by kernel_rfl)
      have k16 : a.tmps.getD 16 undef = .int .u64 (e.s : Int) := hD 11 16 (by kernel_rfl)
      refine plan_want rfl (by kernel_rfl) k14 ?_
      refine plan_value (v := .bool false) (w' := W) (by go_simp) ⟨_, rfl, hS, Grows.refl _, rfl⟩
    · intro a W hS hE hD
      have k14 : a.tmps.getD 14 undef = .bool false := hD 9 14 (by kernel_rfl)
      have k17 : a.tmps.getD 17 undef = .bool false := hD 12 17 (by kernel_rfl)
      refine plan_free rfl ?_
      refine plan_value (v := .bool false) (w' := W) (by go_simp) ⟨_, rfl, hS, Grows.refl _, rfl⟩
    · intro a W hS hE hD
      have k18 : a.tmps.getD 18 undef = .bool false := hD 13 18 (by kernel_rfl)
      refine plan_free rfl ?_
      refine plan_value ex_move ⟨_, rfl, hS, Grows.refl _, ?_⟩
      exact k18
    · intro a W hS hE hD
      obtain ⟨x1, _⟩ := hE
      have e1 := x1 (by kernel_rfl)
      have k19 : a.tmps.getD 19 undef = .bool false := hD 14 19 (by kernel_rfl)
      refine plan_want rfl (by kernel_rfl) k19 ?_
      have k1 := e1
      refine plan_value (v := .pointer (some ⟨w.heap.size, 0, none⟩)) (w' := W) (by go_simp) ⟨_, rfl, hS, Grows.refl _, rfl⟩
    · intro a W hS hE hD
      have k19 : a.tmps.getD 19 undef = .bool false := hD 14 19 (by kernel_rfl)
      have k20 : a.tmps.getD 20 undef = .pointer (some ⟨w.heap.size, 0, none⟩) := hD 15 20 (by kernel_rfl)
      refine plan_want rfl (by kernel_rfl) k19 ?_
      have cc := hS.src.o
      refine plan_value (v := .int .i64 e.o) (w' := W) (by go_simp) ⟨_, rfl, hS, Grows.refl _, rfl⟩
    · intro a W hS hE hD
      have k19 : a.tmps.getD 19 undef = .bool false := hD 14 19 (by kernel_rfl)
      have k21 : a.tmps.getD 21 undef = .int .i64 e.o := hD 16 21 (by kernel_rfl)
      refine plan_want rfl (by kernel_rfl) k19 ?_
      refine plan_value (v := .int .i64 (k : Int)) (w' := W) (by go_simp) ⟨_, rfl, hS, Grows.refl _, rfl⟩
    · intro a W hS hE hD
      obtain ⟨x1, _⟩ := hE
      have e1 := x1 (by kernel_rfl)
      have k19 : a.tmps.getD 19 undef = .bool false := hD 14 19 (by kernel_rfl)
      refine plan_want rfl (by kernel_rfl) k19 ?_
      have k1 := e1
      refine plan_value (v := .pointer (some ⟨w.heap.size, 2, none⟩)) (w' := W) (by go_simp) ⟨_, rfl, hS, Grows.refl _, rfl⟩
    · intro a W hS hE hD
      have k19 : a.tmps.getD 19 undef = .bool false := hD 14 19 (by kernel_rfl)
      have k23 : a.tmps.getD 23 undef = .pointer (some ⟨w.heap.size, 2, none⟩) := hD 18 23 (by kernel_rfl)
      have k22 : a.tmps.getD 22 undef = .int .i64 (k : Int) := hD 17 22 (by kernel_rfl)
      refine plan_want rfl (by kernel_rfl) k19 ?_
      refine plan_value (v := .pointer (some ⟨w.heap.size, 2 + k, none⟩)) (w' := W) (by go_simp) ⟨_, rfl, hS, Grows.refl _, rfl⟩
    · intro a W hS hE hD
      have k19 : a.tmps.getD 19 undef = .bool false := hD 14 19 (by kernel_rfl)
      have k24 : a.tmps.getD 24 undef = .pointer (some ⟨w.heap.size, 2 + k, none⟩) := hD 19 24 (by kernel_rfl)
      refine plan_want rfl (by kernel_rfl) k19 ?_
      have cc := hS.src.d k hkd
      refine plan_value (v := .int .u64 ((e.d[k] : Nat) : Int)) (w' := W) (by go_simp) ⟨_, rfl, hS, Grows.refl _, rfl⟩
    · intro a W hS hE hD
      obtain ⟨x1, _⟩ := hE
      have e1 := x1 (by kernel_rfl)
      have k19 : a.tmps.getD 19 undef = .bool false := hD 14 19 (by kernel_rfl)
      refine plan_want rfl (by kernel_rfl) k19 ?_
      have k1 := e1
      refine plan_value (v := .pointer (some ⟨w.heap.size, 1, none⟩)) (w' := W) (by go_simp) ⟨_, rfl, hS, Grows.refl _, rfl⟩
    · intro a W hS hE hD
      have k19 : a.tmps.getD 19 undef = .bool false := hD 14 19 (by kernel_rfl)
      have k26 : a.tmps.getD 26 undef = .pointer (some ⟨w.heap.size, 1, none⟩) := hD 21 26 (by kernel_rfl)
      refine plan_want rfl (by kernel_rfl) k19 ?_
      have cc := hS.src.s
      refine plan_value (v := .int .u64 (e.s : Int)) (w' := W) (by go_simp) ⟨_, rfl, hS, Grows.refl _, rfl⟩
    · intro a W hS hE hD
      have k19 : a.tmps.getD 19 undef = .bool false := hD 14 19 (by kernel_rfl)
      have k27 : a.tmps.getD 27 undef = .int .u64 (e.s : Int) := hD 22 27 (by kernel_rfl)
      refine plan_want rfl (by kernel_rfl) k19 ?_
      refine plan_value (v := .int .u64 ((e.s : Int) - 1)) (w' := W) (by go_simp) ⟨_, rfl, hS, Grows.refl _, rfl⟩
    · intro a W hS hE hD
      have k19 : a.tmps.getD 19 undef = .bool false := hD 14 19 (by kernel_rfl)
      have k25 : a.tmps.getD 25 undef = .int .u64 ((e.d[k] : Nat) : Int) := hD 20 25 (by kernel_rfl)
      have k28 : a.tmps.getD 28 undef = .int .u64 ((e.s : Int) - 1) := hD 23 28 (by kernel_rfl)
      refine plan_want rfl (by kernel_rfl) k19 ?_
      refine plan_value (v := .bool false) (w' := W) (by go_simp) ⟨_, rfl, hS, Grows.refl _, rfl⟩
    · intro a W hS hE hD
      have k19 : a.tmps.getD 19 undef = .bool false := hD 14 19 (by kernel_rfl)
      have k29 : a.tmps.getD 29 undef = .bool false := hD 24 29 (by kernel_rfl)
      refine plan_free rfl ?_
      refine plan_value (v := .bool false) (w' := W) (by go_simp) ⟨_, rfl, hS, Grows.refl _, rfl⟩
  · intro f w2 V hE
    have f30 : f 30 = .bool false := Ends.get hE 25 _ rfl 30 rfl
    clear hE
    simp only [setAll, List.setIfInBounds_toArray, List.set_cons_zero, List.set_cons_succ]
    rw [f30]; clear f30
    have lv := run_loadV_mid OK.out.d6 V.src.dl
    clear h1 h2 h3 hk0 hk6 hz2 hk1 hkd hz hk P0 wr1 wr2
    go_wp2_with fail
    go_loopw [33] (fun i wr => ∃ j : Nat, j ≤ 6 ∧ i = .int .i64 (j : Int) ∧ SeqTo e.d j ∧ wr = w2) (fun i _ => 6 - (intOf i).toNat)
    case atStart => exact ⟨0, by omega, rfl, rfl, rfl⟩
    case round =>
      obtain ⟨j, hj, rfl, hall, rfl⟩ := hrel
      by_cases hlt : j < 6
      · have hjd : j < e.d.length := by rw [OK.out.d6]; exact hlt
        have hix := vec_index e.d OK.out.d6 j hlt wr
        have HNO := Lib.hid (all_no (p := seqN) e.d j hjd)
        have HYES := Lib.hid (all_step (p := seqN) e.d j hjd hall)
        generalize e.d[j] = x at hix HNO HYES
        have hj6 : (j : Int) < 6 := by omega
        have hj0 : (0 : Int) ≤ (j : Int) := by omega
        by_cases hx : 1099511627776 ≤ x
        · have hx1 : (1099511627776 : Int) ≤ (x : Int) := by omega
          have hv : Hid (e.d.all seqN = false) := HNO.out (by unfold seqN; rw [decide_eq_false]; omega)
          have HV := Lib.hid V.bel
          clear HNO HYES hall lv V hx
          go_wp2_with fail
          go_ret
          exact ⟨by rw [hv.out]; rfl, HV.out⟩
        · have hx1 : ¬ (1099511627776 : Int) ≤ (x : Int) := by omega
          have hnext : Hid (SeqTo e.d (j + 1)) := HYES.out (by unfold seqN; rw [decide_eq_true]; omega)
          clear HNO HYES hall hx
          go_wp2_with fail
          go_roundw
          case rel => exact ⟨j + 1, by omega, by go_num, hnext.out, trivial⟩
          case measure => simp [intOf]; omega
      · obtain rfl : j = 6 := by omega
        have hv : Hid (e.d.all seqN = true) := by have := hall; unfold SeqTo at this; rwa [List.take_of_length_le (by rw [OK.out.d6]; omega)] at this
        have le := V.src.load
        have MF := Lib.hid (mf_any e OK.out)
        have HV := Lib.hid V
        clear V hall lv
        go_wp2_with fail
        refine (MF.out _).mono ?_
        rintro _ w3 ⟨rfl, hb⟩
        have VF := (HV.out.next hb).bel
        clear hb
        go_wp2_with fail
        go_ret
        exact ⟨by rw [hv.out]; rfl, VF⟩
theorem emay_any (e : Ev) (h : e.ok) (w : World) : Calls Try.prog 21 #[.agg (evA e)] w fun x w' => x = .returned (.bool (mayE e)) ∧ Below w.heap.size w w' := by
  unfold mayE
  cases hr : regE e.o
  · exact may_A e h w hr
  by_cases hs : 1 ≤ e.s
  · by_cases hc : e.s < 1099511627776
    · by_cases hd : e.d.getD (e.o - 1).toNat 0 = e.s - 1
      · rw [decide_eq_true hs, decide_eq_true hc, decide_eq_true hd]; exact may_E e h w hr hs hc hd
      · rw [decide_eq_true hs, decide_eq_true hc, decide_eq_false hd]; exact may_D e h w hr hs hc hd
    · rw [decide_eq_true hs, decide_eq_false hc]; exact may_C e h w hr hs hc
  · rw [decide_eq_false hs]; exact may_B e h w hr hs
end Go.Proofs.Ytjihbjjekhncaaa
