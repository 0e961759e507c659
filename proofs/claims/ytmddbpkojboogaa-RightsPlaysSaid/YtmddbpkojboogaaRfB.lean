import Derived.Test.YtmddbpkojboogaaRfA
namespace Go.Proofs.Ytmddbpkojboogaa
open Go.RowKit
/-! leatref07: May. -/
attribute [local go_sem ↓] exec_loadR exec_storeR
theorem num_b (z : Int) (w : World) : Calls Try.prog 45 #[.int .i64 z] w fun e w' => e = .returned (.bool (amtB z)) ∧ Below w.heap.size w w' :=
  (r7number_any z w).mono (by rintro e w' ⟨h1, rfl⟩; exact ⟨h1, Below.refl _ _⟩)
def RowTo (L : List Int) (i k : Nat) : Prop := ∀ j, j < k → amtB (rR L i j) = true
theorem RowTo.step {L : List Int} {i k : Nat} (h : RowTo L i k) (hr : amtB (rR L i k) = true) : RowTo L i (k + 1) := fun j hj => by
  by_cases hk : j < k
  · exact h j hk
  · obtain rfl : j = k := by omega
    exact hr
theorem RowTo.all {L : List Int} {i : Nat} (h : RowTo L i 6) : (rowR L i).all amtB = true := by
  unfold rowR
  simp only [List.all_cons, List.all_nil, Bool.and_true]
  rw [h 0 (by omega), h 1 (by omega), h 2 (by omega), h 3 (by omega), h 4 (by omega), h 5 (by omega)]; rfl
theorem row_no {L : List Int} {i k : Nat} (hk : k < 6) (h : amtB (rR L i k) = false) : (rowR L i).all amtB = false := by
  have : rR L i k ∈ rowR L i := by
    unfold rowR
    match k, hk with
    | 0, _ => simp
    | 1, _ => simp
    | 2, _ => simp
    | 3, _ => simp
    | 4, _ => simp
    | 5, _ => simp
  rw [← Bool.not_eq_true]
  intro ha
  rw [List.all_eq_true.1 ha _ this] at h; cases h
theorem row_three {L : List Int} {k : Nat} (h : ([gR L k, cR L k, fR L k].all amtB = true ∧ (decide (rR L k k = 0) && decide (fR L k ≤ cR L k)) = true) → False) : rowOK L k = false := by
  rw [← Bool.not_eq_true]
  intro ha
  unfold rowOK at ha
  rw [Bool.and_eq_true, Bool.and_eq_true] at ha
  exact h ⟨ha.1, ha.2.2⟩
set_option maxRecDepth 100000 in
set_option maxHeartbeats 4000000 in
theorem r7may_any (L : List Int) (h : L.length = 54) (w : World) :
    Calls Try.prog 24 #[.agg (rgtA L)] w fun e w' => e = .returned (.bool (mayR L)) ∧ Below w.heap.size w w' := by
  have hb : RS w (w.alloc (.cells (rgtA L) 42)) w.heap.size L := ⟨RB.new w h, (Below.refl w.heap.size w).alloc (Nat.le_refl _) (.cells (rgtA L) 42)⟩
  have H54 := Lib.hid h
  clear h
  go_enter Try.func24, Try.ntmps24
  go_wp2_with fail
  generalize w.alloc (.cells (rgtA L) 42) = W1 at hb
  go_loopw [3, 4] (fun s v wr => ∃ k : Nat, k ≤ 6 ∧ v = .int .i64 (k : Int) ∧ s = .int .i64 (sumTo (gR L) k) ∧ OkTo L k ∧ (0 ≤ sumTo (gR L) k ∧ sumTo (gR L) k ≤ 1125899906842624 * k) ∧ RS w wr w.heap.size L) (fun _ v _ => 6 - (intOf v).toNat)
  case atStart => exact ⟨0, by omega, rfl, rfl, rfl, ⟨by simp [sumTo], by simp [sumTo]⟩, hb⟩
  case round =>
    clear hb
    obtain ⟨k, hk, rfl, rfl, hok, hsum, hr⟩ := hrel
    by_cases hlt : k < 6
    · have hk0 : (0 : Int) ≤ (k : Int) := by omega
      have hk6 : (k : Int) < 6 := by omega
      have ST : Hid (sumTo (gR L) (k + 1) = sumTo (gR L) k + gR L k) := rfl
      have hs1 := hsum.1
      have hs2 : sumTo (gR L) k ≤ 6755399441055744 := by have := hsum.2; omega
      have HSUM := Lib.hid hsum
      generalize sumTo (gR L) k = s at ST hs1 hs2 HSUM
      clear hsum
      go_wp2_with fail
      cases hb1 : amtB (gR L k)
      case false =>
        have MV := Lib.hid (may_row (L := L) hlt (row_three (by rintro ⟨h, _⟩; simp [hb1] at h)))
        have B1 := Lib.hid hb1
        clear hb1
        refine wp_region_plan (fun W => RS w W w.heap.size L) Grows [IsV (.int .i64 (k : Int)), IsV (.pointer (some ⟨w.heap.size, 0, none⟩)), IsV (.pointer (some ⟨w.heap.size, k, none⟩)), IsV (.int .i64 (gR L k)), IsV (.bool false), IsV (.bool true), IsV (.bool true), IsV (undef), IsV (undef), IsV (undef), IsV (undef), IsV (undef), IsV (undef), IsV (.bool true), IsV (.bool true), IsV (undef), IsV (undef), IsV (undef), IsV (undef), IsV (undef), IsV (undef), IsV (.bool true), IsV (.bool true), IsV (undef), IsV (undef), IsV (undef), IsV (undef), IsV (undef), IsV (undef), IsV (undef), IsV (undef), IsV (undef), IsV (.bool true), IsV (.bool true), IsV (undef), IsV (undef), IsV (undef), IsV (undef), IsV (undef), IsV (undef), IsV (undef), IsV (.bool true)] ([(1, .pointer (some ⟨w.heap.size, 0, none⟩)), (4, .int .i64 (k : Int))] : List (Nat × Value)) (⟨rfl, rfl, trivial⟩) (n := 81) (by kernel_rfl) rfl (by kernel_rfl) hr.drew Grows.refl (StabAll.get ?_) ?_ ?_
        · repeat (first | exact trivial | refine ⟨stab_c _, ?_⟩ | refine ⟨stab_two _ _, ?_⟩ | refine ⟨fun _ _ _ _ _ _ _ => trivial, ?_⟩)
        · refine ⟨?_, ⟨?_, ⟨?_, ⟨?_, ⟨?_, ⟨?_, ⟨?_, ⟨?_, ⟨?_, ⟨?_, ⟨?_, ⟨?_, ⟨?_, ⟨?_, ⟨?_, ⟨?_, ⟨?_, ⟨?_, ⟨?_, ⟨?_, ⟨?_, ⟨?_, ⟨?_, ⟨?_, ⟨?_, ⟨?_, ⟨?_, ⟨?_, ⟨?_, ⟨?_, ⟨?_, ⟨?_, ⟨?_, ⟨?_, ⟨?_, ⟨?_, ⟨?_, ⟨?_, ⟨?_, ⟨?_, ⟨?_, ⟨?_, trivial⟩⟩⟩⟩⟩⟩⟩⟩⟩⟩⟩⟩⟩⟩⟩⟩⟩⟩⟩⟩⟩⟩⟩⟩⟩⟩⟩⟩⟩⟩⟩⟩⟩⟩⟩⟩⟩⟩⟩⟩⟩⟩
          · intro a W hS hE hD
            obtain ⟨_, x4, _⟩ := hE
            have e4 := x4 (by kernel_rfl)
            refine plan_free rfl ?_
            refine plan_value ex_move ⟨_, rfl, hS, Grows.refl _, ?_⟩
            exact e4
          · intro a W hS hE hD
            obtain ⟨x1, _, _⟩ := hE
            have e1 := x1 (by kernel_rfl)
            refine plan_free rfl ?_
            have k1 := e1
            refine plan_value (v := .pointer (some ⟨w.heap.size, 0, none⟩)) (w' := W) (by go_simp) ⟨_, rfl, hS, Grows.refl _, rfl⟩
          · intro a W hS hE hD
            have k12 : a.tmps.getD 12 undef = .pointer (some ⟨w.heap.size, 0, none⟩) := hD 1 12 (by kernel_rfl)
            have k11 : a.tmps.getD 11 undef = .int .i64 (k : Int) := hD 0 11 (by kernel_rfl)
            refine plan_free rfl ?_
            refine plan_value (v := .pointer (some ⟨w.heap.size, k, none⟩)) (w' := W) (by go_simp) ⟨_, rfl, hS, Grows.refl _, rfl⟩
          · intro a W hS hE hD
            have k13 : a.tmps.getD 13 undef = .pointer (some ⟨w.heap.size, k, none⟩) := hD 2 13 (by kernel_rfl)
            refine plan_free rfl ?_
            have hc := hS.rb.g k hlt
            refine plan_value (v := .int .i64 (gR L k)) (w' := W) (by go_simp) ⟨_, rfl, hS, Grows.refl _, rfl⟩
          · intro a W hS hE hD
            have k14 : a.tmps.getD 14 undef = .int .i64 (gR L k) := hD 3 14 (by kernel_rfl)
            refine plan_free rfl ?_
            refine plan_call (f := 45) (args := #[a.tmps.getD 14 undef]) (by kernel_rfl) ?_
            rw [k14]
            refine (num_b (gR L k) W).mono ?_
            rintro e W2 ⟨rfl, hb⟩
            refine ⟨_, rfl, _, rfl, hS.next hb, hb, ?_⟩
            show _ = _
            rw [B1.out]
          · intro a W hS hE hD
            have k15 : a.tmps.getD 15 undef = .bool false := hD 4 15 (by kernel_rfl)
            refine plan_free rfl ?_
            refine plan_value (v := .bool true) (w' := W) (by go_simp) ⟨_, rfl, hS, Grows.refl _, rfl⟩
          · intro a W hS hE hD
            have k16 : a.tmps.getD 16 undef = .bool true := hD 5 16 (by kernel_rfl)
            refine plan_free rfl ?_
            refine plan_value ex_move ⟨_, rfl, hS, Grows.refl _, ?_⟩
            exact k16
          · intro a W hS hE hD
            have k17 : a.tmps.getD 17 undef = .bool true := hD 6 17 (by kernel_rfl)
            refine plan_skip rfl (by kernel_rfl) k17 rfl ?_
            exact rfl
          · intro a W hS hE hD
            have k17 : a.tmps.getD 17 undef = .bool true := hD 6 17 (by kernel_rfl)
            refine plan_skip rfl (by kernel_rfl) k17 rfl ?_
            exact rfl
          · intro a W hS hE hD
            have k17 : a.tmps.getD 17 undef = .bool true := hD 6 17 (by kernel_rfl)
            refine plan_skip rfl (by kernel_rfl) k17 rfl ?_
            exact rfl
          · intro a W hS hE hD
            have k17 : a.tmps.getD 17 undef = .bool true := hD 6 17 (by kernel_rfl)
            refine plan_skip rfl (by kernel_rfl) k17 rfl ?_
            exact rfl
          · intro a W hS hE hD
            have k17 : a.tmps.getD 17 undef = .bool true := hD 6 17 (by kernel_rfl)
            refine plan_skip rfl (by kernel_rfl) k17 rfl ?_
            exact rfl
          · intro a W hS hE hD
            have k17 : a.tmps.getD 17 undef = .bool true := hD 6 17 (by kernel_rfl)
            refine plan_skip rfl (by kernel_rfl) k17 rfl ?_
            exact rfl
          · intro a W hS hE hD
            have k17 : a.tmps.getD 17 undef = .bool true := hD 6 17 (by kernel_rfl)
            have k23 : a.tmps.getD 23 undef = undef := hD 12 23 (by kernel_rfl)
            refine plan_free rfl ?_
            refine plan_value (v := .bool true) (w' := W) (by go_simp) ⟨_, rfl, hS, Grows.refl _, rfl⟩
          · intro a W hS hE hD
            have k24 : a.tmps.getD 24 undef = .bool true := hD 13 24 (by kernel_rfl)
            refine plan_free rfl ?_
            refine plan_value ex_move ⟨_, rfl, hS, Grows.refl _, ?_⟩
            exact k24
          · intro a W hS hE hD
            have k25 : a.tmps.getD 25 undef = .bool true := hD 14 25 (by kernel_rfl)
            refine plan_skip rfl (by kernel_rfl) k25 rfl ?_
            exact rfl
          · intro a W hS hE hD
            have k25 : a.tmps.getD 25 undef = .bool true := hD 14 25 (by kernel_rfl)
            refine plan_skip rfl (by kernel_rfl) k25 rfl ?_
            exact rfl
          · intro a W hS hE hD
            have k25 : a.tmps.getD 25 undef = .bool true := hD 14 25 (by kernel_rfl)
            refine plan_skip rfl (by kernel_rfl) k25 rfl ?_
            exact rfl
          · intro a W hS hE hD
            have k25 : a.tmps.getD 25 undef = .bool true := hD 14 25 (by kernel_rfl)
            refine plan_skip rfl (by kernel_rfl) k25 rfl ?_
            exact rfl
          · intro a W hS hE hD
            have k25 : a.tmps.getD 25 undef = .bool true := hD 14 25 (by kernel_rfl)
            refine plan_skip rfl (by kernel_rfl) k25 rfl ?_
            exact rfl
          · intro a W hS hE hD
            have k25 : a.tmps.getD 25 undef = .bool true := hD 14 25 (by kernel_rfl)
            refine plan_skip rfl (by kernel_rfl) k25 rfl ?_
            exact rfl
          · intro a W hS hE hD
            have k25 : a.tmps.getD 25 undef = .bool true := hD 14 25 (by kernel_rfl)
            have k31 : a.tmps.getD 31 undef = undef := hD 20 31 (by kernel_rfl)
            refine plan_free rfl ?_
            refine plan_value (v := .bool true) (w' := W) (by go_simp) ⟨_, rfl, hS, Grows.refl _, rfl⟩
          · intro a W hS hE hD
            have k32 : a.tmps.getD 32 undef = .bool true := hD 21 32 (by kernel_rfl)
            refine plan_free rfl ?_
            refine plan_value ex_move ⟨_, rfl, hS, Grows.refl _, ?_⟩
            exact k32
          · intro a W hS hE hD
            have k33 : a.tmps.getD 33 undef = .bool true := hD 22 33 (by kernel_rfl)
            refine plan_skip rfl (by kernel_rfl) k33 rfl ?_
            exact rfl
          · intro a W hS hE hD
            have k33 : a.tmps.getD 33 undef = .bool true := hD 22 33 (by kernel_rfl)
            refine plan_skip rfl (by kernel_rfl) k33 rfl ?_
            exact rfl
          · intro a W hS hE hD
            have k33 : a.tmps.getD 33 undef = .bool true := hD 22 33 (by kernel_rfl)
            refine plan_skip rfl (by kernel_rfl) k33 rfl ?_
            exact rfl
          · intro a W hS hE hD
            have k33 : a.tmps.getD 33 undef = .bool true := hD 22 33 (by kernel_rfl)
            refine plan_skip rfl (by kernel_rfl) k33 rfl ?_
            exact rfl
          · intro a W hS hE hD
            have k33 : a.tmps.getD 33 undef = .bool true := hD 22 33 (by kernel_rfl)
            refine plan_skip rfl (by kernel_rfl) k33 rfl ?_
            exact rfl
          · intro a W hS hE hD
            have k33 : a.tmps.getD 33 undef = .bool true := hD 22 33 (by kernel_rfl)
            refine plan_skip rfl (by kernel_rfl) k33 rfl ?_
            exact rfl
          · intro a W hS hE hD
            have k33 : a.tmps.getD 33 undef = .bool true := hD 22 33 (by kernel_rfl)
            refine plan_skip rfl (by kernel_rfl) k33 rfl ?_
            exact rfl
          · intro a W hS hE hD
            have k33 : a.tmps.getD 33 undef = .bool true := hD 22 33 (by kernel_rfl)
            refine plan_skip rfl (by kernel_rfl) k33 rfl ?_
            exact rfl
          · intro a W hS hE hD
            have k33 : a.tmps.getD 33 undef = .bool true := hD 22 33 (by kernel_rfl)
            refine plan_skip rfl (by kernel_rfl) k33 rfl ?_
            exact rfl
          · intro a W hS hE hD
            have k33 : a.tmps.getD 33 undef = .bool true := hD 22 33 (by kernel_rfl)
            have k42 : a.tmps.getD 42 undef = undef := hD 31 42 (by kernel_rfl)
            refine plan_free rfl ?_
            refine plan_value (v := .bool true) (w' := W) (by go_simp) ⟨_, rfl, hS, Grows.refl _, rfl⟩
          · intro a W hS hE hD
            have k43 : a.tmps.getD 43 undef = .bool true := hD 32 43 (by kernel_rfl)
            refine plan_free rfl ?_
            refine plan_value ex_move ⟨_, rfl, hS, Grows.refl _, ?_⟩
            exact k43
          · intro a W hS hE hD
            have k44 : a.tmps.getD 44 undef = .bool true := hD 33 44 (by kernel_rfl)
            refine plan_skip rfl (by kernel_rfl) k44 rfl ?_
            exact rfl
          · intro a W hS hE hD
            have k44 : a.tmps.getD 44 undef = .bool true := hD 33 44 (by kernel_rfl)
            refine plan_skip rfl (by kernel_rfl) k44 rfl ?_
            exact rfl
          · intro a W hS hE hD
            have k44 : a.tmps.getD 44 undef = .bool true := hD 33 44 (by kernel_rfl)
            refine plan_skip rfl (by kernel_rfl) k44 rfl ?_
            exact rfl
          · intro a W hS hE hD
            have k44 : a.tmps.getD 44 undef = .bool true := hD 33 44 (by kernel_rfl)
            refine plan_skip rfl (by kernel_rfl) k44 rfl ?_
            exact rfl
          · intro a W hS hE hD
            have k44 : a.tmps.getD 44 undef = .bool true := hD 33 44 (by kernel_rfl)
            refine plan_skip rfl (by kernel_rfl) k44 rfl ?_
            exact rfl
          · intro a W hS hE hD
            have k44 : a.tmps.getD 44 undef = .bool true := hD 33 44 (by kernel_rfl)
            refine plan_skip rfl (by kernel_rfl) k44 rfl ?_
            exact rfl
          · intro a W hS hE hD
            have k44 : a.tmps.getD 44 undef = .bool true := hD 33 44 (by kernel_rfl)
            refine plan_skip rfl (by kernel_rfl) k44 rfl ?_
            exact rfl
          · intro a W hS hE hD
            have k44 : a.tmps.getD 44 undef = .bool true := hD 33 44 (by kernel_rfl)
            have k51 : a.tmps.getD 51 undef = undef := hD 40 51 (by kernel_rfl)
            refine plan_free rfl ?_
            refine plan_value (v := .bool true) (w' := W) (by go_simp) ⟨_, rfl, hS, Grows.refl _, rfl⟩
        · intro f w5 V5 hE
          have f52 : f 52 = .bool true := Ends.get hE 41 _ rfl 52 rfl
          clear hE
          simp only [setAll, List.setIfInBounds_toArray, List.set_cons_zero, List.set_cons_succ]
          rw [f52]; clear f52
          go_wp2_with fail
          go_ret
          exact ⟨by rw [MV.out]; rfl, V5.bel⟩
      cases hb2 : amtB (cR L k)
      case false =>
        have MV := Lib.hid (may_row (L := L) hlt (row_three (by rintro ⟨h, _⟩; simp [hb2] at h)))
        have B1 := Lib.hid hb1
        have B2 := Lib.hid hb2
        clear hb1 hb2
        refine wp_region_plan (fun W => RS w W w.heap.size L) Grows [IsV (.int .i64 (k : Int)), IsV (.pointer (some ⟨w.heap.size, 0, none⟩)), IsV (.pointer (some ⟨w.heap.size, k, none⟩)), IsV (.int .i64 (gR L k)), IsV (.bool true), IsV (.bool false), IsV (.bool false), IsV (.int .i64 (k : Int)), IsV (.pointer (some ⟨w.heap.size, 6, none⟩)), IsV (.pointer (some ⟨w.heap.size, 6 + k, none⟩)), IsV (.int .i64 (cR L k)), IsV (.bool false), IsV (.bool true), IsV (.bool true), IsV (.bool true), IsV (undef), IsV (undef), IsV (undef), IsV (undef), IsV (undef), IsV (undef), IsV (.bool true), IsV (.bool true), IsV (undef), IsV (undef), IsV (undef), IsV (undef), IsV (undef), IsV (undef), IsV (undef), IsV (undef), IsV (undef), IsV (.bool true), IsV (.bool true), IsV (undef), IsV (undef), IsV (undef), IsV (undef), IsV (undef), IsV (undef), IsV (undef), IsV (.bool true)] ([(1, .pointer (some ⟨w.heap.size, 0, none⟩)), (4, .int .i64 (k : Int))] : List (Nat × Value)) (⟨rfl, rfl, trivial⟩) (n := 81) (by kernel_rfl) rfl (by kernel_rfl) hr.drew Grows.refl (StabAll.get ?_) ?_ ?_
        · repeat (first | exact trivial | refine ⟨stab_c _, ?_⟩ | refine ⟨stab_two _ _, ?_⟩ | refine ⟨fun _ _ _ _ _ _ _ => trivial, ?_⟩)
        · refine ⟨?_, ⟨?_, ⟨?_, ⟨?_, ⟨?_, ⟨?_, ⟨?_, ⟨?_, ⟨?_, ⟨?_, ⟨?_, ⟨?_, ⟨?_, ⟨?_, ⟨?_, ⟨?_, ⟨?_, ⟨?_, ⟨?_, ⟨?_, ⟨?_, ⟨?_, ⟨?_, ⟨?_, ⟨?_, ⟨?_, ⟨?_, ⟨?_, ⟨?_, ⟨?_, ⟨?_, ⟨?_, ⟨?_, ⟨?_, ⟨?_, ⟨?_, ⟨?_, ⟨?_, ⟨?_, ⟨?_, ⟨?_, ⟨?_, trivial⟩⟩⟩⟩⟩⟩⟩⟩⟩⟩⟩⟩⟩⟩⟩⟩⟩⟩⟩⟩⟩⟩⟩⟩⟩⟩⟩⟩⟩⟩⟩⟩⟩⟩⟩⟩⟩⟩⟩⟩⟩⟩
          · intro a W hS hE hD
            obtain ⟨_, x4, _⟩ := hE
            have e4 := x4 (by kernel_rfl)
            refine plan_free rfl ?_
            refine plan_value ex_move ⟨_, rfl, hS, Grows.refl _, ?_⟩
            exact e4
          · intro a W hS hE hD
            obtain ⟨x1, _, _⟩ := hE
            have e1 := x1 (by kernel_rfl)
            refine plan_free rfl ?_
            have k1 := e1
            refine plan_value (v := .pointer (some ⟨w.heap.size, 0, none⟩)) (w' := W) (by go_simp) ⟨_, rfl, hS, Grows.refl _, rfl⟩
          · intro a W hS hE hD
            have k12 : a.tmps.getD 12 undef = .pointer (some ⟨w.heap.size, 0, none⟩) := hD 1 12 (by kernel_rfl)
            have k11 : a.tmps.getD 11 undef = .int .i64 (k : Int) := hD 0 11 (by kernel_rfl)
            refine plan_free rfl ?_
            refine plan_value (v := .pointer (some ⟨w.heap.size, k, none⟩)) (w' := W) (by go_simp) ⟨_, rfl, hS, Grows.refl _, rfl⟩
          · intro a W hS hE hD
            have k13 : a.tmps.getD 13 undef = .pointer (some ⟨w.heap.size, k, none⟩) := hD 2 13 (by kernel_rfl)
            refine plan_free rfl ?_
            have hc := hS.rb.g k hlt
            refine plan_value (v := .int .i64 (gR L k)) (w' := W) (by go_simp) ⟨_, rfl, hS, Grows.refl _, rfl⟩
          · intro a W hS hE hD
            have k14 : a.tmps.getD 14 undef = .int .i64 (gR L k) := hD 3 14 (by kernel_rfl)
            refine plan_free rfl ?_
            refine plan_call (f := 45) (args := #[a.tmps.getD 14 undef]) (by kernel_rfl) ?_
            rw [k14]
            refine (num_b (gR L k) W).mono ?_
            rintro e W2 ⟨rfl, hb⟩
            refine ⟨_, rfl, _, rfl, hS.next hb, hb, ?_⟩
            show _ = _
            rw [B1.out]
          · intro a W hS hE hD
            have k15 : a.tmps.getD 15 undef = .bool true := hD 4 15 (by kernel_rfl)
            refine plan_free rfl ?_
            refine plan_value (v := .bool false) (w' := W) (by go_simp) ⟨_, rfl, hS, Grows.refl _, rfl⟩
          · intro a W hS hE hD
            have k16 : a.tmps.getD 16 undef = .bool false := hD 5 16 (by kernel_rfl)
            refine plan_free rfl ?_
            refine plan_value ex_move ⟨_, rfl, hS, Grows.refl _, ?_⟩
            exact k16
          · intro a W hS hE hD
            obtain ⟨_, x4, _⟩ := hE
            have e4 := x4 (by kernel_rfl)
            have k17 : a.tmps.getD 17 undef = .bool false := hD 6 17 (by kernel_rfl)
            refine plan_want rfl (by kernel_rfl) k17 ?_
            refine plan_value ex_move ⟨_, rfl, hS, Grows.refl _, ?_⟩
            exact e4
          · intro a W hS hE hD
            obtain ⟨x1, _, _⟩ := hE
            have e1 := x1 (by kernel_rfl)
            have k17 : a.tmps.getD 17 undef = .bool false := hD 6 17 (by kernel_rfl)
            refine plan_want rfl (by kernel_rfl) k17 ?_
            have k1 := e1
            refine plan_value (v := .pointer (some ⟨w.heap.size, 6, none⟩)) (w' := W) (by go_simp) ⟨_, rfl, hS, Grows.refl _, rfl⟩
          · intro a W hS hE hD
            have k17 : a.tmps.getD 17 undef = .bool false := hD 6 17 (by kernel_rfl)
            have k19 : a.tmps.getD 19 undef = .pointer (some ⟨w.heap.size, 6, none⟩) := hD 8 19 (by kernel_rfl)
            have k18 : a.tmps.getD 18 undef = .int .i64 (k : Int) := hD 7 18 (by kernel_rfl)
            refine plan_want rfl (by kernel_rfl) k17 ?_
            refine plan_value (v := .pointer (some ⟨w.heap.size, 6 + k, none⟩)) (w' := W) (by go_simp) ⟨_, rfl, hS, Grows.refl _, rfl⟩
          · intro a W hS hE hD
            have k17 : a.tmps.getD 17 undef = .bool false := hD 6 17 (by kernel_rfl)
            have k20 : a.tmps.getD 20 undef = .pointer (some ⟨w.heap.size, 6 + k, none⟩) := hD 9 20 (by kernel_rfl)
            refine plan_want rfl (by kernel_rfl) k17 ?_
            have hc := hS.rb.c k hlt
            refine plan_value (v := .int .i64 (cR L k)) (w' := W) (by go_simp) ⟨_, rfl, hS, Grows.refl _, rfl⟩
          · intro a W hS hE hD
            have k17 : a.tmps.getD 17 undef = .bool false := hD 6 17 (by kernel_rfl)
            have k21 : a.tmps.getD 21 undef = .int .i64 (cR L k) := hD 10 21 (by kernel_rfl)
            refine plan_want rfl (by kernel_rfl) k17 ?_
            refine plan_call (f := 45) (args := #[a.tmps.getD 21 undef]) (by kernel_rfl) ?_
            rw [k21]
            refine (num_b (cR L k) W).mono ?_
            rintro e W2 ⟨rfl, hb⟩
            refine ⟨_, rfl, _, rfl, hS.next hb, hb, ?_⟩
            show _ = _
            rw [B2.out]
          · intro a W hS hE hD
            have k17 : a.tmps.getD 17 undef = .bool false := hD 6 17 (by kernel_rfl)
            have k22 : a.tmps.getD 22 undef = .bool false := hD 11 22 (by kernel_rfl)
            refine plan_want rfl (by kernel_rfl) k17 ?_
            refine plan_value (v := .bool true) (w' := W) (by go_simp) ⟨_, rfl, hS, Grows.refl _, rfl⟩
          · intro a W hS hE hD
            have k17 : a.tmps.getD 17 undef = .bool false := hD 6 17 (by kernel_rfl)
            have k23 : a.tmps.getD 23 undef = .bool true := hD 12 23 (by kernel_rfl)
            refine plan_free rfl ?_
            refine plan_value (v := .bool true) (w' := W) (by go_simp) ⟨_, rfl, hS, Grows.refl _, rfl⟩
          · intro a W hS hE hD
            have k24 : a.tmps.getD 24 undef = .bool true := hD 13 24 (by kernel_rfl)
            refine plan_free rfl ?_
            refine plan_value ex_move ⟨_, rfl, hS, Grows.refl _, ?_⟩
            exact k24
          · intro a W hS hE hD
            have k25 : a.tmps.getD 25 undef = .bool true := hD 14 25 (by kernel_rfl)
            refine plan_skip rfl (by kernel_rfl) k25 rfl ?_
            exact rfl
          · intro a W hS hE hD
            have k25 : a.tmps.getD 25 undef = .bool true := hD 14 25 (by kernel_rfl)
            refine plan_skip rfl (by kernel_rfl) k25 rfl ?_
            exact rfl
          · intro a W hS hE hD
            have k25 : a.tmps.getD 25 undef = .bool true := hD 14 25 (by kernel_rfl)
            refine plan_skip rfl (by kernel_rfl) k25 rfl ?_
            exact rfl
          · intro a W hS hE hD
            have k25 : a.tmps.getD 25 undef = .bool true := hD 14 25 (by kernel_rfl)
            refine plan_skip rfl (by kernel_rfl) k25 rfl ?_
            exact rfl
          · intro a W hS hE hD
            have k25 : a.tmps.getD 25 undef = .bool true := hD 14 25 (by kernel_rfl)
            refine plan_skip rfl (by kernel_rfl) k25 rfl ?_
            exact rfl
          · intro a W hS hE hD
            have k25 : a.tmps.getD 25 undef = .bool true := hD 14 25 (by kernel_rfl)
            refine plan_skip rfl (by kernel_rfl) k25 rfl ?_
            exact rfl
          · intro a W hS hE hD
            have k25 : a.tmps.getD 25 undef = .bool true := hD 14 25 (by kernel_rfl)
            have k31 : a.tmps.getD 31 undef = undef := hD 20 31 (by kernel_rfl)
            refine plan_free rfl ?_
            refine plan_value (v := .bool true) (w' := W) (by go_simp) ⟨_, rfl, hS, Grows.refl _, rfl⟩
          · intro a W hS hE hD
            have k32 : a.tmps.getD 32 undef = .bool true := hD 21 32 (by kernel_rfl)
            refine plan_free rfl ?_
            refine plan_value ex_move ⟨_, rfl, hS, Grows.refl _, ?_⟩
            exact k32
          · intro a W hS hE hD
            have k33 : a.tmps.getD 33 undef = .bool true := hD 22 33 (by kernel_rfl)
            refine plan_skip rfl (by kernel_rfl) k33 rfl ?_
            exact rfl
          · intro a W hS hE hD
            have k33 : a.tmps.getD 33 undef = .bool true := hD 22 33 (by kernel_rfl)
            refine plan_skip rfl (by kernel_rfl) k33 rfl ?_
            exact rfl
          · intro a W hS hE hD
            have k33 : a.tmps.getD 33 undef = .bool true := hD 22 33 (by kernel_rfl)
            refine plan_skip rfl (by kernel_rfl) k33 rfl ?_
            exact rfl
          · intro a W hS hE hD
            have k33 : a.tmps.getD 33 undef = .bool true := hD 22 33 (by kernel_rfl)
            refine plan_skip rfl (by kernel_rfl) k33 rfl ?_
            exact rfl
          · intro a W hS hE hD
            have k33 : a.tmps.getD 33 undef = .bool true := hD 22 33 (by kernel_rfl)
            refine plan_skip rfl (by kernel_rfl) k33 rfl ?_
            exact rfl
          · intro a W hS hE hD
            have k33 : a.tmps.getD 33 undef = .bool true := hD 22 33 (by kernel_rfl)
            refine plan_skip rfl (by kernel_rfl) k33 rfl ?_
            exact rfl
          · intro a W hS hE hD
            have k33 : a.tmps.getD 33 undef = .bool true := hD 22 33 (by kernel_rfl)
            refine plan_skip rfl (by kernel_rfl) k33 rfl ?_
            exact rfl
          · intro a W hS hE hD
            have k33 : a.tmps.getD 33 undef = .bool true := hD 22 33 (by kernel_rfl)
            refine plan_skip rfl (by kernel_rfl) k33 rfl ?_
            exact rfl
          · intro a W hS hE hD
            have k33 : a.tmps.getD 33 undef = .bool true := hD 22 33 (by kernel_rfl)
            refine plan_skip rfl (by kernel_rfl) k33 rfl ?_
            exact rfl
          · intro a W hS hE hD
            have k33 : a.tmps.getD 33 undef = .bool true := hD 22 33 (by kernel_rfl)
            have k42 : a.tmps.getD 42 undef = undef := hD 31 42 (by kernel_rfl)
            refine plan_free rfl ?_
            refine plan_value (v := .bool true) (w' := W) (by go_simp) ⟨_, rfl, hS, Grows.refl _, rfl⟩
          · intro a W hS hE hD
            have k43 : a.tmps.getD 43 undef = .bool true := hD 32 43 (by kernel_rfl)
            refine plan_free rfl ?_
            refine plan_value ex_move ⟨_, rfl, hS, Grows.refl _, ?_⟩
            exact k43
          · intro a W hS hE hD
            have k44 : a.tmps.getD 44 undef = .bool true := hD 33 44 (by kernel_rfl)
            refine plan_skip rfl (by kernel_rfl) k44 rfl ?_
            exact rfl
          · intro a W hS hE hD
            have k44 : a.tmps.getD 44 undef = .bool true := hD 33 44 (by kernel_rfl)
            refine plan_skip rfl (by kernel_rfl) k44 rfl ?_
            exact rfl
          · intro a W hS hE hD
            have k44 : a.tmps.getD 44 undef = .bool true := hD 33 44 (by kernel_rfl)
            refine plan_skip rfl (by kernel_rfl) k44 rfl ?_
            exact rfl
          · intro a W hS hE hD
            have k44 : a.tmps.getD 44 undef = .bool true := hD 33 44 (by kernel_rfl)
            refine plan_skip rfl (by kernel_rfl) k44 rfl ?_
            exact rfl
          · intro a W hS hE hD
            have k44 : a.tmps.getD 44 undef = .bool true := hD 33 44 (by kernel_rfl)
            refine plan_skip rfl (by kernel_rfl) k44 rfl ?_
            exact rfl
          · intro a W hS hE hD
            have k44 : a.tmps.getD 44 undef = .bool true := hD 33 44 (by kernel_rfl)
            refine plan_skip rfl (by kernel_rfl) k44 rfl ?_
            exact rfl
          · intro a W hS hE hD
            have k44 : a.tmps.getD 44 undef = .bool true := hD 33 44 (by kernel_rfl)
            refine plan_skip rfl (by kernel_rfl) k44 rfl ?_
            exact rfl
          · intro a W hS hE hD
            have k44 : a.tmps.getD 44 undef = .bool true := hD 33 44 (by kernel_rfl)
            have k51 : a.tmps.getD 51 undef = undef := hD 40 51 (by kernel_rfl)
            refine plan_free rfl ?_
            refine plan_value (v := .bool true) (w' := W) (by go_simp) ⟨_, rfl, hS, Grows.refl _, rfl⟩
        · intro f w5 V5 hE
          have f52 : f 52 = .bool true := Ends.get hE 41 _ rfl 52 rfl
          clear hE
          simp only [setAll, List.setIfInBounds_toArray, List.set_cons_zero, List.set_cons_succ]
          rw [f52]; clear f52
          go_wp2_with fail
          go_ret
          exact ⟨by rw [MV.out]; rfl, V5.bel⟩
      cases hb3 : amtB (fR L k)
      case false =>
        have MV := Lib.hid (may_row (L := L) hlt (row_three (by rintro ⟨h, _⟩; simp [hb3] at h)))
        have B1 := Lib.hid hb1
        have B2 := Lib.hid hb2
        have B3 := Lib.hid hb3
        clear hb1 hb2 hb3
        refine wp_region_plan (fun W => RS w W w.heap.size L) Grows [IsV (.int .i64 (k : Int)), IsV (.pointer (some ⟨w.heap.size, 0, none⟩)), IsV (.pointer (some ⟨w.heap.size, k, none⟩)), IsV (.int .i64 (gR L k)), IsV (.bool true), IsV (.bool false), IsV (.bool false), IsV (.int .i64 (k : Int)), IsV (.pointer (some ⟨w.heap.size, 6, none⟩)), IsV (.pointer (some ⟨w.heap.size, 6 + k, none⟩)), IsV (.int .i64 (cR L k)), IsV (.bool true), IsV (.bool false), IsV (.bool false), IsV (.bool false), IsV (.int .i64 (k : Int)), IsV (.pointer (some ⟨w.heap.size, 12, none⟩)), IsV (.pointer (some ⟨w.heap.size, 12 + k, none⟩)), IsV (.int .i64 (fR L k)), IsV (.bool false), IsV (.bool true), IsV (.bool true), IsV (.bool true), IsV (undef), IsV (undef), IsV (undef), IsV (undef), IsV (undef), IsV (undef), IsV (undef), IsV (undef), IsV (undef), IsV (.bool true), IsV (.bool true), IsV (undef), IsV (undef), IsV (undef), IsV (undef), IsV (undef), IsV (undef), IsV (undef), IsV (.bool true)] ([(1, .pointer (some ⟨w.heap.size, 0, none⟩)), (4, .int .i64 (k : Int))] : List (Nat × Value)) (⟨rfl, rfl, trivial⟩) (n := 81) (by kernel_rfl) rfl (by kernel_rfl) hr.drew Grows.refl (StabAll.get ?_) ?_ ?_
        · repeat (first | exact trivial | refine ⟨stab_c _, ?_⟩ | refine ⟨stab_two _ _, ?_⟩ | refine ⟨fun _ _ _ _ _ _ _ => trivial, ?_⟩)
        · refine ⟨?_, ⟨?_, ⟨?_, ⟨?_, ⟨?_, ⟨?_, ⟨?_, ⟨?_, ⟨?_, ⟨?_, ⟨?_, ⟨?_, ⟨?_, ⟨?_, ⟨?_, ⟨?_, ⟨?_, ⟨?_, ⟨?_, ⟨?_, ⟨?_, ⟨?_, ⟨?_, ⟨?_, ⟨?_, ⟨?_, ⟨?_, ⟨?_, ⟨?_, ⟨?_, ⟨?_, ⟨?_, ⟨?_, ⟨?_, ⟨?_, ⟨?_, ⟨?_, ⟨?_, ⟨?_, ⟨?_, ⟨?_, ⟨?_, trivial⟩⟩⟩⟩⟩⟩⟩⟩⟩⟩⟩⟩⟩⟩⟩⟩⟩⟩⟩⟩⟩⟩⟩⟩⟩⟩⟩⟩⟩⟩⟩⟩⟩⟩⟩⟩⟩⟩⟩⟩⟩⟩
          · intro a W hS hE hD
            obtain ⟨_, x4, _⟩ := hE
            have e4 := x4 (by kernel_rfl)
            refine plan_free rfl ?_
            refine plan_value ex_move ⟨_, rfl, hS, Grows.refl _, ?_⟩
            exact e4
          · intro a W hS hE hD
            obtain ⟨x1, _, _⟩ := hE
            have e1 := x1 (by kernel_rfl)
            refine plan_free rfl ?_
            have k1 := e1
            refine plan_value (v := .pointer (some ⟨w.heap.size, 0, none⟩)) (w' := W) (by go_simp) ⟨_, rfl, hS, Grows.refl _, rfl⟩
          · intro a W hS hE hD
            have k12 : a.tmps.getD 12 undef = .pointer (some ⟨w.heap.size, 0, none⟩) := hD 1 12 (by kernel_rfl)
            have k11 : a.tmps.getD 11 undef = .int .i64 (k : Int) := hD 0 11 (by kernel_rfl)
            refine plan_free rfl ?_
            refine plan_value (v := .pointer (some ⟨w.heap.size, k, none⟩)) (w' := W) (by go_simp) ⟨_, rfl, hS, Grows.refl _, rfl⟩
          · intro a W hS hE hD
            have k13 : a.tmps.getD 13 undef = .pointer (some ⟨w.heap.size, k, none⟩) := hD 2 13 (by kernel_rfl)
            refine plan_free rfl ?_
            have hc := hS.rb.g k hlt
            refine plan_value (v := .int .i64 (gR L k)) (w' := W) (by go_simp) ⟨_, rfl, hS, Grows.refl _, rfl⟩
          · intro a W hS hE hD
            have k14 : a.tmps.getD 14 undef = .int .i64 (gR L k) := hD 3 14 (by kernel_rfl)
            refine plan_free rfl ?_
            refine plan_call (f := 45) (args := #[a.tmps.getD 14 undef]) (by kernel_rfl) ?_
            rw [k14]
            refine (num_b (gR L k) W).mono ?_
            rintro e W2 ⟨rfl, hb⟩
            refine ⟨_, rfl, _, rfl, hS.next hb, hb, ?_⟩
            show _ = _
            rw [B1.out]
          · intro a W hS hE hD
            have k15 : a.tmps.getD 15 undef = .bool true := hD 4 15 (by kernel_rfl)
            refine plan_free rfl ?_
            refine plan_value (v := .bool false) (w' := W) (by go_simp) ⟨_, rfl, hS, Grows.refl _, rfl⟩
          · intro a W hS hE hD
            have k16 : a.tmps.getD 16 undef = .bool false := hD 5 16 (by kernel_rfl)
            refine plan_free rfl ?_
            refine plan_value ex_move ⟨_, rfl, hS, Grows.refl _, ?_⟩
            exact k16
          · intro a W hS hE hD
            obtain ⟨_, x4, _⟩ := hE
            have e4 := x4 (by kernel_rfl)
            have k17 : a.tmps.getD 17 undef = .bool false := hD 6 17 (by kernel_rfl)
            refine plan_want rfl (by kernel_rfl) k17 ?_
            refine plan_value ex_move ⟨_, rfl, hS, Grows.refl _, ?_⟩
            exact e4
          · intro a W hS hE hD
            obtain ⟨x1, _, _⟩ := hE
            have e1 := x1 (by kernel_rfl)
            have k17 : a.tmps.getD 17 undef = .bool false := hD 6 17 (by kernel_rfl)
            refine plan_want rfl (by kernel_rfl) k17 ?_
            have k1 := e1
            refine plan_value (v := .pointer (some ⟨w.heap.size, 6, none⟩)) (w' := W) (by go_simp) ⟨_, rfl, hS, Grows.refl _, rfl⟩
          · intro a W hS hE hD
            have k17 : a.tmps.getD 17 undef = .bool false := hD 6 17 (by kernel_rfl)
            have k19 : a.tmps.getD 19 undef = .pointer (some ⟨w.heap.size, 6, none⟩) := hD 8 19 (by kernel_rfl)
            have k18 : a.tmps.getD 18 undef = .int .i64 (k : Int) := hD 7 18 (by kernel_rfl)
            refine plan_want rfl (by kernel_rfl) k17 ?_
            refine plan_value (v := .pointer (some ⟨w.heap.size, 6 + k, none⟩)) (w' := W) (by go_simp) ⟨_, rfl, hS, Grows.refl _, rfl⟩
          · intro a W hS hE hD
            have k17 : a.tmps.getD 17 undef = .bool false := hD 6 17 (by kernel_rfl)
            have k20 : a.tmps.getD 20 undef = .pointer (some ⟨w.heap.size, 6 + k, none⟩) := hD 9 20 (by kernel_rfl)
            refine plan_want rfl (by kernel_rfl) k17 ?_
            have hc := hS.rb.c k hlt
            refine plan_value (v := .int .i64 (cR L k)) (w' := W) (by go_simp) ⟨_, rfl, hS, Grows.refl _, rfl⟩
          · intro a W hS hE hD
            have k17 : a.tmps.getD 17 undef = .bool false := hD 6 17 (by kernel_rfl)
            have k21 : a.tmps.getD 21 undef = .int .i64 (cR L k) := hD 10 21 (by kernel_rfl)
            refine plan_want rfl (by kernel_rfl) k17 ?_
            refine plan_call (f := 45) (args := #[a.tmps.getD 21 undef]) (by kernel_rfl) ?_
            rw [k21]
            refine (num_b (cR L k) W).mono ?_
            rintro e W2 ⟨rfl, hb⟩
            refine ⟨_, rfl, _, rfl, hS.next hb, hb, ?_⟩
            show _ = _
            rw [B2.out]
          · intro a W hS hE hD
            have k17 : a.tmps.getD 17 undef = .bool false := hD 6 17 (by kernel_rfl)
            have k22 : a.tmps.getD 22 undef = .bool true := hD 11 22 (by kernel_rfl)
            refine plan_want rfl (by kernel_rfl) k17 ?_
            refine plan_value (v := .bool false) (w' := W) (by go_simp) ⟨_, rfl, hS, Grows.refl _, rfl⟩
          · intro a W hS hE hD
            have k17 : a.tmps.getD 17 undef = .bool false := hD 6 17 (by kernel_rfl)
            have k23 : a.tmps.getD 23 undef = .bool false := hD 12 23 (by kernel_rfl)
            refine plan_free rfl ?_
            refine plan_value (v := .bool false) (w' := W) (by go_simp) ⟨_, rfl, hS, Grows.refl _, rfl⟩
          · intro a W hS hE hD
            have k24 : a.tmps.getD 24 undef = .bool false := hD 13 24 (by kernel_rfl)
            refine plan_free rfl ?_
            refine plan_value ex_move ⟨_, rfl, hS, Grows.refl _, ?_⟩
            exact k24
          · intro a W hS hE hD
            obtain ⟨_, x4, _⟩ := hE
            have e4 := x4 (by kernel_rfl)
            have k25 : a.tmps.getD 25 undef = .bool false := hD 14 25 (by kernel_rfl)
            refine plan_want rfl (by kernel_rfl) k25 ?_
            refine plan_value ex_move ⟨_, rfl, hS, Grows.refl _, ?_⟩
            exact e4
          · intro a W hS hE hD
            obtain ⟨x1, _, _⟩ := hE
            have e1 := x1 (by kernel_rfl)
            have k25 : a.tmps.getD 25 undef = .bool false := hD 14 25 (by kernel_rfl)
            refine plan_want rfl (by kernel_rfl) k25 ?_
            have k1 := e1
            refine plan_value (v := .pointer (some ⟨w.heap.size, 12, none⟩)) (w' := W) (by go_simp) ⟨_, rfl, hS, Grows.refl _, rfl⟩
          · intro a W hS hE hD
            have k25 : a.tmps.getD 25 undef = .bool false := hD 14 25 (by kernel_rfl)
            have k27 : a.tmps.getD 27 undef = .pointer (some ⟨w.heap.size, 12, none⟩) := hD 16 27 (by kernel_rfl)
            have k26 : a.tmps.getD 26 undef = .int .i64 (k : Int) := hD 15 26 (by kernel_rfl)
            refine plan_want rfl (by kernel_rfl) k25 ?_
            refine plan_value (v := .pointer (some ⟨w.heap.size, 12 + k, none⟩)) (w' := W) (by go_simp) ⟨_, rfl, hS, Grows.refl _, rfl⟩
          · intro a W hS hE hD
            have k25 : a.tmps.getD 25 undef = .bool false := hD 14 25 (by kernel_rfl)
            have k28 : a.tmps.getD 28 undef = .pointer (some ⟨w.heap.size, 12 + k, none⟩) := hD 17 28 (by kernel_rfl)
            refine plan_want rfl (by kernel_rfl) k25 ?_
            have hc := hS.rb.f k hlt
            refine plan_value (v := .int .i64 (fR L k)) (w' := W) (by go_simp) ⟨_, rfl, hS, Grows.refl _, rfl⟩
          · intro a W hS hE hD
            have k25 : a.tmps.getD 25 undef = .bool false := hD 14 25 (by kernel_rfl)
            have k29 : a.tmps.getD 29 undef = .int .i64 (fR L k) := hD 18 29 (by kernel_rfl)
            refine plan_want rfl (by kernel_rfl) k25 ?_
            refine plan_call (f := 45) (args := #[a.tmps.getD 29 undef]) (by kernel_rfl) ?_
            rw [k29]
            refine (num_b (fR L k) W).mono ?_
            rintro e W2 ⟨rfl, hb⟩
            refine ⟨_, rfl, _, rfl, hS.next hb, hb, ?_⟩
            show _ = _
            rw [B3.out]
          · intro a W hS hE hD
            have k25 : a.tmps.getD 25 undef = .bool false := hD 14 25 (by kernel_rfl)
            have k30 : a.tmps.getD 30 undef = .bool false := hD 19 30 (by kernel_rfl)
            refine plan_want rfl (by kernel_rfl) k25 ?_
            refine plan_value (v := .bool true) (w' := W) (by go_simp) ⟨_, rfl, hS, Grows.refl _, rfl⟩
          · intro a W hS hE hD
            have k25 : a.tmps.getD 25 undef = .bool false := hD 14 25 (by kernel_rfl)
            have k31 : a.tmps.getD 31 undef = .bool true := hD 20 31 (by kernel_rfl)
            refine plan_free rfl ?_
            refine plan_value (v := .bool true) (w' := W) (by go_simp) ⟨_, rfl, hS, Grows.refl _, rfl⟩
          · intro a W hS hE hD
            have k32 : a.tmps.getD 32 undef = .bool true := hD 21 32 (by kernel_rfl)
            refine plan_free rfl ?_
            refine plan_value ex_move ⟨_, rfl, hS, Grows.refl _, ?_⟩
            exact k32
          · intro a W hS hE hD
            have k33 : a.tmps.getD 33 undef = .bool true := hD 22 33 (by kernel_rfl)
            refine plan_skip rfl (by kernel_rfl) k33 rfl ?_
            exact rfl
          · intro a W hS hE hD
            have k33 : a.tmps.getD 33 undef = .bool true := hD 22 33 (by kernel_rfl)
            refine plan_skip rfl (by kernel_rfl) k33 rfl ?_
            exact rfl
          · intro a W hS hE hD
            have k33 : a.tmps.getD 33 undef = .bool true := hD 22 33 (by kernel_rfl)
            refine plan_skip rfl (by kernel_rfl) k33 rfl ?_
            exact rfl
          · intro a W hS hE hD
            have k33 : a.tmps.getD 33 undef = .bool true := hD 22 33 (by kernel_rfl)
            refine plan_skip rfl (by kernel_rfl) k33 rfl ?_
            exact rfl
          · intro a W hS hE hD
            have k33 : a.tmps.getD 33 undef = .bool true := hD 22 33 (by kernel_rfl)
            refine plan_skip rfl (by kernel_rfl) k33 rfl ?_
            exact rfl
          · intro a W hS hE hD
            have k33 : a.tmps.getD 33 undef = .bool true := hD 22 33 (by kernel_rfl)
            refine plan_skip rfl (by kernel_rfl) k33 rfl ?_
            exact rfl
          · intro a W hS hE hD
            have k33 : a.tmps.getD 33 undef = .bool true := hD 22 33 (by kernel_rfl)
            refine plan_skip rfl (by kernel_rfl) k33 rfl ?_
            exact rfl
          · intro a W hS hE hD
            have k33 : a.tmps.getD 33 undef = .bool true := hD 22 33 (by kernel_rfl)
            refine plan_skip rfl (by kernel_rfl) k33 rfl ?_
            exact rfl
          · intro a W hS hE hD
            have k33 : a.tmps.getD 33 undef = .bool true := hD 22 33 (by kernel_rfl)
            refine plan_skip rfl (by kernel_rfl) k33 rfl ?_
            exact rfl
          · intro a W hS hE hD
            have k33 : a.tmps.getD 33 undef = .bool true := hD 22 33 (by kernel_rfl)
            have k42 : a.tmps.getD 42 undef = undef := hD 31 42 (by kernel_rfl)
            refine plan_free rfl ?_
            refine plan_value (v := .bool true) (w' := W) (by go_simp) ⟨_, rfl, hS, Grows.refl _, rfl⟩
          · intro a W hS hE hD
            have k43 : a.tmps.getD 43 undef = .bool true := hD 32 43 (by kernel_rfl)
            refine plan_free rfl ?_
            refine plan_value ex_move ⟨_, rfl, hS, Grows.refl _, ?_⟩
            exact k43
          · intro a W hS hE hD
            have k44 : a.tmps.getD 44 undef = .bool true := hD 33 44 (by kernel_rfl)
            refine plan_skip rfl (by kernel_rfl) k44 rfl ?_
            exact rfl
          · intro a W hS hE hD
            have k44 : a.tmps.getD 44 undef = .bool true := hD 33 44 (by kernel_rfl)
            refine plan_skip rfl (by kernel_rfl) k44 rfl ?_
            exact rfl
          · intro a W hS hE hD
            have k44 : a.tmps.getD 44 undef = .bool true := hD 33 44 (by kernel_rfl)
            refine plan_skip rfl (by kernel_rfl) k44 rfl ?_
            exact rfl
          · intro a W hS hE hD
            have k44 : a.tmps.getD 44 undef = .bool true := hD 33 44 (by kernel_rfl)
            refine plan_skip rfl (by kernel_rfl) k44 rfl ?_
            exact rfl
          · intro a W hS hE hD
            have k44 : a.tmps.getD 44 undef = .bool true := hD 33 44 (by kernel_rfl)
            refine plan_skip rfl (by kernel_rfl) k44 rfl ?_
            exact rfl
          · intro a W hS hE hD
            have k44 : a.tmps.getD 44 undef = .bool true := hD 33 44 (by kernel_rfl)
            refine plan_skip rfl (by kernel_rfl) k44 rfl ?_
            exact rfl
          · intro a W hS hE hD
            have k44 : a.tmps.getD 44 undef = .bool true := hD 33 44 (by kernel_rfl)
            refine plan_skip rfl (by kernel_rfl) k44 rfl ?_
            exact rfl
          · intro a W hS hE hD
            have k44 : a.tmps.getD 44 undef = .bool true := hD 33 44 (by kernel_rfl)
            have k51 : a.tmps.getD 51 undef = undef := hD 40 51 (by kernel_rfl)
            refine plan_free rfl ?_
            refine plan_value (v := .bool true) (w' := W) (by go_simp) ⟨_, rfl, hS, Grows.refl _, rfl⟩
        · intro f w5 V5 hE
          have f52 : f 52 = .bool true := Ends.get hE 41 _ rfl 52 rfl
          clear hE
          simp only [setAll, List.setIfInBounds_toArray, List.set_cons_zero, List.set_cons_succ]
          rw [f52]; clear f52
          go_wp2_with fail
          go_ret
          exact ⟨by rw [MV.out]; rfl, V5.bel⟩
      have B0 : Hid ([gR L k, cR L k, fR L k].all amtB = true) := by show _ = _; simp [hb1, hb2, hb3]
      have B1 := Lib.hid hb1
      have B2 := Lib.hid hb2
      have B3 := Lib.hid hb3
      clear hb1 hb2 hb3
      by_cases hf : cR L k < fR L k
      case pos =>
        have MV := Lib.hid (may_row (L := L) hlt (row_three (by rintro ⟨_, h⟩; simp at h; omega)))
        refine wp_region_plan (fun W => RS w W w.heap.size L) Grows [IsV (.int .i64 (k : Int)), IsV (.pointer (some ⟨w.heap.size, 0, none⟩)), IsV (.pointer (some ⟨w.heap.size, k, none⟩)), IsV (.int .i64 (gR L k)), IsV (.bool true), IsV (.bool false), IsV (.bool false), IsV (.int .i64 (k : Int)), IsV (.pointer (some ⟨w.heap.size, 6, none⟩)), IsV (.pointer (some ⟨w.heap.size, 6 + k, none⟩)), IsV (.int .i64 (cR L k)), IsV (.bool true), IsV (.bool false), IsV (.bool false), IsV (.bool false), IsV (.int .i64 (k : Int)), IsV (.pointer (some ⟨w.heap.size, 12, none⟩)), IsV (.pointer (some ⟨w.heap.size, 12 + k, none⟩)), IsV (.int .i64 (fR L k)), IsV (.bool true), IsV (.bool false), IsV (.bool false), IsV (.bool false), IsV (.int .i64 (k : Int)), IsV (.pointer (some ⟨w.heap.size, 12, none⟩)), IsV (.pointer (some ⟨w.heap.size, 12 + k, none⟩)), IsV (.int .i64 (fR L k)), IsV (.int .i64 (k : Int)), IsV (.pointer (some ⟨w.heap.size, 6, none⟩)), IsV (.pointer (some ⟨w.heap.size, 6 + k, none⟩)), IsV (.int .i64 (cR L k)), IsV (.bool true), IsV (.bool true), IsV (.bool true), IsV (undef), IsV (undef), IsV (undef), IsV (undef), IsV (undef), IsV (undef), IsV (undef), IsV (.bool true)] ([(1, .pointer (some ⟨w.heap.size, 0, none⟩)), (4, .int .i64 (k : Int))] : List (Nat × Value)) (⟨rfl, rfl, trivial⟩) (n := 81) (by kernel_rfl) rfl (by kernel_rfl) hr.drew Grows.refl (StabAll.get ?_) ?_ ?_
        · repeat (first | exact trivial | refine ⟨stab_c _, ?_⟩ | refine ⟨stab_two _ _, ?_⟩ | refine ⟨fun _ _ _ _ _ _ _ => trivial, ?_⟩)
        · refine ⟨?_, ⟨?_, ⟨?_, ⟨?_, ⟨?_, ⟨?_, ⟨?_, ⟨?_, ⟨?_, ⟨?_, ⟨?_, ⟨?_, ⟨?_, ⟨?_, ⟨?_, ⟨?_, ⟨?_, ⟨?_, ⟨?_, ⟨?_, ⟨?_, ⟨?_, ⟨?_, ⟨?_, ⟨?_, ⟨?_, ⟨?_, ⟨?_, ⟨?_, ⟨?_, ⟨?_, ⟨?_, ⟨?_, ⟨?_, ⟨?_, ⟨?_, ⟨?_, ⟨?_, ⟨?_, ⟨?_, ⟨?_, ⟨?_, trivial⟩⟩⟩⟩⟩⟩⟩⟩⟩⟩⟩⟩⟩⟩⟩⟩⟩⟩⟩⟩⟩⟩⟩⟩⟩⟩⟩⟩⟩⟩⟩⟩⟩⟩⟩⟩⟩⟩⟩⟩⟩⟩
          · intro a W hS hE hD
            obtain ⟨_, x4, _⟩ := hE
            have e4 := x4 (by kernel_rfl)
            refine plan_free rfl ?_
            refine plan_value ex_move ⟨_, rfl, hS, Grows.refl _, ?_⟩
            exact e4
          · intro a W hS hE hD
            obtain ⟨x1, _, _⟩ := hE
            have e1 := x1 (by kernel_rfl)
            refine plan_free rfl ?_
            have k1 := e1
            refine plan_value (v := .pointer (some ⟨w.heap.size, 0, none⟩)) (w' := W) (by go_simp) ⟨_, rfl, hS, Grows.refl _, rfl⟩
          · intro a W hS hE hD
            have k12 : a.tmps.getD 12 undef = .pointer (some ⟨w.heap.size, 0, none⟩) := hD 1 12 (by kernel_rfl)
            have k11 : a.tmps.getD 11 undef = .int .i64 (k : Int) := hD 0 11 (by kernel_rfl)
            refine plan_free rfl ?_
            refine plan_value (v := .pointer (some ⟨w.heap.size, k, none⟩)) (w' := W) (by go_simp) ⟨_, rfl, hS, Grows.refl _, rfl⟩
          · intro a W hS hE hD
            have k13 : a.tmps.getD 13 undef = .pointer (some ⟨w.heap.size, k, none⟩) := hD 2 13 (by kernel_rfl)
            refine plan_free rfl ?_
            have hc := hS.rb.g k hlt
            refine plan_value (v := .int .i64 (gR L k)) (w' := W) (by go_simp) ⟨_, rfl, hS, Grows.refl _, rfl⟩
          · intro a W hS hE hD
            have k14 : a.tmps.getD 14 undef = .int .i64 (gR L k) := hD 3 14 (by kernel_rfl)
            refine plan_free rfl ?_
            refine plan_call (f := 45) (args := #[a.tmps.getD 14 undef]) (by kernel_rfl) ?_
            rw [k14]
            refine (num_b (gR L k) W).mono ?_
            rintro e W2 ⟨rfl, hb⟩
            refine ⟨_, rfl, _, rfl, hS.next hb, hb, ?_⟩
            show _ = _
            rw [B1.out]
          · intro a W hS hE hD
            have k15 : a.tmps.getD 15 undef = .bool true := hD 4 15 (by kernel_rfl)
            refine plan_free rfl ?_
            refine plan_value (v := .bool false) (w' := W) (by go_simp) ⟨_, rfl, hS, Grows.refl _, rfl⟩
          · intro a W hS hE hD
            have k16 : a.tmps.getD 16 undef = .bool false := hD 5 16 (by kernel_rfl)
            refine plan_free rfl ?_
            refine plan_value ex_move ⟨_, rfl, hS, Grows.refl _, ?_⟩
            exact k16
          · intro a W hS hE hD
            obtain ⟨_, x4, _⟩ := hE
            have e4 := x4 (by kernel_rfl)
            have k17 : a.tmps.getD 17 undef = .bool false := hD 6 17 (by kernel_rfl)
            refine plan_want rfl (by kernel_rfl) k17 ?_
            refine plan_value ex_move ⟨_, rfl, hS, Grows.refl _, ?_⟩
            exact e4
          · intro a W hS hE hD
            obtain ⟨x1, _, _⟩ := hE
            have e1 := x1 (by kernel_rfl)
            have k17 : a.tmps.getD 17 undef = .bool false := hD 6 17 (by kernel_rfl)
            refine plan_want rfl (by kernel_rfl) k17 ?_
            have k1 := e1
            refine plan_value (v := .pointer (some ⟨w.heap.size, 6, none⟩)) (w' := W) (by go_simp) ⟨_, rfl, hS, Grows.refl _, rfl⟩
          · intro a W hS hE hD
            have k17 : a.tmps.getD 17 undef = .bool false := hD 6 17 (by kernel_rfl)
            have k19 : a.tmps.getD 19 undef = .pointer (some ⟨w.heap.size, 6, none⟩) := hD 8 19 (by kernel_rfl)
            have k18 : a.tmps.getD 18 undef = .int .i64 (k : Int) := hD 7 18 (by kernel_rfl)
            refine plan_want rfl (by kernel_rfl) k17 ?_
            refine plan_value (v := .pointer (some ⟨w.heap.size, 6 + k, none⟩)) (w' := W) (by go_simp) ⟨_, rfl, hS, Grows.refl _, rfl⟩
          · intro a W hS hE hD
            have k17 : a.tmps.getD 17 undef = .bool false := hD 6 17 (by kernel_rfl)
            have k20 : a.tmps.getD 20 undef = .pointer (some ⟨w.heap.size, 6 + k, none⟩) := hD 9 20 (by kernel_rfl)
            refine plan_want rfl (by kernel_rfl) k17 ?_
            have hc := hS.rb.c k hlt
            refine plan_value (v := .int .i64 (cR L k)) (w' := W) (by go_simp) ⟨_, rfl, hS, Grows.refl _, rfl⟩
          · intro a W hS hE hD
            have k17 : a.tmps.getD 17 undef = .bool false := hD 6 17 (by kernel_rfl)
            have k21 : a.tmps.getD 21 undef = .int .i64 (cR L k) := hD 10 21 (by kernel_rfl)
            refine plan_want rfl (by kernel_rfl) k17 ?_
            refine plan_call (f := 45) (args := #[a.tmps.getD 21 undef]) (by kernel_rfl) ?_
            rw [k21]
            refine (num_b (cR L k) W).mono ?_
            rintro e W2 ⟨rfl, hb⟩
            refine ⟨_, rfl, _, rfl, hS.next hb, hb, ?_⟩
            show _ = _
            rw [B2.out]
          · intro a W hS hE hD
            have k17 : a.tmps.getD 17 undef = .bool false := hD 6 17 (by kernel_rfl)
            have k22 : a.tmps.getD 22 undef = .bool true := hD 11 22 (by kernel_rfl)
            refine plan_want rfl (by kernel_rfl) k17 ?_
            refine plan_value (v := .bool false) (w' := W) (by go_simp) ⟨_, rfl, hS, Grows.refl _, rfl⟩
          · intro a W hS hE hD
            have k17 : a.tmps.getD 17 undef = .bool false := hD 6 17 (by kernel_rfl)
            have k23 : a.tmps.getD 23 undef = .bool false := hD 12 23 (by kernel_rfl)
            refine plan_free rfl ?_
            refine plan_value (v := .bool false) (w' := W) (by go_simp) ⟨_, rfl, hS, Grows.refl _, rfl⟩
          · intro a W hS hE hD
            have k24 : a.tmps.getD 24 undef = .bool false := hD 13 24 (by kernel_rfl)
            refine plan_free rfl ?_
            refine plan_value ex_move ⟨_, rfl, hS, Grows.refl _, ?_⟩
            exact k24
          · intro a W hS hE hD
            obtain ⟨_, x4, _⟩ := hE
            have e4 := x4 (by kernel_rfl)
            have k25 : a.tmps.getD 25 undef = .bool false := hD 14 25 (by kernel_rfl)
            refine plan_want rfl (by kernel_rfl) k25 ?_
            refine plan_value ex_move ⟨_, rfl, hS, Grows.refl _, ?_⟩
            exact e4
          · intro a W hS hE hD
            obtain ⟨x1, _, _⟩ := hE
            have e1 := x1 (by kernel_rfl)
            have k25 : a.tmps.getD 25 undef = .bool false := hD 14 25 (by kernel_rfl)
            refine plan_want rfl (by kernel_rfl) k25 ?_
            have k1 := e1
            refine plan_value (v := .pointer (some ⟨w.heap.size, 12, none⟩)) (w' := W) (by go_simp) ⟨_, rfl, hS, Grows.refl _, rfl⟩
          · intro a W hS hE hD
            have k25 : a.tmps.getD 25 undef = .bool false := hD 14 25 (by kernel_rfl)
            have k27 : a.tmps.getD 27 undef = .pointer (some ⟨w.heap.size, 12, none⟩) := hD 16 27 (by kernel_rfl)
            have k26 : a.tmps.getD 26 undef = .int .i64 (k : Int) := hD 15 26 (by kernel_rfl)
            refine plan_want rfl (by kernel_rfl) k25 ?_
            refine plan_value (v := .pointer (some ⟨w.heap.size, 12 + k, none⟩)) (w' := W) (by go_simp) ⟨_, rfl, hS, Grows.refl _, rfl⟩
          · intro a W hS hE hD
            have k25 : a.tmps.getD 25 undef = .bool false := hD 14 25 (by kernel_rfl)
            have k28 : a.tmps.getD 28 undef = .pointer (some ⟨w.heap.size, 12 + k, none⟩) := hD 17 28 (by kernel_rfl)
            refine plan_want rfl (by kernel_rfl) k25 ?_
            have hc := hS.rb.f k hlt
            refine plan_value (v := .int .i64 (fR L k)) (w' := W) (by go_simp) ⟨_, rfl, hS, Grows.refl _, rfl⟩
          · intro a W hS hE hD
            have k25 : a.tmps.getD 25 undef = .bool false := hD 14 25 (by kernel_rfl)
            have k29 : a.tmps.getD 29 undef = .int .i64 (fR L k) := hD 18 29 (by kernel_rfl)
            refine plan_want rfl (by kernel_rfl) k25 ?_
            refine plan_call (f := 45) (args := #[a.tmps.getD 29 undef]) (by kernel_rfl) ?_
            rw [k29]
            refine (num_b (fR L k) W).mono ?_
            rintro e W2 ⟨rfl, hb⟩
            refine ⟨_, rfl, _, rfl, hS.next hb, hb, ?_⟩
            show _ = _
            rw [B3.out]
          · intro a W hS hE hD
            have k25 : a.tmps.getD 25 undef = .bool false := hD 14 25 (by kernel_rfl)
            have k30 : a.tmps.getD 30 undef = .bool true := hD 19 30 (by kernel_rfl)
            refine plan_want rfl (by kernel_rfl) k25 ?_
            refine plan_value (v := .bool false) (w' := W) (by go_simp) ⟨_, rfl, hS, Grows.refl _, rfl⟩
          · intro a W hS hE hD
            have k25 : a.tmps.getD 25 undef = .bool false := hD 14 25 (by kernel_rfl)
            have k31 : a.tmps.getD 31 undef = .bool false := hD 20 31 (by kernel_rfl)
            refine plan_free rfl ?_
            refine plan_value (v := .bool false) (w' := W) (by go_simp) ⟨_, rfl, hS, Grows.refl _, rfl⟩
          · intro a W hS hE hD
            have k32 : a.tmps.getD 32 undef = .bool false := hD 21 32 (by kernel_rfl)
            refine plan_free rfl ?_
            refine plan_value ex_move ⟨_, rfl, hS, Grows.refl _, ?_⟩
            exact k32
          · intro a W hS hE hD
            obtain ⟨_, x4, _⟩ := hE
            have e4 := x4 (by kernel_rfl)
            have k33 : a.tmps.getD 33 undef = .bool false := hD 22 33 (by kernel_rfl)
            refine plan_want rfl (by kernel_rfl) k33 ?_
            refine plan_value ex_move ⟨_, rfl, hS, Grows.refl _, ?_⟩
            exact e4
          · intro a W hS hE hD
            obtain ⟨x1, _, _⟩ := hE
            have e1 := x1 (by kernel_rfl)
            have k33 : a.tmps.getD 33 undef = .bool false := hD 22 33 (by kernel_rfl)
            refine plan_want rfl (by kernel_rfl) k33 ?_
            have k1 := e1
            refine plan_value (v := .pointer (some ⟨w.heap.size, 12, none⟩)) (w' := W) (by go_simp) ⟨_, rfl, hS, Grows.refl _, rfl⟩
          · intro a W hS hE hD
            have k33 : a.tmps.getD 33 undef = .bool false := hD 22 33 (by kernel_rfl)
            have k35 : a.tmps.getD 35 undef = .pointer (some ⟨w.heap.size, 12, none⟩) := hD 24 35 (by kernel_rfl)
            have k34 : a.tmps.getD 34 undef = .int .i64 (k : Int) := hD 23 34 (by kernel_rfl)
            refine plan_want rfl (by kernel_rfl) k33 ?_
            refine plan_value (v := .pointer (some ⟨w.heap.size, 12 + k, none⟩)) (w' := W) (by go_simp) ⟨_, rfl, hS, Grows.refl _, rfl⟩
          · intro a W hS hE hD
            have k33 : a.tmps.getD 33 undef = .bool false := hD 22 33 (by kernel_rfl)
            have k36 : a.tmps.getD 36 undef = .pointer (some ⟨w.heap.size, 12 + k, none⟩) := hD 25 36 (by kernel_rfl)
            refine plan_want rfl (by kernel_rfl) k33 ?_
            have hc := hS.rb.f k hlt
            refine plan_value (v := .int .i64 (fR L k)) (w' := W) (by go_simp) ⟨_, rfl, hS, Grows.refl _, rfl⟩
          · intro a W hS hE hD
            obtain ⟨_, x4, _⟩ := hE
            have e4 := x4 (by kernel_rfl)
            have k33 : a.tmps.getD 33 undef = .bool false := hD 22 33 (by kernel_rfl)
            refine plan_want rfl (by kernel_rfl) k33 ?_
            refine plan_value ex_move ⟨_, rfl, hS, Grows.refl _, ?_⟩
            exact e4
          · intro a W hS hE hD
            obtain ⟨x1, _, _⟩ := hE
            have e1 := x1 (by kernel_rfl)
            have k33 : a.tmps.getD 33 undef = .bool false := hD 22 33 (by kernel_rfl)
            refine plan_want rfl (by kernel_rfl) k33 ?_
            have k1 := e1
            refine plan_value (v := .pointer (some ⟨w.heap.size, 6, none⟩)) (w' := W) (by go_simp) ⟨_, rfl, hS, Grows.refl _, rfl⟩
          · intro a W hS hE hD
            have k33 : a.tmps.getD 33 undef = .bool false := hD 22 33 (by kernel_rfl)
            have k39 : a.tmps.getD 39 undef = .pointer (some ⟨w.heap.size, 6, none⟩) := hD 28 39 (by kernel_rfl)
            have k38 : a.tmps.getD 38 undef = .int .i64 (k : Int) := hD 27 38 (by kernel_rfl)
            refine plan_want rfl (by kernel_rfl) k33 ?_
            refine plan_value (v := .pointer (some ⟨w.heap.size, 6 + k, none⟩)) (w' := W) (by go_simp) ⟨_, rfl, hS, Grows.refl _, rfl⟩
          · intro a W hS hE hD
            have k33 : a.tmps.getD 33 undef = .bool false := hD 22 33 (by kernel_rfl)
            have k40 : a.tmps.getD 40 undef = .pointer (some ⟨w.heap.size, 6 + k, none⟩) := hD 29 40 (by kernel_rfl)
            refine plan_want rfl (by kernel_rfl) k33 ?_
            have hc := hS.rb.c k hlt
            refine plan_value (v := .int .i64 (cR L k)) (w' := W) (by go_simp) ⟨_, rfl, hS, Grows.refl _, rfl⟩
          · intro a W hS hE hD
            have k33 : a.tmps.getD 33 undef = .bool false := hD 22 33 (by kernel_rfl)
            have k37 : a.tmps.getD 37 undef = .int .i64 (fR L k) := hD 26 37 (by kernel_rfl)
            have k41 : a.tmps.getD 41 undef = .int .i64 (cR L k) := hD 30 41 (by kernel_rfl)
            refine plan_want rfl (by kernel_rfl) k33 ?_
            refine plan_value (v := .bool true) (w' := W) (by go_simp) ⟨_, rfl, hS, Grows.refl _, rfl⟩
          · intro a W hS hE hD
            have k33 : a.tmps.getD 33 undef = .bool false := hD 22 33 (by kernel_rfl)
            have k42 : a.tmps.getD 42 undef = .bool true := hD 31 42 (by kernel_rfl)
            refine plan_free rfl ?_
            refine plan_value (v := .bool true) (w' := W) (by go_simp) ⟨_, rfl, hS, Grows.refl _, rfl⟩
          · intro a W hS hE hD
            have k43 : a.tmps.getD 43 undef = .bool true := hD 32 43 (by kernel_rfl)
            refine plan_free rfl ?_
            refine plan_value ex_move ⟨_, rfl, hS, Grows.refl _, ?_⟩
            exact k43
          · intro a W hS hE hD
            have k44 : a.tmps.getD 44 undef = .bool true := hD 33 44 (by kernel_rfl)
            refine plan_skip rfl (by kernel_rfl) k44 rfl ?_
            exact rfl
          · intro a W hS hE hD
            have k44 : a.tmps.getD 44 undef = .bool true := hD 33 44 (by kernel_rfl)
            refine plan_skip rfl (by kernel_rfl) k44 rfl ?_
            exact rfl
          · intro a W hS hE hD
            have k44 : a.tmps.getD 44 undef = .bool true := hD 33 44 (by kernel_rfl)
            refine plan_skip rfl (by kernel_rfl) k44 rfl ?_
            exact rfl
          · intro a W hS hE hD
            have k44 : a.tmps.getD 44 undef = .bool true := hD 33 44 (by kernel_rfl)
            refine plan_skip rfl (by kernel_rfl) k44 rfl ?_
            exact rfl
          · intro a W hS hE hD
            have k44 : a.tmps.getD 44 undef = .bool true := hD 33 44 (by kernel_rfl)
            refine plan_skip rfl (by kernel_rfl) k44 rfl ?_
            exact rfl
          · intro a W hS hE hD
            have k44 : a.tmps.getD 44 undef = .bool true := hD 33 44 (by kernel_rfl)
            refine plan_skip rfl (by kernel_rfl) k44 rfl ?_
            exact rfl
          · intro a W hS hE hD
            have k44 : a.tmps.getD 44 undef = .bool true := hD 33 44 (by kernel_rfl)
            refine plan_skip rfl (by kernel_rfl) k44 rfl ?_
            exact rfl
          · intro a W hS hE hD
            have k44 : a.tmps.getD 44 undef = .bool true := hD 33 44 (by kernel_rfl)
            have k51 : a.tmps.getD 51 undef = undef := hD 40 51 (by kernel_rfl)
            refine plan_free rfl ?_
            refine plan_value (v := .bool true) (w' := W) (by go_simp) ⟨_, rfl, hS, Grows.refl _, rfl⟩
        · intro f w5 V5 hE
          have f52 : f 52 = .bool true := Ends.get hE 41 _ rfl 52 rfl
          clear hE
          simp only [setAll, List.setIfInBounds_toArray, List.set_cons_zero, List.set_cons_succ]
          rw [f52]; clear f52
          go_wp2_with fail
          go_ret
          exact ⟨by rw [MV.out]; rfl, V5.bel⟩
      by_cases hd : rR L k k = 0
      case neg =>
        have MV := Lib.hid (may_row (L := L) hlt (row_three (by rintro ⟨_, h⟩; simp at h; exact hd h.1)))
        refine wp_region_plan (fun W => RS w W w.heap.size L) Grows [IsV (.int .i64 (k : Int)), IsV (.pointer (some ⟨w.heap.size, 0, none⟩)), IsV (.pointer (some ⟨w.heap.size, k, none⟩)), IsV (.int .i64 (gR L k)), IsV (.bool true), IsV (.bool false), IsV (.bool false), IsV (.int .i64 (k : Int)), IsV (.pointer (some ⟨w.heap.size, 6, none⟩)), IsV (.pointer (some ⟨w.heap.size, 6 + k, none⟩)), IsV (.int .i64 (cR L k)), IsV (.bool true), IsV (.bool false), IsV (.bool false), IsV (.bool false), IsV (.int .i64 (k : Int)), IsV (.pointer (some ⟨w.heap.size, 12, none⟩)), IsV (.pointer (some ⟨w.heap.size, 12 + k, none⟩)), IsV (.int .i64 (fR L k)), IsV (.bool true), IsV (.bool false), IsV (.bool false), IsV (.bool false), IsV (.int .i64 (k : Int)), IsV (.pointer (some ⟨w.heap.size, 12, none⟩)), IsV (.pointer (some ⟨w.heap.size, 12 + k, none⟩)), IsV (.int .i64 (fR L k)), IsV (.int .i64 (k : Int)), IsV (.pointer (some ⟨w.heap.size, 6, none⟩)), IsV (.pointer (some ⟨w.heap.size, 6 + k, none⟩)), IsV (.int .i64 (cR L k)), IsV (.bool false), IsV (.bool false), IsV (.bool false), IsV (.int .i64 (k : Int)), IsV (.int .i64 (k : Int)), IsV (.pointer (some ⟨w.heap.size, 18, none⟩)), IsV (.pointer (some ⟨w.heap.size, 18 + k * 6, none⟩)), IsV (.pointer (some ⟨w.heap.size, 18 + k * 6 + k, none⟩)), IsV (.int .i64 (rR L k k)), IsV (.bool true), IsV (.bool true)] ([(1, .pointer (some ⟨w.heap.size, 0, none⟩)), (4, .int .i64 (k : Int))] : List (Nat × Value)) (⟨rfl, rfl, trivial⟩) (n := 81) (by kernel_rfl) rfl (by kernel_rfl) hr.drew Grows.refl (StabAll.get ?_) ?_ ?_
        · repeat (first | exact trivial | refine ⟨stab_c _, ?_⟩ | refine ⟨stab_two _ _, ?_⟩ | refine ⟨fun _ _ _ _ _ _ _ => trivial, ?_⟩)
        · refine ⟨?_, ⟨?_, ⟨?_, ⟨?_, ⟨?_, ⟨?_, ⟨?_, ⟨?_, ⟨?_, ⟨?_, ⟨?_, ⟨?_, ⟨?_, ⟨?_, ⟨?_, ⟨?_, ⟨?_, ⟨?_, ⟨?_, ⟨?_, ⟨?_, ⟨?_, ⟨?_, ⟨?_, ⟨?_, ⟨?_, ⟨?_, ⟨?_, ⟨?_, ⟨?_, ⟨?_, ⟨?_, ⟨?_, ⟨?_, ⟨?_, ⟨?_, ⟨?_, ⟨?_, ⟨?_, ⟨?_, ⟨?_, ⟨?_, trivial⟩⟩⟩⟩⟩⟩⟩⟩⟩⟩⟩⟩⟩⟩⟩⟩⟩⟩⟩⟩⟩⟩⟩⟩⟩⟩⟩⟩⟩⟩⟩⟩⟩⟩⟩⟩⟩⟩⟩⟩⟩⟩
          · intro a W hS hE hD
            obtain ⟨_, x4, _⟩ := hE
            have e4 := x4 (by kernel_rfl)
            refine plan_free rfl ?_
            refine plan_value ex_move ⟨_, rfl, hS, Grows.refl _, ?_⟩
            exact e4
          · intro a W hS hE hD
            obtain ⟨x1, _, _⟩ := hE
            have e1 := x1 (by kernel_rfl)
            refine plan_free rfl ?_
            have k1 := e1
            refine plan_value (v := .pointer (some ⟨w.heap.size, 0, none⟩)) (w' := W) (by go_simp) ⟨_, rfl, hS, Grows.refl _, rfl⟩
          · intro a W hS hE hD
            have k12 : a.tmps.getD 12 undef = .pointer (some ⟨w.heap.size, 0, none⟩) := hD 1 12 (by kernel_rfl)
            have k11 : a.tmps.getD 11 undef = .int .i64 (k : Int) := hD 0 11 (by kernel_rfl)
            refine plan_free rfl ?_
            refine plan_value (v := .pointer (some ⟨w.heap.size, k, none⟩)) (w' := W) (by go_simp) ⟨_, rfl, hS, Grows.refl _, rfl⟩
          · intro a W hS hE hD
            have k13 : a.tmps.getD 13 undef = .pointer (some ⟨w.heap.size, k, none⟩) := hD 2 13 (by kernel_rfl)
            refine plan_free rfl ?_
            have hc := hS.rb.g k hlt
            refine plan_value (v := .int .i64 (gR L k)) (w' := W) (by go_simp) ⟨_, rfl, hS, Grows.refl _, rfl⟩
          · intro a W hS hE hD
            have k14 : a.tmps.getD 14 undef = .int .i64 (gR L k) := hD 3 14 (by kernel_rfl)
            refine plan_free rfl ?_
            refine plan_call (f := 45) (args := #[a.tmps.getD 14 undef]) (by kernel_rfl) ?_
            rw [k14]
            refine (num_b (gR L k) W).mono ?_
            rintro e W2 ⟨rfl, hb⟩
            refine ⟨_, rfl, _, rfl, hS.next hb, hb, ?_⟩
            show _ = _
            rw [B1.out]
          · intro a W hS hE hD
            have k15 : a.tmps.getD 15 undef = .bool true := hD 4 15 (by kernel_rfl)
            refine plan_free rfl ?_
            refine plan_value (v := .bool false) (w' := W) (by go_simp) ⟨_, rfl, hS, Grows.refl _, rfl⟩
          · intro a W hS hE hD
            have k16 : a.tmps.getD 16 undef = .bool false := hD 5 16 (by kernel_rfl)
            refine plan_free rfl ?_
            refine plan_value ex_move ⟨_, rfl, hS, Grows.refl _, ?_⟩
            exact k16
          · intro a W hS hE hD
            obtain ⟨_, x4, _⟩ := hE
            have e4 := x4 (by kernel_rfl)
            have k17 : a.tmps.getD 17 undef = .bool false := hD 6 17 (by kernel_rfl)
            refine plan_want rfl (by kernel_rfl) k17 ?_
            refine plan_value ex_move ⟨_, rfl, hS, Grows.refl _, ?_⟩
            exact e4
          · intro a W hS hE hD
            obtain ⟨x1, _, _⟩ := hE
            have e1 := x1 (by kernel_rfl)
            have k17 : a.tmps.getD 17 undef = .bool false := hD 6 17 (by kernel_rfl)
            refine plan_want rfl (by kernel_rfl) k17 ?_
            have k1 := e1
            refine plan_value (v := .pointer (some ⟨w.heap.size, 6, none⟩)) (w' := W) (by go_simp) ⟨_, rfl, hS, Grows.refl _, rfl⟩
          · intro a W hS hE hD
            have k17 : a.tmps.getD 17 undef = .bool false := hD 6 17 (by kernel_rfl)
            have k19 : a.tmps.getD 19 undef = .pointer (some ⟨w.heap.size, 6, none⟩) := hD 8 19 (by kernel_rfl)
            have k18 : a.tmps.getD 18 undef = .int .i64 (k : Int) := hD 7 18 (by kernel_rfl)
            refine plan_want rfl (by kernel_rfl) k17 ?_
            refine plan_value (v := .pointer (some ⟨w.heap.size, 6 + k, none⟩)) (w' := W) (by go_simp) ⟨_, rfl, hS, Grows.refl _, rfl⟩
          · intro a W hS hE hD
            have k17 : a.tmps.getD 17 undef = .bool false := hD 6 17 (by kernel_rfl)
            have k20 : a.tmps.getD 20 undef = .pointer (some ⟨w.heap.size, 6 + k, none⟩) := hD 9 20 (by kernel_rfl)
            refine plan_want rfl (by kernel_rfl) k17 ?_
            have hc := hS.rb.c k hlt
            refine plan_value (v := .int .i64 (cR L k)) (w' := W) (by go_simp) ⟨_, rfl, hS, Grows.refl _, rfl⟩
          · intro a W hS hE hD
            have k17 : a.tmps.getD 17 undef = .bool false := hD 6 17 (by kernel_rfl)
            have k21 : a.tmps.getD 21 undef = .int .i64 (cR L k) := hD 10 21 (by kernel_rfl)
            refine plan_want rfl (by kernel_rfl) k17 ?_
            refine plan_call (f := 45) (args := #[a.tmps.getD 21 undef]) (by kernel_rfl) ?_
            rw [k21]
            refine (num_b (cR L k) W).mono ?_
            rintro e W2 ⟨rfl, hb⟩
            refine ⟨_, rfl, _, rfl, hS.next hb, hb, ?_⟩
            show _ = _
            rw [B2.out]
          · intro a W hS hE hD
            have k17 : a.tmps.getD 17 undef = .bool false := hD 6 17 (by kernel_rfl)
            have k22 : a.tmps.getD 22 undef = .bool true := hD 11 22 (by kernel_rfl)
            refine plan_want rfl (by kernel_rfl) k17 ?_
            refine plan_value (v := .bool false) (w' := W) (by go_simp) ⟨_, rfl, hS, Grows.refl _, rfl⟩
          · intro a W hS hE hD
            have k17 : a.tmps.getD 17 undef = .bool false := hD 6 17 (by kernel_rfl)
            have k23 : a.tmps.getD 23 undef = .bool false := hD 12 23 (by kernel_rfl)
            refine plan_free rfl ?_
            refine plan_value (v := .bool false) (w' := W) (by go_simp) ⟨_, rfl, hS, Grows.refl _, rfl⟩
          · intro a W hS hE hD
            have k24 : a.tmps.getD 24 undef = .bool false := hD 13 24 (by kernel_rfl)
            refine plan_free rfl ?_
            refine plan_value ex_move ⟨_, rfl, hS, Grows.refl _, ?_⟩
            exact k24
          · intro a W hS hE hD
            obtain ⟨_, x4, _⟩ := hE
            have e4 := x4 (by kernel_rfl)
            have k25 : a.tmps.getD 25 undef = .bool false := hD 14 25 (by kernel_rfl)
            refine plan_want rfl (by kernel_rfl) k25 ?_
            refine plan_value ex_move ⟨_, rfl, hS, Grows.refl _, ?_⟩
            exact e4
          · intro a W hS hE hD
            obtain ⟨x1, _, _⟩ := hE
            have e1 := x1 (by kernel_rfl)
            have k25 : a.tmps.getD 25 undef = .bool false := hD 14 25 (by kernel_rfl)
            refine plan_want rfl (by kernel_rfl) k25 ?_
            have k1 := e1
            refine plan_value (v := .pointer (some ⟨w.heap.size, 12, none⟩)) (w' := W) (by go_simp) ⟨_, rfl, hS, Grows.refl _, rfl⟩
          · intro a W hS hE hD
            have k25 : a.tmps.getD 25 undef = .bool false := hD 14 25 (by kernel_rfl)
            have k27 : a.tmps.getD 27 undef = .pointer (some ⟨w.heap.size, 12, none⟩) := hD 16 27 (by kernel_rfl)
            have k26 : a.tmps.getD 26 undef = .int .i64 (k : Int) := hD 15 26 (by kernel_rfl)
            refine plan_want rfl (by kernel_rfl) k25 ?_
            refine plan_value (v := .pointer (some ⟨w.heap.size, 12 + k, none⟩)) (w' := W) (by go_simp) ⟨_, rfl, hS, Grows.refl _, rfl⟩
          · intro a W hS hE hD
            have k25 : a.tmps.getD 25 undef = .bool false := hD 14 25 (by kernel_rfl)
            have k28 : a.tmps.getD 28 undef = .pointer (some ⟨w.heap.size, 12 + k, none⟩) := hD 17 28 (by kernel_rfl)
            refine plan_want rfl (by kernel_rfl) k25 ?_
            have hc := hS.rb.f k hlt
            refine plan_value (v := .int .i64 (fR L k)) (w' := W) (by go_simp) ⟨_, rfl, hS, Grows.refl _, rfl⟩
          · intro a W hS hE hD
            have k25 : a.tmps.getD 25 undef = .bool false := hD 14 25 (by kernel_rfl)
            have k29 : a.tmps.getD 29 undef = .int .i64 (fR L k) := hD 18 29 (by kernel_rfl)
            refine plan_want rfl (by kernel_rfl) k25 ?_
            refine plan_call (f := 45) (args := #[a.tmps.getD 29 undef]) (by kernel_rfl) ?_
            rw [k29]
            refine (num_b (fR L k) W).mono ?_
            rintro e W2 ⟨rfl, hb⟩
            refine ⟨_, rfl, _, rfl, hS.next hb, hb, ?_⟩
            show _ = _
            rw [B3.out]
          · intro a W hS hE hD
            have k25 : a.tmps.getD 25 undef = .bool false := hD 14 25 (by kernel_rfl)
            have k30 : a.tmps.getD 30 undef = .bool true := hD 19 30 (by kernel_rfl)
            refine plan_want rfl (by kernel_rfl) k25 ?_
            refine plan_value (v := .bool false) (w' := W) (by go_simp) ⟨_, rfl, hS, Grows.refl _, rfl⟩
          · intro a W hS hE hD
            have k25 : a.tmps.getD 25 undef = .bool false := hD 14 25 (by kernel_rfl)
            have k31 : a.tmps.getD 31 undef = .bool false := hD 20 31 (by kernel_rfl)
            refine plan_free rfl ?_
            refine plan_value (v := .bool false) (w' := W) (by go_simp) ⟨_, rfl, hS, Grows.refl _, rfl⟩
          · intro a W hS hE hD
            have k32 : a.tmps.getD 32 undef = .bool false := hD 21 32 (by kernel_rfl)
            refine plan_free rfl ?_
            refine plan_value ex_move ⟨_, rfl, hS, Grows.refl _, ?_⟩
            exact k32
          · intro a W hS hE hD
            obtain ⟨_, x4, _⟩ := hE
            have e4 := x4 (by kernel_rfl)
            have k33 : a.tmps.getD 33 undef = .bool false := hD 22 33 (by kernel_rfl)
            refine plan_want rfl (by kernel_rfl) k33 ?_
            refine plan_value ex_move ⟨_, rfl, hS, Grows.refl _, ?_⟩
            exact e4
          · intro a W hS hE hD
            obtain ⟨x1, _, _⟩ := hE
            have e1 := x1 (by kernel_rfl)
            have k33 : a.tmps.getD 33 undef = .bool false := hD 22 33 (by kernel_rfl)
            refine plan_want rfl (by kernel_rfl) k33 ?_
            have k1 := e1
            refine plan_value (v := .pointer (some ⟨w.heap.size, 12, none⟩)) (w' := W) (by go_simp) ⟨_, rfl, hS, Grows.refl _, rfl⟩
          · intro a W hS hE hD
            have k33 : a.tmps.getD 33 undef = .bool false := hD 22 33 (by kernel_rfl)
            have k35 : a.tmps.getD 35 undef = .pointer (some ⟨w.heap.size, 12, none⟩) := hD 24 35 (by kernel_rfl)
            have k34 : a.tmps.getD 34 undef = .int .i64 (k : Int) := hD 23 34 (by kernel_rfl)
            refine plan_want rfl (by kernel_rfl) k33 ?_
            refine plan_value (v := .pointer (some ⟨w.heap.size, 12 + k, none⟩)) (w' := W) (by go_simp) ⟨_, rfl, hS, Grows.refl _, rfl⟩
          · intro a W hS hE hD
            have k33 : a.tmps.getD 33 undef = .bool false := hD 22 33 (by kernel_rfl)
            have k36 : a.tmps.getD 36 undef = .pointer (some ⟨w.heap.size, 12 + k, none⟩) := hD 25 36 (by kernel_rfl)
            refine plan_want rfl (by kernel_rfl) k33 ?_
            have hc := hS.rb.f k hlt
            refine plan_value (v := .int .i64 (fR L k)) (w' := W) (by go_simp) ⟨_, rfl, hS, Grows.refl _, rfl⟩
          · intro a W hS hE hD
            obtain ⟨_, x4, _⟩ := hE
            have e4 := x4 (by kernel_rfl)
            have k33 : a.tmps.getD 33 undef = .bool false := hD 22 33 (by kernel_rfl)
            refine plan_want rfl (by kernel_rfl) k33 ?_
            refine plan_value ex_move ⟨_, rfl, hS, Grows.refl _, ?_⟩
            exact e4
          · intro a W hS hE hD
            obtain ⟨x1, _, _⟩ := hE
            have e1 := x1 (by kernel_rfl)
            have k33 : a.tmps.getD 33 undef = .bool false := hD 22 33 (by kernel_rfl)
            refine plan_want rfl (by kernel_rfl) k33 ?_
            have k1 := e1
            refine plan_value (v := .pointer (some ⟨w.heap.size, 6, none⟩)) (w' := W) (by go_simp) ⟨_, rfl, hS, Grows.refl _, rfl⟩
          · intro a W hS hE hD
            have k33 : a.tmps.getD 33 undef = .bool false := hD 22 33 (by kernel_rfl)
            have k39 : a.tmps.getD 39 undef = .pointer (some ⟨w.heap.size, 6, none⟩) := hD 28 39 (by kernel_rfl)
            have k38 : a.tmps.getD 38 undef = .int .i64 (k : Int) := hD 27 38 (by kernel_rfl)
            refine plan_want rfl (by kernel_rfl) k33 ?_
            refine plan_value (v := .pointer (some ⟨w.heap.size, 6 + k, none⟩)) (w' := W) (by go_simp) ⟨_, rfl, hS, Grows.refl _, rfl⟩
          · intro a W hS hE hD
            have k33 : a.tmps.getD 33 undef = .bool false := hD 22 33 (by kernel_rfl)
            have k40 : a.tmps.getD 40 undef = .pointer (some ⟨w.heap.size, 6 + k, none⟩) := hD 29 40 (by kernel_rfl)
            refine plan_want rfl (by kernel_rfl) k33 ?_
            have hc := hS.rb.c k hlt
            refine plan_value (v := .int .i64 (cR L k)) (w' := W) (by go_simp) ⟨_, rfl, hS, Grows.refl _, rfl⟩
          · intro a W hS hE hD
            have k33 : a.tmps.getD 33 undef = .bool false := hD 22 33 (by kernel_rfl)
            have k37 : a.tmps.getD 37 undef = .int .i64 (fR L k) := hD 26 37 (by kernel_rfl)
            have k41 : a.tmps.getD 41 undef = .int .i64 (cR L k) := hD 30 41 (by kernel_rfl)
            refine plan_want rfl (by kernel_rfl) k33 ?_
            refine plan_value (v := .bool false) (w' := W) (by go_simp) ⟨_, rfl, hS, Grows.refl _, rfl⟩
          · intro a W hS hE hD
            have k33 : a.tmps.getD 33 undef = .bool false := hD 22 33 (by kernel_rfl)
            have k42 : a.tmps.getD 42 undef = .bool false := hD 31 42 (by kernel_rfl)
            refine plan_free rfl ?_
            refine plan_value (v := .bool false) (w' := W) (by go_simp) ⟨_, rfl, hS, Grows.refl _, rfl⟩
          · intro a W hS hE hD
            have k43 : a.tmps.getD 43 undef = .bool false := hD 32 43 (by kernel_rfl)
            refine plan_free rfl ?_
            refine plan_value ex_move ⟨_, rfl, hS, Grows.refl _, ?_⟩
            exact k43
          · intro a W hS hE hD
            obtain ⟨_, x4, _⟩ := hE
            have e4 := x4 (by kernel_rfl)
            have k44 : a.tmps.getD 44 undef = .bool false := hD 33 44 (by kernel_rfl)
            refine plan_want rfl (by kernel_rfl) k44 ?_
            refine plan_value ex_move ⟨_, rfl, hS, Grows.refl _, ?_⟩
            exact e4
          · intro a W hS hE hD
            obtain ⟨_, x4, _⟩ := hE
            have e4 := x4 (by kernel_rfl)
            have k44 : a.tmps.getD 44 undef = .bool false := hD 33 44 (by kernel_rfl)
            refine plan_want rfl (by kernel_rfl) k44 ?_
            refine plan_value ex_move ⟨_, rfl, hS, Grows.refl _, ?_⟩
            exact e4
          · intro a W hS hE hD
            obtain ⟨x1, _, _⟩ := hE
            have e1 := x1 (by kernel_rfl)
            have k44 : a.tmps.getD 44 undef = .bool false := hD 33 44 (by kernel_rfl)
            refine plan_want rfl (by kernel_rfl) k44 ?_
            have k1 := e1
            refine plan_value (v := .pointer (some ⟨w.heap.size, 18, none⟩)) (w' := W) (by go_simp) ⟨_, rfl, hS, Grows.refl _, rfl⟩
          · intro a W hS hE hD
            have k44 : a.tmps.getD 44 undef = .bool false := hD 33 44 (by kernel_rfl)
            have k47 : a.tmps.getD 47 undef = .pointer (some ⟨w.heap.size, 18, none⟩) := hD 36 47 (by kernel_rfl)
            have k45 : a.tmps.getD 45 undef = .int .i64 (k : Int) := hD 34 45 (by kernel_rfl)
            refine plan_want rfl (by kernel_rfl) k44 ?_
            refine plan_value (v := .pointer (some ⟨w.heap.size, 18 + k * 6, none⟩)) (w' := W) (by go_simp) ⟨_, rfl, hS, Grows.refl _, rfl⟩
          · intro a W hS hE hD
            have k44 : a.tmps.getD 44 undef = .bool false := hD 33 44 (by kernel_rfl)
            have k48 : a.tmps.getD 48 undef = .pointer (some ⟨w.heap.size, 18 + k * 6, none⟩) := hD 37 48 (by kernel_rfl)
            have k46 : a.tmps.getD 46 undef = .int .i64 (k : Int) := hD 35 46 (by kernel_rfl)
            refine plan_want rfl (by kernel_rfl) k44 ?_
            refine plan_value (v := .pointer (some ⟨w.heap.size, 18 + k * 6 + k, none⟩)) (w' := W) (by go_simp) ⟨_, rfl, hS, Grows.refl _, rfl⟩
          · intro a W hS hE hD
            have k44 : a.tmps.getD 44 undef = .bool false := hD 33 44 (by kernel_rfl)
            have k49 : a.tmps.getD 49 undef = .pointer (some ⟨w.heap.size, 18 + k * 6 + k, none⟩) := hD 38 49 (by kernel_rfl)
            refine plan_want rfl (by kernel_rfl) k44 ?_
            have hc := hS.rb.r k k hlt hlt
            refine plan_value (v := .int .i64 (rR L k k)) (w' := W) (by go_simp) ⟨_, rfl, hS, Grows.refl _, rfl⟩
          · intro a W hS hE hD
            have k44 : a.tmps.getD 44 undef = .bool false := hD 33 44 (by kernel_rfl)
            have k50 : a.tmps.getD 50 undef = .int .i64 (rR L k k) := hD 39 50 (by kernel_rfl)
            refine plan_want rfl (by kernel_rfl) k44 ?_
            refine plan_value (v := .bool true) (w' := W) (by go_simp) ⟨_, rfl, hS, Grows.refl _, rfl⟩
          · intro a W hS hE hD
            have k44 : a.tmps.getD 44 undef = .bool false := hD 33 44 (by kernel_rfl)
            have k51 : a.tmps.getD 51 undef = .bool true := hD 40 51 (by kernel_rfl)
            refine plan_free rfl ?_
            refine plan_value (v := .bool true) (w' := W) (by go_simp) ⟨_, rfl, hS, Grows.refl _, rfl⟩
        · intro f w5 V5 hE
          have f52 : f 52 = .bool true := Ends.get hE 41 _ rfl 52 rfl
          clear hE
          simp only [setAll, List.setIfInBounds_toArray, List.set_cons_zero, List.set_cons_succ]
          rw [f52]; clear f52
          go_wp2_with fail
          go_ret
          exact ⟨by rw [MV.out]; rfl, V5.bel⟩
      have ROW : Hid ((rowR L k).all amtB = true → rowOK L k = true) := fun h => by
        unfold rowOK; rw [B0.out, h, decide_eq_true hd, decide_eq_true (by omega : fR L k ≤ cR L k)]; rfl
      have NOR : Hid ((rowR L k).all amtB = false → mayR L = false) := fun h => may_row hlt (by unfold rowOK; rw [h, Bool.false_and, Bool.and_false])
      refine wp_region_plan (fun W => RS w W w.heap.size L) Grows [IsV (.int .i64 (k : Int)), IsV (.pointer (some ⟨w.heap.size, 0, none⟩)), IsV (.pointer (some ⟨w.heap.size, k, none⟩)), IsV (.int .i64 (gR L k)), IsV (.bool true), IsV (.bool false), IsV (.bool false), IsV (.int .i64 (k : Int)), IsV (.pointer (some ⟨w.heap.size, 6, none⟩)), IsV (.pointer (some ⟨w.heap.size, 6 + k, none⟩)), IsV (.int .i64 (cR L k)), IsV (.bool true), IsV (.bool false), IsV (.bool false), IsV (.bool false), IsV (.int .i64 (k : Int)), IsV (.pointer (some ⟨w.heap.size, 12, none⟩)), IsV (.pointer (some ⟨w.heap.size, 12 + k, none⟩)), IsV (.int .i64 (fR L k)), IsV (.bool true), IsV (.bool false), IsV (.bool false), IsV (.bool false), IsV (.int .i64 (k : Int)), IsV (.pointer (some ⟨w.heap.size, 12, none⟩)), IsV (.pointer (some ⟨w.heap.size, 12 + k, none⟩)), IsV (.int .i64 (fR L k)), IsV (.int .i64 (k : Int)), IsV (.pointer (some ⟨w.heap.size, 6, none⟩)), IsV (.pointer (some ⟨w.heap.size, 6 + k, none⟩)), IsV (.int .i64 (cR L k)), IsV (.bool false), IsV (.bool false), IsV (.bool false), IsV (.int .i64 (k : Int)), IsV (.int .i64 (k : Int)), IsV (.pointer (some ⟨w.heap.size, 18, none⟩)), IsV (.pointer (some ⟨w.heap.size, 18 + k * 6, none⟩)), IsV (.pointer (some ⟨w.heap.size, 18 + k * 6 + k, none⟩)), IsV (.int .i64 (rR L k k)), IsV (.bool false), IsV (.bool false)] ([(1, .pointer (some ⟨w.heap.size, 0, none⟩)), (4, .int .i64 (k : Int))] : List (Nat × Value)) (⟨rfl, rfl, trivial⟩) (n := 81) (by kernel_rfl) rfl (by kernel_rfl) hr.drew Grows.refl (StabAll.get ?_) ?_ ?_
      · repeat (first | exact trivial | refine ⟨stab_c _, ?_⟩ | refine ⟨stab_two _ _, ?_⟩ | refine ⟨fun _ _ _ _ _ _ _ => trivial, ?_⟩)
      · refine ⟨?_, ⟨?_, ⟨?_, ⟨?_, ⟨?_, ⟨?_, ⟨?_, ⟨?_, ⟨?_, ⟨?_, ⟨?_, ⟨?_, ⟨?_, ⟨?_, ⟨?_, ⟨?_, ⟨?_, ⟨?_, ⟨?_, ⟨?_, ⟨?_, ⟨?_, ⟨?_, ⟨?_, ⟨?_, ⟨?_, ⟨?_, ⟨?_, ⟨?_, ⟨?_, ⟨?_, ⟨?_, ⟨?_, ⟨?_, ⟨?_, ⟨?_, ⟨?_, ⟨?_, ⟨?_, ⟨?_, ⟨?_, ⟨?_, trivial⟩⟩⟩⟩⟩⟩⟩⟩⟩⟩⟩⟩⟩⟩⟩⟩⟩⟩⟩⟩⟩⟩⟩⟩⟩⟩⟩⟩⟩⟩⟩⟩⟩⟩⟩⟩⟩⟩⟩⟩⟩⟩
        · intro a W hS hE hD
          obtain ⟨_, x4, _⟩ := hE
          have e4 := x4 (by kernel_rfl)
          refine plan_free rfl ?_
          refine plan_value ex_move ⟨_, rfl, hS, Grows.refl _, ?_⟩
          exact e4
        · intro a W hS hE hD
          obtain ⟨x1, _, _⟩ := hE
          have e1 := x1 (by kernel_rfl)
          refine plan_free rfl ?_
          have k1 := e1
          refine plan_value (v := .pointer (some ⟨w.heap.size, 0, none⟩)) (w' := W) (by go_simp) ⟨_, rfl, hS, Grows.refl _, rfl⟩
        · intro a W hS hE hD
          have k12 : a.tmps.getD 12 undef = .pointer (some ⟨w.heap.size, 0, none⟩) := hD 1 12 (by kernel_rfl)
          have k11 : a.tmps.getD 11 undef = .int .i64 (k : Int) := hD 0 11 (by kernel_rfl)
          refine plan_free rfl ?_
          refine plan_value (v := .pointer (some ⟨w.heap.size, k, none⟩)) (w' := W) (by go_simp) ⟨_, rfl, hS, Grows.refl _, rfl⟩
        · intro a W hS hE hD
          have k13 : a.tmps.getD 13 undef = .pointer (some ⟨w.heap.size, k, none⟩) := hD 2 13 (by kernel_rfl)
          refine plan_free rfl ?_
          have hc := hS.rb.g k hlt
          refine plan_value (v := .int .i64 (gR L k)) (w' := W) (by go_simp) ⟨_, rfl, hS, Grows.refl _, rfl⟩
        · intro a W hS hE hD
          have k14 : a.tmps.getD 14 undef = .int .i64 (gR L k) := hD 3 14 (by kernel_rfl)
          refine plan_free rfl ?_
          refine plan_call (f := 45) (args := #[a.tmps.getD 14 undef]) (by kernel_rfl) ?_
          rw [k14]
          refine (num_b (gR L k) W).mono ?_
          rintro e W2 ⟨rfl, hb⟩
          refine ⟨_, rfl, _, rfl, hS.next hb, hb, ?_⟩
          show _ = _
          rw [B1.out]
        · intro a W hS hE hD
          have k15 : a.tmps.getD 15 undef = .bool true := hD 4 15 (by kernel_rfl)
          refine plan_free rfl ?_
          refine plan_value (v := .bool false) (w' := W) (by go_simp) ⟨_, rfl, hS, Grows.refl _, rfl⟩
        · intro a W hS hE hD
          have k16 : a.tmps.getD 16 undef = .bool false := hD 5 16 (by kernel_rfl)
          refine plan_free rfl ?_
          refine plan_value ex_move ⟨_, rfl, hS, Grows.refl _, ?_⟩
          exact k16
        · intro a W hS hE hD
          obtain ⟨_, x4, _⟩ := hE
          have e4 := x4 (by kernel_rfl)
          have k17 : a.tmps.getD 17 undef = .bool false := hD 6 17 (by kernel_rfl)
          refine plan_want rfl (by kernel_rfl) k17 ?_
          refine plan_value ex_move ⟨_, rfl, hS, Grows.refl _, ?_⟩
          exact e4
        · intro a W hS hE hD
          obtain ⟨x1, _, _⟩ := hE
          have e1 := x1 (by kernel_rfl)
          have k17 : a.tmps.getD 17 undef = .bool false := hD 6 17 (by kernel_rfl)
          refine plan_want rfl (by kernel_rfl) k17 ?_
          have k1 := e1
          refine plan_value (v := .pointer (some ⟨w.heap.size, 6, none⟩)) (w' := W) (by go_simp) ⟨_, rfl, hS, Grows.refl _, rfl⟩
        · intro a W hS hE hD
          have k17 : a.tmps.getD 17 undef = .bool false := hD 6 17 (by kernel_rfl)
          have k19 : a.tmps.getD 19 undef = .pointer (some ⟨w.heap.size, 6, none⟩) := hD 8 19 (by kernel_rfl)
          have k18 : a.tmps.getD 18 undef = .int .i64 (k : Int) := hD 7 18 (by kernel_rfl)
          refine plan_want rfl (by kernel_rfl) k17 ?_
          refine plan_value (v := .pointer (some ⟨w.heap.size, 6 + k, none⟩)) (w' := W) (by go_simp) ⟨_, rfl, hS, Grows.refl _, rfl⟩
        · intro a W hS hE hD
          have k17 : a.tmps.getD 17 undef = .bool false := hD 6 17 (by kernel_rfl)
          have k20 : a.tmps.getD 20 undef = .pointer (some ⟨w.heap.size, 6 + k, none⟩) := hD 9 20 (by kernel_rfl)
          refine plan_want rfl (by kernel_rfl) k17 ?_
          have hc := hS.rb.c k hlt
          refine plan_value (v := .int .i64 (cR L k)) (w' := W) (by go_simp) ⟨_, rfl, hS, Grows.refl _, rfl⟩
        · intro a W hS hE hD
          have k17 : a.tmps.getD 17 undef = .bool false := hD 6 17 (by kernel_rfl)
          have k21 : a.tmps.getD 21 undef = .int .i64 (cR L k) := hD 10 21 (by kernel_rfl)
          refine plan_want rfl (by kernel_rfl) k17 ?_
          refine plan_call (f := 45) (args := #[a.tmps.getD 21 undef]) (by kernel_rfl) ?_
          rw [k21]
          refine (num_b (cR L k) W).mono ?_
          rintro e W2 ⟨rfl, hb⟩
          refine ⟨_, rfl, _, rfl, hS.next hb, hb, ?_⟩
          show _ = _
          rw [B2.out]
        · intro a W hS hE hD
          have k17 : a.tmps.getD 17 undef = .bool false := hD 6 17 (by kernel_rfl)
          have k22 : a.tmps.getD 22 undef = .bool true := hD 11 22 (by kernel_rfl)
          refine plan_want rfl (by kernel_rfl) k17 ?_
          refine plan_value (v := .bool false) (w' := W) (by go_simp) ⟨_, rfl, hS, Grows.refl _, rfl⟩
        · intro a W hS hE hD
          have k17 : a.tmps.getD 17 undef = .bool false := hD 6 17 (by kernel_rfl)
          have k23 : a.tmps.getD 23 undef = .bool false := hD 12 23 (by kernel_rfl)
          refine plan_free rfl ?_
          refine plan_value (v := .bool false) (w' := W) (by go_simp) ⟨_, rfl, hS, Grows.refl _, rfl⟩
        · intro a W hS hE hD
          have k24 : a.tmps.getD 24 undef = .bool false := hD 13 24 (by kernel_rfl)
          refine plan_free rfl ?_
          refine plan_value ex_move ⟨_, rfl, hS, Grows.refl _, ?_⟩
          exact k24
        · intro a W hS hE hD
          obtain ⟨_, x4, _⟩ := hE
          have e4 := x4 (by kernel_rfl)
          have k25 : a.tmps.getD 25 undef = .bool false := hD 14 25 (by kernel_rfl)
          refine plan_want rfl (by kernel_rfl) k25 ?_
          refine plan_value ex_move ⟨_, rfl, hS, Grows.refl _, ?_⟩
          exact e4
        · intro a W hS hE hD
          obtain ⟨x1, _, _⟩ := hE
          have e1 := x1 (by kernel_rfl)
          have k25 : a.tmps.getD 25 undef = .bool false := hD 14 25 (by kernel_rfl)
          refine plan_want rfl (by kernel_rfl) k25 ?_
          have k1 := e1
          refine plan_value (v := .pointer (some ⟨w.heap.size, 12, none⟩)) (w' := W) (by go_simp) ⟨_, rfl, hS, Grows.refl _, rfl⟩
        · intro a W hS hE hD
          have k25 : a.tmps.getD 25 undef = .bool false := hD 14 25 (by kernel_rfl)
          have k27 : a.tmps.getD 27 undef = .pointer (some ⟨w.heap.size, 12, none⟩) := hD 16 27 (by kernel_rfl)
          have k26 : a.tmps.getD 26 undef = .int .i64 (k : Int) := hD 15 26 (by kernel_rfl)
          refine plan_want rfl (by kernel_rfl) k25 ?_
          refine plan_value (v := .pointer (some ⟨w.heap.size, 12 + k, none⟩)) (w' := W) (by go_simp) ⟨_, rfl, hS, Grows.refl _, rfl⟩
        · intro a W hS hE hD
          have k25 : a.tmps.getD 25 undef = .bool false := hD 14 25 (by kernel_rfl)
          have k28 : a.tmps.getD 28 undef = .pointer (some ⟨w.heap.size, 12 + k, none⟩) := hD 17 28 (by kernel_rfl)
          refine plan_want rfl (by kernel_rfl) k25 ?_
          have hc := hS.rb.f k hlt
          refine plan_value (v := .int .i64 (fR L k)) (w' := W) (by go_simp) ⟨_, rfl, hS, Grows.refl _, rfl⟩
        · intro a W hS hE hD
          have k25 : a.tmps.getD 25 undef = .bool false := hD 14 25 (by kernel_rfl)
          have k29 : a.tmps.getD 29 undef = .int .i64 (fR L k) := hD 18 29 (by kernel_rfl)
          refine plan_want rfl (by kernel_rfl) k25 ?_
          refine plan_call (f := 45) (args := #[a.tmps.getD 29 undef]) (by kernel_rfl) ?_
          rw [k29]
          refine (num_b (fR L k) W).mono ?_
          rintro e W2 ⟨rfl, hb⟩
          refine ⟨_, rfl, _, rfl, hS.next hb, hb, ?_⟩
          show _ = _
          rw [B3.out]
        · intro a W hS hE hD
          have k25 : a.tmps.getD 25 undef = .bool false := hD 14 25 (by kernel_rfl)
          have k30 : a.tmps.getD 30 undef = .bool true := hD 19 30 (by kernel_rfl)
          refine plan_want rfl (by kernel_rfl) k25 ?_
          refine plan_value (v := .bool false) (w' := W) (by go_simp) ⟨_, rfl, hS, Grows.refl _, rfl⟩
        · intro a W hS hE hD
          have k25 : a.tmps.getD 25 undef = .bool false := hD 14 25 (by kernel_rfl)
          have k31 : a.tmps.getD 31 undef = .bool false := hD 20 31 (by kernel_rfl)
          refine plan_free rfl ?_
          refine plan_value (v := .bool false) (w' := W) (by go_simp) ⟨_, rfl, hS, Grows.refl _, rfl⟩
        · intro a W hS hE hD
          have k32 : a.tmps.getD 32 undef = .bool false := hD 21 32 (by kernel_rfl)
          refine plan_free rfl ?_
          refine plan_value ex_move ⟨_, rfl, hS, Grows.refl _, ?_⟩
          exact k32
        · intro a W hS hE hD
          obtain ⟨_, x4, _⟩ := hE
          have e4 := x4 (by kernel_rfl)
          have k33 : a.tmps.getD 33 undef = .bool false := hD 22 33 (by kernel_rfl)
          refine plan_want rfl (by kernel_rfl) k33 ?_
          refine plan_value ex_move ⟨_, rfl, hS, Grows.refl _, ?_⟩
          exact e4
        · intro a W hS hE hD
          obtain ⟨x1, _, _⟩ := hE
          have e1 := x1 (by kernel_rfl)
          have k33 : a.tmps.getD 33 undef = .bool false := hD 22 33 (by kernel_rfl)
          refine plan_want rfl (by kernel_rfl) k33 ?_
          have k1 := e1
          refine plan_value (v := .pointer (some ⟨w.heap.size, 12, none⟩)) (w' := W) (by go_simp) ⟨_, rfl, hS, Grows.refl _, rfl⟩
        · intro a W hS hE hD
          have k33 : a.tmps.getD 33 undef = .bool false := hD 22 33 (by kernel_rfl)
          have k35 : a.tmps.getD 35 undef = .pointer (some ⟨w.heap.size, 12, none⟩) := hD 24 35 (by kernel_rfl)
          have k34 : a.tmps.getD 34 undef = .int .i64 (k : Int) := hD 23 34 (by kernel_rfl)
          refine plan_want rfl (by kernel_rfl) k33 ?_
          refine plan_value (v := .pointer (some ⟨w.heap.size, 12 + k, none⟩)) (w' := W) (by go_simp) ⟨_, rfl, hS, Grows.refl _, rfl⟩
        · intro a W hS hE hD
          have k33 : a.tmps.getD 33 undef = .bool false := hD 22 33 (by kernel_rfl)
          have k36 : a.tmps.getD 36 undef = .pointer (some ⟨w.heap.size, 12 + k, none⟩) := hD 25 36 (by kernel_rfl)
          refine plan_want rfl (by kernel_rfl) k33 ?_
          have hc := hS.rb.f k hlt
          refine plan_value (v := .int .i64 (fR L k)) (w' := W) (by go_simp) ⟨_, rfl, hS, Grows.refl _, rfl⟩
        · intro a W hS hE hD
          obtain ⟨_, x4, _⟩ := hE
          have e4 := x4 (by kernel_rfl)
          have k33 : a.tmps.getD 33 undef = .bool false := hD 22 33 (by kernel_rfl)
          refine plan_want rfl (by kernel_rfl) k33 ?_
          refine plan_value ex_move ⟨_, rfl, hS, Grows.refl _, ?_⟩
          exact e4
        · intro a W hS hE hD
          obtain ⟨x1, _, _⟩ := hE
          have e1 := x1 (by kernel_rfl)
          have k33 : a.tmps.getD 33 undef = .bool false := hD 22 33 (by kernel_rfl)
          refine plan_want rfl (by kernel_rfl) k33 ?_
          have k1 := e1
          refine plan_value (v := .pointer (some ⟨w.heap.size, 6, none⟩)) (w' := W) (by go_simp) ⟨_, rfl, hS, Grows.refl _, rfl⟩
        · intro a W hS hE hD
          have k33 : a.tmps.getD 33 undef = .bool false := hD 22 33 (by kernel_rfl)
          have k39 : a.tmps.getD 39 undef = .pointer (some ⟨w.heap.size, 6, none⟩) := hD 28 39 (by kernel_rfl)
          have k38 : a.tmps.getD 38 undef = .int .i64 (k : Int) := hD 27 38 (by kernel_rfl)
          refine plan_want rfl (by kernel_rfl) k33 ?_
          refine plan_value (v := .pointer (some ⟨w.heap.size, 6 + k, none⟩)) (w' := W) (by go_simp) ⟨_, rfl, hS, Grows.refl _, rfl⟩
        · intro a W hS hE hD
          have k33 : a.tmps.getD 33 undef = .bool false := hD 22 33 (by kernel_rfl)
          have k40 : a.tmps.getD 40 undef = .pointer (some ⟨w.heap.size, 6 + k, none⟩) := hD 29 40 (by kernel_rfl)
          refine plan_want rfl (by kernel_rfl) k33 ?_
          have hc := hS.rb.c k hlt
          refine plan_value (v := .int .i64 (cR L k)) (w' := W) (by go_simp) ⟨_, rfl, hS, Grows.refl _, rfl⟩
        · intro a W hS hE hD
          have k33 : a.tmps.getD 33 undef = .bool false := hD 22 33 (by kernel_rfl)
          have k37 : a.tmps.getD 37 undef = .int .i64 (fR L k) := hD 26 37 (by kernel_rfl)
          have k41 : a.tmps.getD 41 undef = .int .i64 (cR L k) := hD 30 41 (by kernel_rfl)
          refine plan_want rfl (by kernel_rfl) k33 ?_
          refine plan_value (v := .bool false) (w' := W) (by go_simp) ⟨_, rfl, hS, Grows.refl _, rfl⟩
        · intro a W hS hE hD
          have k33 : a.tmps.getD 33 undef = .bool false := hD 22 33 (by kernel_rfl)
          have k42 : a.tmps.getD 42 undef = .bool false := hD 31 42 (by kernel_rfl)
          refine plan_free rfl ?_
          refine plan_value (v := .bool false) (w' := W) (by go_simp) ⟨_, rfl, hS, Grows.refl _, rfl⟩
        · intro a W hS hE hD
          have k43 : a.tmps.getD 43 undef = .bool false := hD 32 43 (by kernel_rfl)
          refine plan_free rfl ?_
          refine plan_value ex_move ⟨_, rfl, hS, Grows.refl _, ?_⟩
          exact k43
        · intro a W hS hE hD
          obtain ⟨_, x4, _⟩ := hE
          have e4 := x4 (by kernel_rfl)
          have k44 : a.tmps.getD 44 undef = .bool false := hD 33 44 (by kernel_rfl)
          refine plan_want rfl (by kernel_rfl) k44 ?_
          refine plan_value ex_move ⟨_, rfl, hS, Grows.refl _, ?_⟩
          exact e4
        · intro a W hS hE hD
          obtain ⟨_, x4, _⟩ := hE
          have e4 := x4 (by kernel_rfl)
          have k44 : a.tmps.getD 44 undef = .bool false := hD 33 44 (by kernel_rfl)
          refine plan_want rfl (by kernel_rfl) k44 ?_
          refine plan_value ex_move ⟨_, rfl, hS, Grows.refl _, ?_⟩
          exact e4
        · intro a W hS hE hD
          obtain ⟨x1, _, _⟩ := hE
          have e1 := x1 (by kernel_rfl)
          have k44 : a.tmps.getD 44 undef = .bool false := hD 33 44 (by kernel_rfl)
          refine plan_want rfl (by kernel_rfl) k44 ?_
          have k1 := e1
          refine plan_value (v := .pointer (some ⟨w.heap.size, 18, none⟩)) (w' := W) (by go_simp) ⟨_, rfl, hS, Grows.refl _, rfl⟩
        · intro a W hS hE hD
          have k44 : a.tmps.getD 44 undef = .bool false := hD 33 44 (by kernel_rfl)
          have k47 : a.tmps.getD 47 undef = .pointer (some ⟨w.heap.size, 18, none⟩) := hD 36 47 (by kernel_rfl)
          have k45 : a.tmps.getD 45 undef = .int .i64 (k : Int) := hD 34 45 (by kernel_rfl)
          refine plan_want rfl (by kernel_rfl) k44 ?_
          refine plan_value (v := .pointer (some ⟨w.heap.size, 18 + k * 6, none⟩)) (w' := W) (by go_simp) ⟨_, rfl, hS, Grows.refl _, rfl⟩
        · intro a W hS hE hD
          have k44 : a.tmps.getD 44 undef = .bool false := hD 33 44 (by kernel_rfl)
          have k48 : a.tmps.getD 48 undef = .pointer (some ⟨w.heap.size, 18 + k * 6, none⟩) := hD 37 48 (by kernel_rfl)
          have k46 : a.tmps.getD 46 undef = .int .i64 (k : Int) := hD 35 46 (by kernel_rfl)
          refine plan_want rfl (by kernel_rfl) k44 ?_
          refine plan_value (v := .pointer (some ⟨w.heap.size, 18 + k * 6 + k, none⟩)) (w' := W) (by go_simp) ⟨_, rfl, hS, Grows.refl _, rfl⟩
        · intro a W hS hE hD
          have k44 : a.tmps.getD 44 undef = .bool false := hD 33 44 (by kernel_rfl)
          have k49 : a.tmps.getD 49 undef = .pointer (some ⟨w.heap.size, 18 + k * 6 + k, none⟩) := hD 38 49 (by kernel_rfl)
          refine plan_want rfl (by kernel_rfl) k44 ?_
          have hc := hS.rb.r k k hlt hlt
          refine plan_value (v := .int .i64 (rR L k k)) (w' := W) (by go_simp) ⟨_, rfl, hS, Grows.refl _, rfl⟩
        · intro a W hS hE hD
          have k44 : a.tmps.getD 44 undef = .bool false := hD 33 44 (by kernel_rfl)
          have k50 : a.tmps.getD 50 undef = .int .i64 (rR L k k) := hD 39 50 (by kernel_rfl)
          refine plan_want rfl (by kernel_rfl) k44 ?_
          refine plan_value (v := .bool false) (w' := W) (by go_simp) ⟨_, rfl, hS, Grows.refl _, rfl⟩
        · intro a W hS hE hD
          have k44 : a.tmps.getD 44 undef = .bool false := hD 33 44 (by kernel_rfl)
          have k51 : a.tmps.getD 51 undef = .bool false := hD 40 51 (by kernel_rfl)
          refine plan_free rfl ?_
          refine plan_value (v := .bool false) (w' := W) (by go_simp) ⟨_, rfl, hS, Grows.refl _, rfl⟩
      · intro f w5 V5 hE
        have f52 : f 52 = .bool false := Ends.get hE 41 _ rfl 52 rfl
        clear hE
        simp only [setAll, List.setIfInBounds_toArray, List.set_cons_zero, List.set_cons_succ]
        rw [f52]; clear f52
        have hc := V5.rb.g k hlt
        have AG := B1.out
        rw [amtB_iff] at AG
        have HS2 := HSUM.out
        generalize gR L k = x at hc AG ST
        have a1 := AG.1
        have a2 := AG.2
        have AG2 := Lib.hid AG
        have V6 := Lib.hid V5
        clear AG HS2 hd hf V5
        go_wp2_with fail
        clear hc
        go_loopw [5] (fun v wr => ∃ j : Nat, j ≤ 6 ∧ v = .int .i64 (j : Int) ∧ RowTo L k j ∧ RS w wr w.heap.size L) (fun v _ => 6 - (intOf v).toNat)
        case atStart => exact ⟨0, by omega, rfl, (fun j hj => by omega), V6.out⟩
        case round =>
          obtain ⟨j, hj, rfl, hrow, hr⟩ := hrel
          by_cases hlj : j < 6
          · have hj0 : (0 : Int) ≤ (j : Int) := by omega
            have hj6 : (j : Int) < 6 := by omega
            have hc := hr.rb.r k j hlt hlj
            have NUM := Lib.hid (num_b (rR L k j) wr)
            have HR := Lib.hid hr
            have HROW := Lib.hid hrow
            cases hbj : amtB (rR L k j)
            case false =>
              have MV := Lib.hid (NOR.out (row_no hlj hbj))
              rw [hbj] at NUM
              generalize rR L k j = y at hc NUM
              clear hrow hr hbj
              go_wp2_with fail
              refine NUM.out.mono ?_
              rintro e w7 ⟨rfl, hb⟩
              have VF := (HR.out.next hb).bel
              clear hb
              go_wp2_with fail
              go_ret
              exact ⟨by rw [MV.out]; rfl, VF⟩
            case true =>
              have STP := Lib.hid (hrow.step hbj)
              rw [hbj] at NUM
              generalize rR L k j = y at hc NUM
              clear hrow hr hbj
              go_wp2_with fail
              refine NUM.out.mono ?_
              rintro e w7 ⟨rfl, hb⟩
              have VF := Lib.hid (HR.out.next hb)
              clear hb
              go_wp2_with fail
              go_roundw
              case rel => exact ⟨j + 1, by omega, by go_num, STP.out, VF.out⟩
              case measure => simp [intOf]; omega
          · obtain rfl : j = 6 := by omega
            have OK := Lib.hid (ROW.out hrow.all)
            have HR := Lib.hid hr
            clear hrow hr
            go_wp2_with fail
            go_roundw
            case rel => exact ⟨k + 1, by omega, by go_num, by rw [ST.out], hok.step OK.out, ⟨by rw [ST.out]; have := HSUM.out; have := AG2.out; omega, by rw [ST.out]; have := HSUM.out; have := AG2.out; push_cast; omega⟩, HR.out⟩
            case measure => simp [intOf]; omega
    · obtain rfl : k = 6 := by omega
      have AM := Lib.hid (amt_of hok)
      have OK6 := Lib.hid hok
      have LIM : Hid (sumTo (gR L) 6 = limitR L) := rfl
      rw [LIM.out, show ((6 : Nat) : Int) = 6 from rfl]
      clear hsum hok
      go_wp2_with fail
      go_loopw [6] (fun v wr => ∃ k : Nat, k ≤ 6 ∧ v = .int .i64 ((k : Int) + 1) ∧ LfTo L k ∧ RS w wr w.heap.size L) (fun v _ => 7 - (intOf v).toNat)
      case atStart => exact ⟨0, by omega, rfl, rfl, hr⟩
      case round =>
        clear hr
        obtain ⟨k, hk, rfl, hlf, hr⟩ := hrel
        by_cases hlt2 : k < 6
        · have hk6 : (k : Int) + 1 ≤ 6 := by omega
          have hk0 : (0 : Int) ≤ (k : Int) := by omega
          have l1 := run_loadR hr.rb
          have HLF := Lib.hid hlf
          have MV : Hid (¬ 0 ≤ leftR L k → mayR L = false) := fun h => may_lf hlt2 h
          have LFT := Lib.hid (r7local_any L H54.out AM.out k hlt2 wr)
          have ST : Hid (0 ≤ leftR L k → LfTo L (k + 1)) := fun h => hlf.step h
          clear hlf
          generalize leftR L k = x at MV LFT ST
          by_cases hx : 0 ≤ x
          · have hx' : ¬ x < 0 := by omega
            go_wp2_with (go_at_call 46; refine LFT.out.mono ?_; rintro e w2 ⟨rfl, hb⟩; have hr2 := hr.next hb; clear hb)
            go_roundw
            case rel => exact ⟨k + 1, by omega, by go_num, ST.out hx, hr2⟩
            case measure => simp [intOf]; omega
          · have hx' : x < 0 := by omega
            go_wp2_with (go_at_call 46; refine LFT.out.mono ?_; rintro e w2 ⟨rfl, hb⟩; have hr2 := hr.next hb; clear hb)
            go_ret
            exact ⟨by rw [MV.out hx]; rfl, hr2.bel⟩
        · obtain rfl : k = 6 := by omega
          have MV := Lib.hid (may_sum OK6.out hlf)
          have HR := Lib.hid hr
          have h7 : ¬ (((6 : Nat) : Int) + 1 ≤ 6) := by omega
          clear hlf hr
          go_wp2_with fail
          go_ret
          exact ⟨by rw [MV.out]; rfl, HR.out.bel⟩
end Go.Proofs.Ytmddbpkojboogaa
