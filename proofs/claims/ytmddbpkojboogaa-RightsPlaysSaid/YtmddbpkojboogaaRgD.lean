import Derived.Test.YtmddbpkojboogaaRgC
namespace Go.Proofs.Ytmddbpkojboogaa
open Go.RowKit
/-! rights: May. -/
attribute [local go_sem ↓] exec_loadR exec_storeR
set_option maxRecDepth 100000 in
set_option maxHeartbeats 2000000 in
theorem mayR_any (L : List Int) (h : L.length = 54) (w : World) :
    Calls Try.prog 23 #[.agg (rgtA L)] w fun e w' => e = .returned (.bool (mayR L)) ∧ Below w.heap.size w w' := by
  have hb : RS w (w.alloc (.cells (rgtA L) 42)) w.heap.size L := ⟨RB.new w h, (Below.refl w.heap.size w).alloc (Nat.le_refl _) (.cells (rgtA L) 42)⟩
  have H54 := Lib.hid h
  clear h
  go_enter Try.func23, Try.ntmps23
  go_wp2_with fail
  generalize w.alloc (.cells (rgtA L) 42) = W1 at hb
  go_loopw [3, 6] (fun s v wr => ∃ k : Nat, k ≤ 6 ∧ v = .int .i64 (k : Int) ∧ s = .int .i64 (sumTo (gR L) k) ∧ OkTo L k ∧ (0 ≤ sumTo (gR L) k ∧ sumTo (gR L) k ≤ 1125899906842624 * k) ∧ RS w wr w.heap.size L) (fun _ v _ => 6 - (intOf v).toNat)
  case atStart => exact ⟨0, by omega, rfl, rfl, rfl, ⟨by simp [sumTo], by simp [sumTo]⟩, hb⟩
  case round =>
    clear hb
    obtain ⟨k, hk, rfl, rfl, hok, hsum, hr⟩ := hrel
    by_cases hlt : k < 6
    · have hk0 : (0 : Int) ≤ (k : Int) := by omega
      have hk6 : (k : Int) < 6 := by omega
      have ST : Hid (sumTo (gR L) (k + 1) = sumTo (gR L) k + gR L k) := rfl
      have hs1 := hsum.1
      have hs2 : sumTo (gR L) k ≤ 6755399441055744 := by have := hsum.2; omega
      have HSUM := Lib.hid hsum
      generalize sumTo (gR L) k = s at ST hs1 hs2 HSUM
      clear hsum
      go_wp2_with fail
      cases hb1 : [gR L k, cR L k, fR L k].all amtB
      case false =>
        have MV := Lib.hid (may_row hlt (by unfold rowOK; rw [hb1]; rfl))
        have B1 := Lib.hid hb1
        clear hb1
        refine wp_region_plan (fun W => RS w W w.heap.size L) Grows [IsV (.int .i64 (k : Int)), IsV (.pointer (some ⟨w.heap.size, 0, none⟩)), IsV (.pointer (some ⟨w.heap.size, k, none⟩)), IsV (.int .i64 (gR L k)), IsV (.int .i64 (k : Int)), IsV (.pointer (some ⟨w.heap.size, 6, none⟩)), IsV (.pointer (some ⟨w.heap.size, 6 + k, none⟩)), IsV (.int .i64 (cR L k)), IsV (.int .i64 (k : Int)), IsV (.pointer (some ⟨w.heap.size, 12, none⟩)), IsV (.pointer (some ⟨w.heap.size, 12 + k, none⟩)), IsV (.int .i64 (fR L k)), IntsV [gR L k, cR L k, fR L k], IsV (.bool false), IsV (.bool true), IsV (.bool true), IsV (undef), IsV (undef), IsV (undef), IsV (undef), IsV (undef), IsV (undef), IsV (.bool true), IsV (.bool true), IsV (undef), IsV (undef), IsV (undef), IsV (undef), IsV (undef), IsV (undef), IsV (undef), IsV (.bool true), IsV (.bool true), IsV (undef), IsV (undef), IsV (undef), IsV (undef), IsV (undef), IsV (undef), IsV (undef), IsV (undef), IsV (undef), IsV (.bool true)] ([(1, .pointer (some ⟨w.heap.size, 0, none⟩)), (4, .int .i64 (k : Int))] : List (Nat × Value)) (⟨rfl, rfl, trivial⟩) (n := 69) (by kernel_rfl) rfl (by kernel_rfl) hr.drew Grows.refl (StabAll.get ?_) ?_ ?_
        · repeat (first | exact trivial | refine ⟨stab_c _, ?_⟩ | refine ⟨stab_two _ _, ?_⟩ | refine ⟨stab_ints _, ?_⟩ | refine ⟨fun _ _ _ _ _ _ _ => trivial, ?_⟩)
        · refine ⟨?_, ⟨?_, ⟨?_, ⟨?_, ⟨?_, ⟨?_, ⟨?_, ⟨?_, ⟨?_, ⟨?_, ⟨?_, ⟨?_, ⟨?_, ⟨?_, ⟨?_, ⟨?_, ⟨?_, ⟨?_, ⟨?_, ⟨?_, ⟨?_, ⟨?_, ⟨?_, ⟨?_, ⟨?_, ⟨?_, ⟨?_, ⟨?_, ⟨?_, ⟨?_, ⟨?_, ⟨?_, ⟨?_, ⟨?_, ⟨?_, ⟨?_, ⟨?_, ⟨?_, ⟨?_, ⟨?_, ⟨?_, ⟨?_, ⟨?_, trivial⟩⟩⟩⟩⟩⟩⟩⟩⟩⟩⟩⟩⟩⟩⟩⟩⟩⟩⟩⟩⟩⟩⟩⟩⟩⟩⟩⟩⟩⟩⟩⟩⟩⟩⟩⟩⟩⟩⟩⟩⟩⟩⟩
          · intro a W hS hE hD
            obtain ⟨_, x4, _⟩ := hE
            have e4 := x4 (by kernel_rfl)
            refine plan_free rfl ?_
            refine plan_value ex_move ⟨_, rfl, hS, Grows.refl _, ?_⟩
            exact e4
          · intro a W hS hE hD
            obtain ⟨x1, _, _⟩ := hE
            have e1 := x1 (by kernel_rfl)
            refine plan_free rfl ?_
            have k1 := e1
            refine plan_value (v := .pointer (some ⟨w.heap.size, 0, none⟩)) (w' := W) (by go_simp) ⟨_, rfl, hS, Grows.refl _, rfl⟩
          · intro a W hS hE hD
            have k10 : a.tmps.getD 10 undef = .pointer (some ⟨w.heap.size, 0, none⟩) := hD 1 10 (by kernel_rfl)
            have k9 : a.tmps.getD 9 undef = .int .i64 (k : Int) := hD 0 9 (by kernel_rfl)
            refine plan_free rfl ?_
            refine plan_value (v := .pointer (some ⟨w.heap.size, k, none⟩)) (w' := W) (by go_simp) ⟨_, rfl, hS, Grows.refl _, rfl⟩
          · intro a W hS hE hD
            have k11 : a.tmps.getD 11 undef = .pointer (some ⟨w.heap.size, k, none⟩) := hD 2 11 (by kernel_rfl)
            refine plan_free rfl ?_
            have hc := hS.rb.g k hlt
            refine plan_value (v := .int .i64 (gR L k)) (w' := W) (by go_simp) ⟨_, rfl, hS, Grows.refl _, rfl⟩
          · intro a W hS hE hD
            obtain ⟨_, x4, _⟩ := hE
            have e4 := x4 (by kernel_rfl)
            refine plan_free rfl ?_
            refine plan_value ex_move ⟨_, rfl, hS, Grows.refl _, ?_⟩
            exact e4
          · intro a W hS hE hD
            obtain ⟨x1, _, _⟩ := hE
            have e1 := x1 (by kernel_rfl)
            refine plan_free rfl ?_
            have k1 := e1
            refine plan_value (v := .pointer (some ⟨w.heap.size, 6, none⟩)) (w' := W) (by go_simp) ⟨_, rfl, hS, Grows.refl _, rfl⟩
          · intro a W hS hE hD
            have k14 : a.tmps.getD 14 undef = .pointer (some ⟨w.heap.size, 6, none⟩) := hD 5 14 (by kernel_rfl)
            have k13 : a.tmps.getD 13 undef = .int .i64 (k : Int) := hD 4 13 (by kernel_rfl)
            refine plan_free rfl ?_
            refine plan_value (v := .pointer (some ⟨w.heap.size, 6 + k, none⟩)) (w' := W) (by go_simp) ⟨_, rfl, hS, Grows.refl _, rfl⟩
          · intro a W hS hE hD
            have k15 : a.tmps.getD 15 undef = .pointer (some ⟨w.heap.size, 6 + k, none⟩) := hD 6 15 (by kernel_rfl)
            refine plan_free rfl ?_
            have hc := hS.rb.c k hlt
            refine plan_value (v := .int .i64 (cR L k)) (w' := W) (by go_simp) ⟨_, rfl, hS, Grows.refl _, rfl⟩
          · intro a W hS hE hD
            obtain ⟨_, x4, _⟩ := hE
            have e4 := x4 (by kernel_rfl)
            refine plan_free rfl ?_
            refine plan_value ex_move ⟨_, rfl, hS, Grows.refl _, ?_⟩
            exact e4
          · intro a W hS hE hD
            obtain ⟨x1, _, _⟩ := hE
            have e1 := x1 (by kernel_rfl)
            refine plan_free rfl ?_
            have k1 := e1
            refine plan_value (v := .pointer (some ⟨w.heap.size, 12, none⟩)) (w' := W) (by go_simp) ⟨_, rfl, hS, Grows.refl _, rfl⟩
          · intro a W hS hE hD
            have k18 : a.tmps.getD 18 undef = .pointer (some ⟨w.heap.size, 12, none⟩) := hD 9 18 (by kernel_rfl)
            have k17 : a.tmps.getD 17 undef = .int .i64 (k : Int) := hD 8 17 (by kernel_rfl)
            refine plan_free rfl ?_
            refine plan_value (v := .pointer (some ⟨w.heap.size, 12 + k, none⟩)) (w' := W) (by go_simp) ⟨_, rfl, hS, Grows.refl _, rfl⟩
          · intro a W hS hE hD
            have k19 : a.tmps.getD 19 undef = .pointer (some ⟨w.heap.size, 12 + k, none⟩) := hD 10 19 (by kernel_rfl)
            refine plan_free rfl ?_
            have hc := hS.rb.f k hlt
            refine plan_value (v := .int .i64 (fR L k)) (w' := W) (by go_simp) ⟨_, rfl, hS, Grows.refl _, rfl⟩
          · intro a W hS hE hD
            have k12 : a.tmps.getD 12 undef = .int .i64 (gR L k) := hD 3 12 (by kernel_rfl)
            have k16 : a.tmps.getD 16 undef = .int .i64 (cR L k) := hD 7 16 (by kernel_rfl)
            have k20 : a.tmps.getD 20 undef = .int .i64 (fR L k) := hD 11 20 (by kernel_rfl)
            refine plan_free rfl ?_
            refine plan_value (ex_build3 k12 k16 k20) ⟨_, rfl, hS.alloc _, Grows.alloc _ _, ⟨_, _, _, rfl, rfl, ints_const W [gR L k, cR L k, fR L k] 2 (0, 0)⟩⟩
          · intro a W hS hE hD
            obtain ⟨A21, n21, c21, k21, l21, b21⟩ : IntsV [gR L k, cR L k, fR L k] (a.tmps.getD 21 undef) W := hD 12 21 (by kernel_rfl)
            refine plan_free rfl ?_
            refine plan_call (f := 43) (args := #[a.tmps.getD 21 undef]) (by kernel_rfl) ?_
            rw [k21]
            refine (amounts_b A21 n21 c21 [gR L k, cR L k, fR L k] W b21 l21 (by rw [l21]; show 3 ≤ _; omega)).mono ?_
            rintro e W2 ⟨rfl, hb⟩
            refine ⟨_, rfl, _, rfl, hS.next hb, hb, ?_⟩
            show _ = _
            rw [B1.out]
          · intro a W hS hE hD
            have k22 : a.tmps.getD 22 undef = .bool false := hD 13 22 (by kernel_rfl)
            refine plan_free rfl ?_
            refine plan_value (v := .bool true) (w' := W) (by go_simp) ⟨_, rfl, hS, Grows.refl _, rfl⟩
          · intro a W hS hE hD
            have k23 : a.tmps.getD 23 undef = .bool true := hD 14 23 (by kernel_rfl)
            refine plan_free rfl ?_
            refine plan_value ex_move ⟨_, rfl, hS, Grows.refl _, ?_⟩
            exact k23
          · intro a W hS hE hD
            have k24 : a.tmps.getD 24 undef = .bool true := hD 15 24 (by kernel_rfl)
            refine plan_skip rfl (by kernel_rfl) k24 rfl ?_
            exact rfl
          · intro a W hS hE hD
            have k24 : a.tmps.getD 24 undef = .bool true := hD 15 24 (by kernel_rfl)
            refine plan_skip rfl (by kernel_rfl) k24 rfl ?_
            exact rfl
          · intro a W hS hE hD
            have k24 : a.tmps.getD 24 undef = .bool true := hD 15 24 (by kernel_rfl)
            refine plan_skip rfl (by kernel_rfl) k24 rfl ?_
            exact rfl
          · intro a W hS hE hD
            have k24 : a.tmps.getD 24 undef = .bool true := hD 15 24 (by kernel_rfl)
            refine plan_skip rfl (by kernel_rfl) k24 rfl ?_
            exact rfl
          · intro a W hS hE hD
            have k24 : a.tmps.getD 24 undef = .bool true := hD 15 24 (by kernel_rfl)
            refine plan_skip rfl (by kernel_rfl) k24 rfl ?_
            exact rfl
          · intro a W hS hE hD
            have k24 : a.tmps.getD 24 undef = .bool true := hD 15 24 (by kernel_rfl)
            refine plan_skip rfl (by kernel_rfl) k24 rfl ?_
            exact rfl
          · intro a W hS hE hD
            have k24 : a.tmps.getD 24 undef = .bool true := hD 15 24 (by kernel_rfl)
            have k30 : a.tmps.getD 30 undef = undef := hD 21 30 (by kernel_rfl)
            refine plan_free rfl ?_
            refine plan_value (v := .bool true) (w' := W) (by go_simp) ⟨_, rfl, hS, Grows.refl _, rfl⟩
          · intro a W hS hE hD
            have k31 : a.tmps.getD 31 undef = .bool true := hD 22 31 (by kernel_rfl)
            refine plan_free rfl ?_
            refine plan_value ex_move ⟨_, rfl, hS, Grows.refl _, ?_⟩
            exact k31
          · intro a W hS hE hD
            have k32 : a.tmps.getD 32 undef = .bool true := hD 23 32 (by kernel_rfl)
            refine plan_skip rfl (by kernel_rfl) k32 rfl ?_
            exact rfl
          · intro a W hS hE hD
            have k32 : a.tmps.getD 32 undef = .bool true := hD 23 32 (by kernel_rfl)
            refine plan_skip rfl (by kernel_rfl) k32 rfl ?_
            exact rfl
          · intro a W hS hE hD
            have k32 : a.tmps.getD 32 undef = .bool true := hD 23 32 (by kernel_rfl)
            refine plan_skip rfl (by kernel_rfl) k32 rfl ?_
            exact rfl
          · intro a W hS hE hD
            have k32 : a.tmps.getD 32 undef = .bool true := hD 23 32 (by kernel_rfl)
            refine plan_skip rfl (by kernel_rfl) k32 rfl ?_
            exact rfl
          · intro a W hS hE hD
            have k32 : a.tmps.getD 32 undef = .bool true := hD 23 32 (by kernel_rfl)
            refine plan_skip rfl (by kernel_rfl) k32 rfl ?_
            exact rfl
          · intro a W hS hE hD
            have k32 : a.tmps.getD 32 undef = .bool true := hD 23 32 (by kernel_rfl)
            refine plan_skip rfl (by kernel_rfl) k32 rfl ?_
            exact rfl
          · intro a W hS hE hD
            have k32 : a.tmps.getD 32 undef = .bool true := hD 23 32 (by kernel_rfl)
            refine plan_skip rfl (by kernel_rfl) k32 rfl ?_
            exact rfl
          · intro a W hS hE hD
            have k32 : a.tmps.getD 32 undef = .bool true := hD 23 32 (by kernel_rfl)
            have k39 : a.tmps.getD 39 undef = undef := hD 30 39 (by kernel_rfl)
            refine plan_free rfl ?_
            refine plan_value (v := .bool true) (w' := W) (by go_simp) ⟨_, rfl, hS, Grows.refl _, rfl⟩
          · intro a W hS hE hD
            have k40 : a.tmps.getD 40 undef = .bool true := hD 31 40 (by kernel_rfl)
            refine plan_free rfl ?_
            refine plan_value ex_move ⟨_, rfl, hS, Grows.refl _, ?_⟩
            exact k40
          · intro a W hS hE hD
            have k41 : a.tmps.getD 41 undef = .bool true := hD 32 41 (by kernel_rfl)
            refine plan_skip rfl (by kernel_rfl) k41 rfl ?_
            exact rfl
          · intro a W hS hE hD
            have k41 : a.tmps.getD 41 undef = .bool true := hD 32 41 (by kernel_rfl)
            refine plan_skip rfl (by kernel_rfl) k41 rfl ?_
            exact rfl
          · intro a W hS hE hD
            have k41 : a.tmps.getD 41 undef = .bool true := hD 32 41 (by kernel_rfl)
            refine plan_skip rfl (by kernel_rfl) k41 rfl ?_
            exact rfl
          · intro a W hS hE hD
            have k41 : a.tmps.getD 41 undef = .bool true := hD 32 41 (by kernel_rfl)
            refine plan_skip rfl (by kernel_rfl) k41 rfl ?_
            exact rfl
          · intro a W hS hE hD
            have k41 : a.tmps.getD 41 undef = .bool true := hD 32 41 (by kernel_rfl)
            refine plan_skip rfl (by kernel_rfl) k41 rfl ?_
            exact rfl
          · intro a W hS hE hD
            have k41 : a.tmps.getD 41 undef = .bool true := hD 32 41 (by kernel_rfl)
            refine plan_skip rfl (by kernel_rfl) k41 rfl ?_
            exact rfl
          · intro a W hS hE hD
            have k41 : a.tmps.getD 41 undef = .bool true := hD 32 41 (by kernel_rfl)
            refine plan_skip rfl (by kernel_rfl) k41 rfl ?_
            exact rfl
          · intro a W hS hE hD
            have k41 : a.tmps.getD 41 undef = .bool true := hD 32 41 (by kernel_rfl)
            refine plan_skip rfl (by kernel_rfl) k41 rfl ?_
            exact rfl
          · intro a W hS hE hD
            have k41 : a.tmps.getD 41 undef = .bool true := hD 32 41 (by kernel_rfl)
            refine plan_skip rfl (by kernel_rfl) k41 rfl ?_
            exact rfl
          · intro a W hS hE hD
            have k41 : a.tmps.getD 41 undef = .bool true := hD 32 41 (by kernel_rfl)
            have k50 : a.tmps.getD 50 undef = undef := hD 41 50 (by kernel_rfl)
            refine plan_free rfl ?_
            refine plan_value (v := .bool true) (w' := W) (by go_simp) ⟨_, rfl, hS, Grows.refl _, rfl⟩
        · intro f w5 V5 hE
          have f51 : f 51 = .bool true := Ends.get hE 42 _ rfl 51 rfl
          clear hE
          simp only [setAll, List.setIfInBounds_toArray, List.set_cons_zero, List.set_cons_succ]
          rw [f51]; clear f51
          go_wp2_with fail
          go_ret
          exact ⟨by rw [MV.out]; rfl, V5.bel⟩
      case true =>
        have B1 := Lib.hid hb1
        clear hb1
        cases hb2 : (rowR L k).all amtB
        case false =>
          have MV := Lib.hid (may_row hlt (by unfold rowOK; rw [B1.out, hb2]; rfl))
          have B2 := Lib.hid hb2
          clear hb2
          refine wp_region_plan (fun W => RS w W w.heap.size L) Grows [IsV (.int .i64 (k : Int)), IsV (.pointer (some ⟨w.heap.size, 0, none⟩)), IsV (.pointer (some ⟨w.heap.size, k, none⟩)), IsV (.int .i64 (gR L k)), IsV (.int .i64 (k : Int)), IsV (.pointer (some ⟨w.heap.size, 6, none⟩)), IsV (.pointer (some ⟨w.heap.size, 6 + k, none⟩)), IsV (.int .i64 (cR L k)), IsV (.int .i64 (k : Int)), IsV (.pointer (some ⟨w.heap.size, 12, none⟩)), IsV (.pointer (some ⟨w.heap.size, 12 + k, none⟩)), IsV (.int .i64 (fR L k)), IntsV [gR L k, cR L k, fR L k], IsV (.bool true), IsV (.bool false), IsV (.bool false), IsV (.int .i64 (k : Int)), IsV (.pointer (some ⟨w.heap.size, 18, none⟩)), IsV (.pointer (some ⟨w.heap.size, 18 + k * 6, none⟩)), IntsV (rowR L k), IsV (.bool false), IsV (.bool true), IsV (.bool true), IsV (.bool true), IsV (undef), IsV (undef), IsV (undef), IsV (undef), IsV (undef), IsV (undef), IsV (undef), IsV (.bool true), IsV (.bool true), IsV (undef), IsV (undef), IsV (undef), IsV (undef), IsV (undef), IsV (undef), IsV (undef), IsV (undef), IsV (undef), IsV (.bool true)] ([(1, .pointer (some ⟨w.heap.size, 0, none⟩)), (4, .int .i64 (k : Int))] : List (Nat × Value)) (⟨rfl, rfl, trivial⟩) (n := 69) (by kernel_rfl) rfl (by kernel_rfl) hr.drew Grows.refl (StabAll.get ?_) ?_ ?_
          · repeat (first | exact trivial | refine ⟨stab_c _, ?_⟩ | refine ⟨stab_two _ _, ?_⟩ | refine ⟨stab_ints _, ?_⟩ | refine ⟨fun _ _ _ _ _ _ _ => trivial, ?_⟩)
          · refine ⟨?_, ⟨?_, ⟨?_, ⟨?_, ⟨?_, ⟨?_, ⟨?_, ⟨?_, ⟨?_, ⟨?_, ⟨?_, ⟨?_, ⟨?_, ⟨?_, ⟨?_, ⟨?_, ⟨?_, ⟨?_, ⟨?_, ⟨?_, ⟨?_, ⟨?_, ⟨?_, ⟨?_, ⟨?_, ⟨?_, ⟨?_, ⟨?_, ⟨?_, ⟨?_, ⟨?_, ⟨?_, ⟨?_, ⟨?_, ⟨?_, ⟨?_, ⟨?_, ⟨?_, ⟨?_, ⟨?_, ⟨?_, ⟨?_, ⟨?_, trivial⟩⟩⟩⟩⟩⟩⟩⟩⟩⟩⟩⟩⟩⟩⟩⟩⟩⟩⟩⟩⟩⟩⟩⟩⟩⟩⟩⟩⟩⟩⟩⟩⟩⟩⟩⟩⟩⟩⟩⟩⟩⟩⟩
            · intro a W hS hE hD
              obtain ⟨_, x4, _⟩ := hE
              have e4 := x4 (by kernel_rfl)
              refine plan_free rfl ?_
              refine plan_value ex_move ⟨_, rfl, hS, Grows.refl _, ?_⟩
              exact e4
            · intro a W hS hE hD
              obtain ⟨x1, _, _⟩ := hE
              have e1 := x1 (by kernel_rfl)
              refine plan_free rfl ?_
              have k1 := e1
              refine plan_value (v := .pointer (some ⟨w.heap.size, 0, none⟩)) (w' := W) (by go_simp) ⟨_, rfl, hS, Grows.refl _, rfl⟩
            · intro a W hS hE hD
              have k10 : a.tmps.getD 10 undef = .pointer (some ⟨w.heap.size, 0, none⟩) := hD 1 10 (by kernel_rfl)
              have k9 : a.tmps.getD 9 undef = .int .i64 (k : Int) := hD 0 9 (by kernel_rfl)
              refine plan_free rfl ?_
              refine plan_value (v := .pointer (some ⟨w.heap.size, k, none⟩)) (w' := W) (by go_simp) ⟨_, rfl, hS, Grows.refl _, rfl⟩
            · intro a W hS hE hD
              have k11 : a.tmps.getD 11 undef = .pointer (some ⟨w.heap.size, k, none⟩) := hD 2 11 (by kernel_rfl)
              refine plan_free rfl ?_
              have hc := hS.rb.g k hlt
              refine plan_value (v := .int .i64 (gR L k)) (w' := W) (by go_simp) ⟨_, rfl, hS, Grows.refl _, rfl⟩
            · intro a W hS hE hD
              obtain ⟨_, x4, _⟩ := hE
              have e4 := x4 (by kernel_rfl)
              refine plan_free rfl ?_
              refine plan_value ex_move ⟨_, rfl, hS, Grows.refl _, ?_⟩
              exact e4
            · intro a W hS hE hD
              obtain ⟨x1, _, _⟩ := hE
              have e1 := x1 (by kernel_rfl)
              refine plan_free rfl ?_
              have k1 := e1
              refine plan_value (v := .pointer (some ⟨w.heap.size, 6, none⟩)) (w' := W) (by go_simp) ⟨_, rfl, hS, Grows.refl _, rfl⟩
            · intro a W hS hE hD
              have k14 : a.tmps.getD 14 undef = .pointer (some ⟨w.heap.size, 6, none⟩) := hD 5 14 (by kernel_rfl)
              have k13 : a.tmps.getD 13 undef = .int .i64 (k : Int) := hD 4 13 (by kernel_rfl)
              refine plan_free rfl ?_
              refine plan_value (v := .pointer (some ⟨w.heap.size, 6 + k, none⟩)) (w' := W) (by go_simp) ⟨_, rfl, hS, Grows.refl _, rfl⟩
            · intro a W hS hE hD
              have k15 : a.tmps.getD 15 undef = .pointer (some ⟨w.heap.size, 6 + k, none⟩) := hD 6 15 (by kernel_rfl)
              refine plan_free rfl ?_
              have hc := hS.rb.c k hlt
              refine plan_value (v := .int .i64 (cR L k)) (w' := W) (by go_simp) ⟨_, rfl, hS, Grows.refl _, rfl⟩
            · intro a W hS hE hD
              obtain ⟨_, x4, _⟩ := hE
              have e4 := x4 (by kernel_rfl)
              refine plan_free rfl ?_
              refine plan_value ex_move ⟨_, rfl, hS, Grows.refl _, ?_⟩
              exact e4
            · intro a W hS hE hD
              obtain ⟨x1, _, _⟩ := hE
              have e1 := x1 (by kernel_rfl)
              refine plan_free rfl ?_
              have k1 := e1
              refine plan_value (v := .pointer (some ⟨w.heap.size, 12, none⟩)) (w' := W) (by go_simp) ⟨_, rfl, hS, Grows.refl _, rfl⟩
            · intro a W hS hE hD
              have k18 : a.tmps.getD 18 undef = .pointer (some ⟨w.heap.size, 12, none⟩) := hD 9 18 (by kernel_rfl)
              have k17 : a.tmps.getD 17 undef = .int .i64 (k : Int) := hD 8 17 (by kernel_rfl)
              refine plan_free rfl ?_
              refine plan_value (v := .pointer (some ⟨w.heap.size, 12 + k, none⟩)) (w' := W) (by go_simp) ⟨_, rfl, hS, Grows.refl _, rfl⟩
            · intro a W hS hE hD
              have k19 : a.tmps.getD 19 undef = .pointer (some ⟨w.heap.size, 12 + k, none⟩) := hD 10 19 (by kernel_rfl)
              refine plan_free rfl ?_
              have hc := hS.rb.f k hlt
              refine plan_value (v := .int .i64 (fR L k)) (w' := W) (by go_simp) ⟨_, rfl, hS, Grows.refl _, rfl⟩
            · intro a W hS hE hD
              have k12 : a.tmps.getD 12 undef = .int .i64 (gR L k) := hD 3 12 (by kernel_rfl)
              have k16 : a.tmps.getD 16 undef = .int .i64 (cR L k) := hD 7 16 (by kernel_rfl)
              have k20 : a.tmps.getD 20 undef = .int .i64 (fR L k) := hD 11 20 (by kernel_rfl)
              refine plan_free rfl ?_
              refine plan_value (ex_build3 k12 k16 k20) ⟨_, rfl, hS.alloc _, Grows.alloc _ _, ⟨_, _, _, rfl, rfl, ints_const W [gR L k, cR L k, fR L k] 2 (0, 0)⟩⟩
            · intro a W hS hE hD
              obtain ⟨A21, n21, c21, k21, l21, b21⟩ : IntsV [gR L k, cR L k, fR L k] (a.tmps.getD 21 undef) W := hD 12 21 (by kernel_rfl)
              refine plan_free rfl ?_
              refine plan_call (f := 43) (args := #[a.tmps.getD 21 undef]) (by kernel_rfl) ?_
              rw [k21]
              refine (amounts_b A21 n21 c21 [gR L k, cR L k, fR L k] W b21 l21 (by rw [l21]; show 3 ≤ _; omega)).mono ?_
              rintro e W2 ⟨rfl, hb⟩
              refine ⟨_, rfl, _, rfl, hS.next hb, hb, ?_⟩
              show _ = _
              rw [B1.out]
            · intro a W hS hE hD
              have k22 : a.tmps.getD 22 undef = .bool true := hD 13 22 (by kernel_rfl)
              refine plan_free rfl ?_
              refine plan_value (v := .bool false) (w' := W) (by go_simp) ⟨_, rfl, hS, Grows.refl _, rfl⟩
            · intro a W hS hE hD
              have k23 : a.tmps.getD 23 undef = .bool false := hD 14 23 (by kernel_rfl)
              refine plan_free rfl ?_
              refine plan_value ex_move ⟨_, rfl, hS, Grows.refl _, ?_⟩
              exact k23
            · intro a W hS hE hD
              obtain ⟨_, x4, _⟩ := hE
              have e4 := x4 (by kernel_rfl)
              have k24 : a.tmps.getD 24 undef = .bool false := hD 15 24 (by kernel_rfl)
              refine plan_want rfl (by kernel_rfl) k24 ?_
              refine plan_value ex_move ⟨_, rfl, hS, Grows.refl _, ?_⟩
              exact e4
            · intro a W hS hE hD
              obtain ⟨x1, _, _⟩ := hE
              have e1 := x1 (by kernel_rfl)
              have k24 : a.tmps.getD 24 undef = .bool false := hD 15 24 (by kernel_rfl)
              refine plan_want rfl (by kernel_rfl) k24 ?_
              have k1 := e1
              refine plan_value (v := .pointer (some ⟨w.heap.size, 18, none⟩)) (w' := W) (by go_simp) ⟨_, rfl, hS, Grows.refl _, rfl⟩
            · intro a W hS hE hD
              have k24 : a.tmps.getD 24 undef = .bool false := hD 15 24 (by kernel_rfl)
              have k26 : a.tmps.getD 26 undef = .pointer (some ⟨w.heap.size, 18, none⟩) := hD 17 26 (by kernel_rfl)
              have k25 : a.tmps.getD 25 undef = .int .i64 (k : Int) := hD 16 25 (by kernel_rfl)
              refine plan_want rfl (by kernel_rfl) k24 ?_
              refine plan_value (v := .pointer (some ⟨w.heap.size, 18 + k * 6, none⟩)) (w' := W) (by go_simp) ⟨_, rfl, hS, Grows.refl _, rfl⟩
            · intro a W hS hE hD
              have k24 : a.tmps.getD 24 undef = .bool false := hD 15 24 (by kernel_rfl)
              have k27 : a.tmps.getD 27 undef = .pointer (some ⟨w.heap.size, 18 + k * 6, none⟩) := hD 18 27 (by kernel_rfl)
              refine plan_want rfl (by kernel_rfl) k24 ?_
              refine plan_value (v := .slice (some ⟨w.heap.size, 18 + k * 6, none⟩) 6 6) (w' := W) (by go_simp) ⟨_, rfl, hS, Grows.refl _, ⟨_, _, _, rfl, rfl, hS.rb.row k hlt⟩⟩
            · intro a W hS hE hD
              have k24 : a.tmps.getD 24 undef = .bool false := hD 15 24 (by kernel_rfl)
              obtain ⟨A28, n28, c28, k28, l28, b28⟩ : IntsV (rowR L k) (a.tmps.getD 28 undef) W := hD 19 28 (by kernel_rfl)
              refine plan_want rfl (by kernel_rfl) k24 ?_
              refine plan_call (f := 43) (args := #[a.tmps.getD 28 undef]) (by kernel_rfl) ?_
              rw [k28]
              refine (amounts_b A28 n28 c28 (rowR L k) W b28 l28 (by rw [l28]; show 6 ≤ _; omega)).mono ?_
              rintro e W2 ⟨rfl, hb⟩
              refine ⟨_, rfl, _, rfl, hS.next hb, hb, ?_⟩
              show _ = _
              rw [B2.out]
            · intro a W hS hE hD
              have k24 : a.tmps.getD 24 undef = .bool false := hD 15 24 (by kernel_rfl)
              have k29 : a.tmps.getD 29 undef = .bool false := hD 20 29 (by kernel_rfl)
              refine plan_want rfl (by kernel_rfl) k24 ?_
              refine plan_value (v := .bool true) (w' := W) (by go_simp) ⟨_, rfl, hS, Grows.refl _, rfl⟩
            · intro a W hS hE hD
              have k24 : a.tmps.getD 24 undef = .bool false := hD 15 24 (by kernel_rfl)
              have k30 : a.tmps.getD 30 undef = .bool true := hD 21 30 (by kernel_rfl)
              refine plan_free rfl ?_
              refine plan_value (v := .bool true) (w' := W) (by go_simp) ⟨_, rfl, hS, Grows.refl _, rfl⟩
            · intro a W hS hE hD
              have k31 : a.tmps.getD 31 undef = .bool true := hD 22 31 (by kernel_rfl)
              refine plan_free rfl ?_
              refine plan_value ex_move ⟨_, rfl, hS, Grows.refl _, ?_⟩
              exact k31
            · intro a W hS hE hD
              have k32 : a.tmps.getD 32 undef = .bool true := hD 23 32 (by kernel_rfl)
              refine plan_skip rfl (by kernel_rfl) k32 rfl ?_
              exact rfl
            · intro a W hS hE hD
              have k32 : a.tmps.getD 32 undef = .bool true := hD 23 32 (by kernel_rfl)
              refine plan_skip rfl (by kernel_rfl) k32 rfl ?_
              exact rfl
            · intro a W hS hE hD
              have k32 : a.tmps.getD 32 undef = .bool true := hD 23 32 (by kernel_rfl)
              refine plan_skip rfl (by kernel_rfl) k32 rfl ?_
              exact rfl
            · intro a W hS hE hD
              have k32 : a.tmps.getD 32 undef = .bool true := hD 23 32 (by kernel_rfl)
              refine plan_skip rfl (by kernel_rfl) k32 rfl ?_
              exact rfl
            · intro a W hS hE hD
              have k32 : a.tmps.getD 32 undef = .bool true := hD 23 32 (by kernel_rfl)
              refine plan_skip rfl (by kernel_rfl) k32 rfl ?_
              exact rfl
            · intro a W hS hE hD
              have k32 : a.tmps.getD 32 undef = .bool true := hD 23 32 (by kernel_rfl)
              refine plan_skip rfl (by kernel_rfl) k32 rfl ?_
              exact rfl
            · intro a W hS hE hD
              have k32 : a.tmps.getD 32 undef = .bool true := hD 23 32 (by kernel_rfl)
              refine plan_skip rfl (by kernel_rfl) k32 rfl ?_
              exact rfl
            · intro a W hS hE hD
              have k32 : a.tmps.getD 32 undef = .bool true := hD 23 32 (by kernel_rfl)
              have k39 : a.tmps.getD 39 undef = undef := hD 30 39 (by kernel_rfl)
              refine plan_free rfl ?_
              refine plan_value (v := .bool true) (w' := W) (by go_simp) ⟨_, rfl, hS, Grows.refl _, rfl⟩
            · intro a W hS hE hD
              have k40 : a.tmps.getD 40 undef = .bool true := hD 31 40 (by kernel_rfl)
              refine plan_free rfl ?_
              refine plan_value ex_move ⟨_, rfl, hS, Grows.refl _, ?_⟩
              exact k40
            · intro a W hS hE hD
              have k41 : a.tmps.getD 41 undef = .bool true := hD 32 41 (by kernel_rfl)
              refine plan_skip rfl (by kernel_rfl) k41 rfl ?_
              exact rfl
            · intro a W hS hE hD
              have k41 : a.tmps.getD 41 undef = .bool true := hD 32 41 (by kernel_rfl)
              refine plan_skip rfl (by kernel_rfl) k41 rfl ?_
              exact rfl
            · intro a W hS hE hD
              have k41 : a.tmps.getD 41 undef = .bool true := hD 32 41 (by kernel_rfl)
              refine plan_skip rfl (by kernel_rfl) k41 rfl ?_
              exact rfl
            · intro a W hS hE hD
              have k41 : a.tmps.getD 41 undef = .bool true := hD 32 41 (by kernel_rfl)
              refine plan_skip rfl (by kernel_rfl) k41 rfl ?_
              exact rfl
            · intro a W hS hE hD
              have k41 : a.tmps.getD 41 undef = .bool true := hD 32 41 (by kernel_rfl)
              refine plan_skip rfl (by kernel_rfl) k41 rfl ?_
              exact rfl
            · intro a W hS hE hD
              have k41 : a.tmps.getD 41 undef = .bool true := hD 32 41 (by kernel_rfl)
              refine plan_skip rfl (by kernel_rfl) k41 rfl ?_
              exact rfl
            · intro a W hS hE hD
              have k41 : a.tmps.getD 41 undef = .bool true := hD 32 41 (by kernel_rfl)
              refine plan_skip rfl (by kernel_rfl) k41 rfl ?_
              exact rfl
            · intro a W hS hE hD
              have k41 : a.tmps.getD 41 undef = .bool true := hD 32 41 (by kernel_rfl)
              refine plan_skip rfl (by kernel_rfl) k41 rfl ?_
              exact rfl
            · intro a W hS hE hD
              have k41 : a.tmps.getD 41 undef = .bool true := hD 32 41 (by kernel_rfl)
              refine plan_skip rfl (by kernel_rfl) k41 rfl ?_
              exact rfl
            · intro a W hS hE hD
              have k41 : a.tmps.getD 41 undef = .bool true := hD 32 41 (by kernel_rfl)
              have k50 : a.tmps.getD 50 undef = undef := hD 41 50 (by kernel_rfl)
              refine plan_free rfl ?_
              refine plan_value (v := .bool true) (w' := W) (by go_simp) ⟨_, rfl, hS, Grows.refl _, rfl⟩
          · intro f w5 V5 hE
            have f51 : f 51 = .bool true := Ends.get hE 42 _ rfl 51 rfl
            clear hE
            simp only [setAll, List.setIfInBounds_toArray, List.set_cons_zero, List.set_cons_succ]
            rw [f51]; clear f51
            go_wp2_with fail
            go_ret
            exact ⟨by rw [MV.out]; rfl, V5.bel⟩
        case true =>
          have B2 := Lib.hid hb2
          clear hb2
          by_cases hd : rR L k k = 0
          · by_cases hf : cR L k < fR L k
            · have MV := Lib.hid (may_row hlt (by unfold rowOK; rw [B1.out, B2.out, decide_eq_false (by omega : ¬ fR L k ≤ cR L k), Bool.and_false]; rfl))
              refine wp_region_plan (fun W => RS w W w.heap.size L) Grows [IsV (.int .i64 (k : Int)), IsV (.pointer (some ⟨w.heap.size, 0, none⟩)), IsV (.pointer (some ⟨w.heap.size, k, none⟩)), IsV (.int .i64 (gR L k)), IsV (.int .i64 (k : Int)), IsV (.pointer (some ⟨w.heap.size, 6, none⟩)), IsV (.pointer (some ⟨w.heap.size, 6 + k, none⟩)), IsV (.int .i64 (cR L k)), IsV (.int .i64 (k : Int)), IsV (.pointer (some ⟨w.heap.size, 12, none⟩)), IsV (.pointer (some ⟨w.heap.size, 12 + k, none⟩)), IsV (.int .i64 (fR L k)), IntsV [gR L k, cR L k, fR L k], IsV (.bool true), IsV (.bool false), IsV (.bool false), IsV (.int .i64 (k : Int)), IsV (.pointer (some ⟨w.heap.size, 18, none⟩)), IsV (.pointer (some ⟨w.heap.size, 18 + k * 6, none⟩)), IntsV (rowR L k), IsV (.bool true), IsV (.bool false), IsV (.bool false), IsV (.bool false), IsV (.int .i64 (k : Int)), IsV (.int .i64 (k : Int)), IsV (.pointer (some ⟨w.heap.size, 18, none⟩)), IsV (.pointer (some ⟨w.heap.size, 18 + k * 6, none⟩)), IsV (.pointer (some ⟨w.heap.size, 18 + k * 6 + k, none⟩)), IsV (.int .i64 (rR L k k)), IsV (.bool false), IsV (.bool false), IsV (.bool false), IsV (.int .i64 (k : Int)), IsV (.pointer (some ⟨w.heap.size, 12, none⟩)), IsV (.pointer (some ⟨w.heap.size, 12 + k, none⟩)), IsV (.int .i64 (fR L k)), IsV (.int .i64 (k : Int)), IsV (.pointer (some ⟨w.heap.size, 6, none⟩)), IsV (.pointer (some ⟨w.heap.size, 6 + k, none⟩)), IsV (.int .i64 (cR L k)), IsV (.bool true), IsV (.bool true)] ([(1, .pointer (some ⟨w.heap.size, 0, none⟩)), (4, .int .i64 (k : Int))] : List (Nat × Value)) (⟨rfl, rfl, trivial⟩) (n := 69) (by kernel_rfl) rfl (by kernel_rfl) hr.drew Grows.refl (StabAll.get ?_) ?_ ?_
              · repeat (first | exact trivial | refine ⟨stab_c _, ?_⟩ | refine ⟨stab_two _ _, ?_⟩ | refine ⟨stab_ints _, ?_⟩ | refine ⟨fun _ _ _ _ _ _ _ => trivial, ?_⟩)
              · refine ⟨?_, ⟨?_, ⟨?_, ⟨?_, ⟨?_, ⟨?_, ⟨?_, ⟨?_, ⟨?_, ⟨?_, ⟨?_, ⟨?_, ⟨?_, ⟨?_, ⟨?_, ⟨?_, ⟨?_, ⟨?_, ⟨?_, ⟨?_, ⟨?_, ⟨?_, ⟨?_, ⟨?_, ⟨?_, ⟨?_, ⟨?_, ⟨?_, ⟨?_, ⟨?_, ⟨?_, ⟨?_, ⟨?_, ⟨?_, ⟨?_, ⟨?_, ⟨?_, ⟨?_, ⟨?_, ⟨?_, ⟨?_, ⟨?_, ⟨?_, trivial⟩⟩⟩⟩⟩⟩⟩⟩⟩⟩⟩⟩⟩⟩⟩⟩⟩⟩⟩⟩⟩⟩⟩⟩⟩⟩⟩⟩⟩⟩⟩⟩⟩⟩⟩⟩⟩⟩⟩⟩⟩⟩⟩
                · intro a W hS hE hD
                  obtain ⟨_, x4, _⟩ := hE
                  have e4 := x4 (by kernel_rfl)
                  refine plan_free rfl ?_
                  refine plan_value ex_move ⟨_, rfl, hS, Grows.refl _, ?_⟩
                  exact e4
                · intro a W hS hE hD
                  obtain ⟨x1, _, _⟩ := hE
                  have e1 := x1 (by kernel_rfl)
                  refine plan_free rfl ?_
                  have k1 := e1
                  refine plan_value (v := .pointer (some ⟨w.heap.size, 0, none⟩)) (w' := W) (by go_simp) ⟨_, rfl, hS, Grows.refl _, rfl⟩
                · intro a W hS hE hD
                  have k10 : a.tmps.getD 10 undef = .pointer (some ⟨w.heap.size, 0, none⟩) := hD 1 10 (by kernel_rfl)
                  have k9 : a.tmps.getD 9 undef = .int .i64 (k : Int) := hD 0 9 (by kernel_rfl)
                  refine plan_free rfl ?_
                  refine plan_value (v := .pointer (some ⟨w.heap.size, k, none⟩)) (w' := W) (by go_simp) ⟨_, rfl, hS, Grows.refl _, rfl⟩
                · intro a W hS hE hD
                  have k11 : a.tmps.getD 11 undef = .pointer (some ⟨w.heap.size, k, none⟩) := hD 2 11 (by kernel_rfl)
                  refine plan_free rfl ?_
                  have hc := hS.rb.g k hlt
                  refine plan_value (v := .int .i64 (gR L k)) (w' := W) (by go_simp) ⟨_, rfl, hS, Grows.refl _, rfl⟩
                · intro a W hS hE hD
                  obtain ⟨_, x4, _⟩ := hE
                  have e4 := x4 (by kernel_rfl)
                  refine plan_free rfl ?_
                  refine plan_value ex_move ⟨_, rfl, hS, Grows.refl _, ?_⟩
                  exact e4
                · intro a W hS hE hD
                  obtain ⟨x1, _, _⟩ := hE
                  have e1 := x1 (by kernel_rfl)
                  refine plan_free rfl ?_
                  have k1 := e1
                  refine plan_value (v := .pointer (some ⟨w.heap.size, 6, none⟩)) (w' := W) (by go_simp) ⟨_, rfl, hS, Grows.refl _, rfl⟩
                · intro a W hS hE hD
                  have k14 : a.tmps.getD 14 undef = .pointer (some ⟨w.heap.size, 6, none⟩) := hD 5 14 (by kernel_rfl)
                  have k13 : a.tmps.getD 13 undef = .int .i64 (k : Int) := hD 4 13 (by kernel_rfl)
                  refine plan_free rfl ?_
                  refine plan_value (v := .pointer (some ⟨w.heap.size, 6 + k, none⟩)) (w' := W) (by go_simp) ⟨_, rfl, hS, Grows.refl _, rfl⟩
                · intro a W hS hE hD
                  have k15 : a.tmps.getD 15 undef = .pointer (some ⟨w.heap.size, 6 + k, none⟩) := hD 6 15 (by kernel_rfl)
                  refine plan_free rfl ?_
                  have hc := hS.rb.c k hlt
                  refine plan_value (v := .int .i64 (cR L k)) (w' := W) (by go_simp) ⟨_, rfl, hS, Grows.refl _, rfl⟩
                · intro a W hS hE hD
                  obtain ⟨_, x4, _⟩ := hE
                  have e4 := x4 (by kernel_rfl)
                  refine plan_free rfl ?_
                  refine plan_value ex_move ⟨_, rfl, hS, Grows.refl _, ?_⟩
                  exact e4
                · intro a W hS hE hD
                  obtain ⟨x1, _, _⟩ := hE
                  have e1 := x1 (by kernel_rfl)
                  refine plan_free rfl ?_
                  have k1 := e1
                  refine plan_value (v := .pointer (some ⟨w.heap.size, 12, none⟩)) (w' := W) (by go_simp) ⟨_, rfl, hS, Grows.refl _, rfl⟩
                · intro a W hS hE hD
                  have k18 : a.tmps.getD 18 undef = .pointer (some ⟨w.heap.size, 12, none⟩) := hD 9 18 (by kernel_rfl)
                  have k17 : a.tmps.getD 17 undef = .int .i64 (k : Int) := hD 8 17 (by kernel_rfl)
                  refine plan_free rfl ?_
                  refine plan_value (v := .pointer (some ⟨w.heap.size, 12 + k, none⟩)) (w' := W) (by go_simp) ⟨_, rfl, hS, Grows.refl _, rfl⟩
                · intro a W hS hE hD
                  have k19 : a.tmps.getD 19 undef = .pointer (some ⟨w.heap.size, 12 + k, none⟩) := hD 10 19 (by kernel_rfl)
                  refine plan_free rfl ?_
                  have hc := hS.rb.f k hlt
                  refine plan_value (v := .int .i64 (fR L k)) (w' := W) (by go_simp) ⟨_, rfl, hS, Grows.refl _, rfl⟩
                · intro a W hS hE hD
                  have k12 : a.tmps.getD 12 undef = .int .i64 (gR L k) := hD 3 12 (by kernel_rfl)
                  have k16 : a.tmps.getD 16 undef = .int .i64 (cR L k) := hD 7 16 (by kernel_rfl)
                  have k20 : a.tmps.getD 20 undef = .int .i64 (fR L k) := hD 11 20 (by kernel_rfl)
                  refine plan_free rfl ?_
                  refine plan_value (ex_build3 k12 k16 k20) ⟨_, rfl, hS.alloc _, Grows.alloc _ _, ⟨_, _, _, rfl, rfl, ints_const W [gR L k, cR L k, fR L k] 2 (0, 0)⟩⟩
                · intro a W hS hE hD
                  obtain ⟨A21, n21, c21, k21, l21, b21⟩ : IntsV [gR L k, cR L k, fR L k] (a.tmps.getD 21 undef) W := hD 12 21 (by kernel_rfl)
                  refine plan_free rfl ?_
                  refine plan_call (f := 43) (args := #[a.tmps.getD 21 undef]) (by kernel_rfl) ?_
                  rw [k21]
                  refine (amounts_b A21 n21 c21 [gR L k, cR L k, fR L k] W b21 l21 (by rw [l21]; show 3 ≤ _; omega)).mono ?_
                  rintro e W2 ⟨rfl, hb⟩
                  refine ⟨_, rfl, _, rfl, hS.next hb, hb, ?_⟩
                  show _ = _
                  rw [B1.out]
                · intro a W hS hE hD
                  have k22 : a.tmps.getD 22 undef = .bool true := hD 13 22 (by kernel_rfl)
                  refine plan_free rfl ?_
                  refine plan_value (v := .bool false) (w' := W) (by go_simp) ⟨_, rfl, hS, Grows.refl _, rfl⟩
                · intro a W hS hE hD
                  have k23 : a.tmps.getD 23 undef = .bool false := hD 14 23 (by kernel_rfl)
                  refine plan_free rfl ?_
                  refine plan_value ex_move ⟨_, rfl, hS, Grows.refl _, ?_⟩
                  exact k23
                · intro a W hS hE hD
                  obtain ⟨_, x4, _⟩ := hE
                  have e4 := x4 (by kernel_rfl)
                  have k24 : a.tmps.getD 24 undef = .bool false := hD 15 24 (by kernel_rfl)
                  refine plan_want rfl (by kernel_rfl) k24 ?_
                  refine plan_value ex_move ⟨_, rfl, hS, Grows.refl _, ?_⟩
                  exact e4
                · intro a W hS hE hD
                  obtain ⟨x1, _, _⟩ := hE
                  have e1 := x1 (by kernel_rfl)
                  have k24 : a.tmps.getD 24 undef = .bool false := hD 15 24 (by kernel_rfl)
                  refine plan_want rfl (by kernel_rfl) k24 ?_
                  have k1 := e1
                  refine plan_value (v := .pointer (some ⟨w.heap.size, 18, none⟩)) (w' := W) (by go_simp) ⟨_, rfl, hS, Grows.refl _, rfl⟩
                · intro a W hS hE hD
                  have k24 : a.tmps.getD 24 undef = .bool false := hD 15 24 (by kernel_rfl)
                  have k26 : a.tmps.getD 26 undef = .pointer (some ⟨w.heap.size, 18, none⟩) := hD 17 26 (by kernel_rfl)
                  have k25 : a.tmps.getD 25 undef = .int .i64 (k : Int) := hD 16 25 (by kernel_rfl)
                  refine plan_want rfl (by kernel_rfl) k24 ?_
                  refine plan_value (v := .pointer (some ⟨w.heap.size, 18 + k * 6, none⟩)) (w' := W) (by go_simp) ⟨_, rfl, hS, Grows.refl _, rfl⟩
                · intro a W hS hE hD
                  have k24 : a.tmps.getD 24 undef = .bool false := hD 15 24 (by kernel_rfl)
                  have k27 : a.tmps.getD 27 undef = .pointer (some ⟨w.heap.size, 18 + k * 6, none⟩) := hD 18 27 (by kernel_rfl)
                  refine plan_want rfl (by kernel_rfl) k24 ?_
                  refine plan_value (v := .slice (some ⟨w.heap.size, 18 + k * 6, none⟩) 6 6) (w' := W) (by go_simp) ⟨_, rfl, hS, Grows.refl _, ⟨_, _, _, rfl, rfl, hS.rb.row k hlt⟩⟩
                · intro a W hS hE hD
                  have k24 : a.tmps.getD 24 undef = .bool false := hD 15 24 (by kernel_rfl)
                  obtain ⟨A28, n28, c28, k28, l28, b28⟩ : IntsV (rowR L k) (a.tmps.getD 28 undef) W := hD 19 28 (by kernel_rfl)
                  refine plan_want rfl (by kernel_rfl) k24 ?_
                  refine plan_call (f := 43) (args := #[a.tmps.getD 28 undef]) (by kernel_rfl) ?_
                  rw [k28]
                  refine (amounts_b A28 n28 c28 (rowR L k) W b28 l28 (by rw [l28]; show 6 ≤ _; omega)).mono ?_
                  rintro e W2 ⟨rfl, hb⟩
                  refine ⟨_, rfl, _, rfl, hS.next hb, hb, ?_⟩
                  show _ = _
                  rw [B2.out]
                · intro a W hS hE hD
                  have k24 : a.tmps.getD 24 undef = .bool false := hD 15 24 (by kernel_rfl)
                  have k29 : a.tmps.getD 29 undef = .bool true := hD 20 29 (by kernel_rfl)
                  refine plan_want rfl (by kernel_rfl) k24 ?_
                  refine plan_value (v := .bool false) (w' := W) (by go_simp) ⟨_, rfl, hS, Grows.refl _, rfl⟩
                · intro a W hS hE hD
                  have k24 : a.tmps.getD 24 undef = .bool false := hD 15 24 (by kernel_rfl)
                  have k30 : a.tmps.getD 30 undef = .bool false := hD 21 30 (by kernel_rfl)
                  refine plan_free rfl ?_
                  refine plan_value (v := .bool false) (w' := W) (by go_simp) ⟨_, rfl, hS, Grows.refl _, rfl⟩
                · intro a W hS hE hD
                  have k31 : a.tmps.getD 31 undef = .bool false := hD 22 31 (by kernel_rfl)
                  refine plan_free rfl ?_
                  refine plan_value ex_move ⟨_, rfl, hS, Grows.refl _, ?_⟩
                  exact k31
                · intro a W hS hE hD
                  obtain ⟨_, x4, _⟩ := hE
                  have e4 := x4 (by kernel_rfl)
                  have k32 : a.tmps.getD 32 undef = .bool false := hD 23 32 (by kernel_rfl)
                  refine plan_want rfl (by kernel_rfl) k32 ?_
                  refine plan_value ex_move ⟨_, rfl, hS, Grows.refl _, ?_⟩
                  exact e4
                · intro a W hS hE hD
                  obtain ⟨_, x4, _⟩ := hE
                  have e4 := x4 (by kernel_rfl)
                  have k32 : a.tmps.getD 32 undef = .bool false := hD 23 32 (by kernel_rfl)
                  refine plan_want rfl (by kernel_rfl) k32 ?_
                  refine plan_value ex_move ⟨_, rfl, hS, Grows.refl _, ?_⟩
                  exact e4
                · intro a W hS hE hD
                  obtain ⟨x1, _, _⟩ := hE
                  have e1 := x1 (by kernel_rfl)
                  have k32 : a.tmps.getD 32 undef = .bool false := hD 23 32 (by kernel_rfl)
                  refine plan_want rfl (by kernel_rfl) k32 ?_
                  have k1 := e1
                  refine plan_value (v := .pointer (some ⟨w.heap.size, 18, none⟩)) (w' := W) (by go_simp) ⟨_, rfl, hS, Grows.refl _, rfl⟩
                · intro a W hS hE hD
                  have k32 : a.tmps.getD 32 undef = .bool false := hD 23 32 (by kernel_rfl)
                  have k35 : a.tmps.getD 35 undef = .pointer (some ⟨w.heap.size, 18, none⟩) := hD 26 35 (by kernel_rfl)
                  have k33 : a.tmps.getD 33 undef = .int .i64 (k : Int) := hD 24 33 (by kernel_rfl)
                  refine plan_want rfl (by kernel_rfl) k32 ?_
                  refine plan_value (v := .pointer (some ⟨w.heap.size, 18 + k * 6, none⟩)) (w' := W) (by go_simp) ⟨_, rfl, hS, Grows.refl _, rfl⟩
                · intro a W hS hE hD
                  have k32 : a.tmps.getD 32 undef = .bool false := hD 23 32 (by kernel_rfl)
                  have k36 : a.tmps.getD 36 undef = .pointer (some ⟨w.heap.size, 18 + k * 6, none⟩) := hD 27 36 (by kernel_rfl)
                  have k34 : a.tmps.getD 34 undef = .int .i64 (k : Int) := hD 25 34 (by kernel_rfl)
                  refine plan_want rfl (by kernel_rfl) k32 ?_
                  refine plan_value (v := .pointer (some ⟨w.heap.size, 18 + k * 6 + k, none⟩)) (w' := W) (by go_simp) ⟨_, rfl, hS, Grows.refl _, rfl⟩
                · intro a W hS hE hD
                  have k32 : a.tmps.getD 32 undef = .bool false := hD 23 32 (by kernel_rfl)
                  have k37 : a.tmps.getD 37 undef = .pointer (some ⟨w.heap.size, 18 + k * 6 + k, none⟩) := hD 28 37 (by kernel_rfl)
                  refine plan_want rfl (by kernel_rfl) k32 ?_
                  have hc := hS.rb.r k k hlt hlt
                  refine plan_value (v := .int .i64 (rR L k k)) (w' := W) (by go_simp) ⟨_, rfl, hS, Grows.refl _, rfl⟩
                · intro a W hS hE hD
                  have k32 : a.tmps.getD 32 undef = .bool false := hD 23 32 (by kernel_rfl)
                  have k38 : a.tmps.getD 38 undef = .int .i64 (rR L k k) := hD 29 38 (by kernel_rfl)
                  refine plan_want rfl (by kernel_rfl) k32 ?_
                  refine plan_value (v := .bool false) (w' := W) (by go_simp) ⟨_, rfl, hS, Grows.refl _, rfl⟩
                · intro a W hS hE hD
                  have k32 : a.tmps.getD 32 undef = .bool false := hD 23 32 (by kernel_rfl)
                  have k39 : a.tmps.getD 39 undef = .bool false := hD 30 39 (by kernel_rfl)
                  refine plan_free rfl ?_
                  refine plan_value (v := .bool false) (w' := W) (by go_simp) ⟨_, rfl, hS, Grows.refl _, rfl⟩
                · intro a W hS hE hD
                  have k40 : a.tmps.getD 40 undef = .bool false := hD 31 40 (by kernel_rfl)
                  refine plan_free rfl ?_
                  refine plan_value ex_move ⟨_, rfl, hS, Grows.refl _, ?_⟩
                  exact k40
                · intro a W hS hE hD
                  obtain ⟨_, x4, _⟩ := hE
                  have e4 := x4 (by kernel_rfl)
                  have k41 : a.tmps.getD 41 undef = .bool false := hD 32 41 (by kernel_rfl)
                  refine plan_want rfl (by kernel_rfl) k41 ?_
                  refine plan_value ex_move ⟨_, rfl, hS, Grows.refl _, ?_⟩
                  exact e4
                · intro a W hS hE hD
                  obtain ⟨x1, _, _⟩ := hE
                  have e1 := x1 (by kernel_rfl)
                  have k41 : a.tmps.getD 41 undef = .bool false := hD 32 41 (by kernel_rfl)
                  refine plan_want rfl (by kernel_rfl) k41 ?_
                  have k1 := e1
                  refine plan_value (v := .pointer (some ⟨w.heap.size, 12, none⟩)) (w' := W) (by go_simp) ⟨_, rfl, hS, Grows.refl _, rfl⟩
                · intro a W hS hE hD
                  have k41 : a.tmps.getD 41 undef = .bool false := hD 32 41 (by kernel_rfl)
                  have k43 : a.tmps.getD 43 undef = .pointer (some ⟨w.heap.size, 12, none⟩) := hD 34 43 (by kernel_rfl)
                  have k42 : a.tmps.getD 42 undef = .int .i64 (k : Int) := hD 33 42 (by kernel_rfl)
                  refine plan_want rfl (by kernel_rfl) k41 ?_
                  refine plan_value (v := .pointer (some ⟨w.heap.size, 12 + k, none⟩)) (w' := W) (by go_simp) ⟨_, rfl, hS, Grows.refl _, rfl⟩
                · intro a W hS hE hD
                  have k41 : a.tmps.getD 41 undef = .bool false := hD 32 41 (by kernel_rfl)
                  have k44 : a.tmps.getD 44 undef = .pointer (some ⟨w.heap.size, 12 + k, none⟩) := hD 35 44 (by kernel_rfl)
                  refine plan_want rfl (by kernel_rfl) k41 ?_
                  have hc := hS.rb.f k hlt
                  refine plan_value (v := .int .i64 (fR L k)) (w' := W) (by go_simp) ⟨_, rfl, hS, Grows.refl _, rfl⟩
                · intro a W hS hE hD
                  obtain ⟨_, x4, _⟩ := hE
                  have e4 := x4 (by kernel_rfl)
                  have k41 : a.tmps.getD 41 undef = .bool false := hD 32 41 (by kernel_rfl)
                  refine plan_want rfl (by kernel_rfl) k41 ?_
                  refine plan_value ex_move ⟨_, rfl, hS, Grows.refl _, ?_⟩
                  exact e4
                · intro a W hS hE hD
                  obtain ⟨x1, _, _⟩ := hE
                  have e1 := x1 (by kernel_rfl)
                  have k41 : a.tmps.getD 41 undef = .bool false := hD 32 41 (by kernel_rfl)
                  refine plan_want rfl (by kernel_rfl) k41 ?_
                  have k1 := e1
                  refine plan_value (v := .pointer (some ⟨w.heap.size, 6, none⟩)) (w' := W) (by go_simp) ⟨_, rfl, hS, Grows.refl _, rfl⟩
                · intro a W hS hE hD
                  have k41 : a.tmps.getD 41 undef = .bool false := hD 32 41 (by kernel_rfl)
                  have k47 : a.tmps.getD 47 undef = .pointer (some ⟨w.heap.size, 6, none⟩) := hD 38 47 (by kernel_rfl)
                  have k46 : a.tmps.getD 46 undef = .int .i64 (k : Int) := hD 37 46 (by kernel_rfl)
                  refine plan_want rfl (by kernel_rfl) k41 ?_
                  refine plan_value (v := .pointer (some ⟨w.heap.size, 6 + k, none⟩)) (w' := W) (by go_simp) ⟨_, rfl, hS, Grows.refl _, rfl⟩
                · intro a W hS hE hD
                  have k41 : a.tmps.getD 41 undef = .bool false := hD 32 41 (by kernel_rfl)
                  have k48 : a.tmps.getD 48 undef = .pointer (some ⟨w.heap.size, 6 + k, none⟩) := hD 39 48 (by kernel_rfl)
                  refine plan_want rfl (by kernel_rfl) k41 ?_
                  have hc := hS.rb.c k hlt
                  refine plan_value (v := .int .i64 (cR L k)) (w' := W) (by go_simp) ⟨_, rfl, hS, Grows.refl _, rfl⟩
                · intro a W hS hE hD
                  have k41 : a.tmps.getD 41 undef = .bool false := hD 32 41 (by kernel_rfl)
                  have k45 : a.tmps.getD 45 undef = .int .i64 (fR L k) := hD 36 45 (by kernel_rfl)
                  have k49 : a.tmps.getD 49 undef = .int .i64 (cR L k) := hD 40 49 (by kernel_rfl)
                  refine plan_want rfl (by kernel_rfl) k41 ?_
                  refine plan_value (v := .bool true) (w' := W) (by go_simp) ⟨_, rfl, hS, Grows.refl _, rfl⟩
                · intro a W hS hE hD
                  have k41 : a.tmps.getD 41 undef = .bool false := hD 32 41 (by kernel_rfl)
                  have k50 : a.tmps.getD 50 undef = .bool true := hD 41 50 (by kernel_rfl)
                  refine plan_free rfl ?_
                  refine plan_value (v := .bool true) (w' := W) (by go_simp) ⟨_, rfl, hS, Grows.refl _, rfl⟩
              · intro f w5 V5 hE
                have f51 : f 51 = .bool true := Ends.get hE 42 _ rfl 51 rfl
                clear hE
                simp only [setAll, List.setIfInBounds_toArray, List.set_cons_zero, List.set_cons_succ]
                rw [f51]; clear f51
                go_wp2_with fail
                go_ret
                exact ⟨by rw [MV.out]; rfl, V5.bel⟩
            · have OK : Hid (rowOK L k = true) := by
                show _ = _
                unfold rowOK; rw [B1.out, B2.out, decide_eq_true hd, decide_eq_true (by omega : fR L k ≤ cR L k)]; rfl
              refine wp_region_plan (fun W => RS w W w.heap.size L) Grows [IsV (.int .i64 (k : Int)), IsV (.pointer (some ⟨w.heap.size, 0, none⟩)), IsV (.pointer (some ⟨w.heap.size, k, none⟩)), IsV (.int .i64 (gR L k)), IsV (.int .i64 (k : Int)), IsV (.pointer (some ⟨w.heap.size, 6, none⟩)), IsV (.pointer (some ⟨w.heap.size, 6 + k, none⟩)), IsV (.int .i64 (cR L k)), IsV (.int .i64 (k : Int)), IsV (.pointer (some ⟨w.heap.size, 12, none⟩)), IsV (.pointer (some ⟨w.heap.size, 12 + k, none⟩)), IsV (.int .i64 (fR L k)), IntsV [gR L k, cR L k, fR L k], IsV (.bool true), IsV (.bool false), IsV (.bool false), IsV (.int .i64 (k : Int)), IsV (.pointer (some ⟨w.heap.size, 18, none⟩)), IsV (.pointer (some ⟨w.heap.size, 18 + k * 6, none⟩)), IntsV (rowR L k), IsV (.bool true), IsV (.bool false), IsV (.bool false), IsV (.bool false), IsV (.int .i64 (k : Int)), IsV (.int .i64 (k : Int)), IsV (.pointer (some ⟨w.heap.size, 18, none⟩)), IsV (.pointer (some ⟨w.heap.size, 18 + k * 6, none⟩)), IsV (.pointer (some ⟨w.heap.size, 18 + k * 6 + k, none⟩)), IsV (.int .i64 (rR L k k)), IsV (.bool false), IsV (.bool false), IsV (.bool false), IsV (.int .i64 (k : Int)), IsV (.pointer (some ⟨w.heap.size, 12, none⟩)), IsV (.pointer (some ⟨w.heap.size, 12 + k, none⟩)), IsV (.int .i64 (fR L k)), IsV (.int .i64 (k : Int)), IsV (.pointer (some ⟨w.heap.size, 6, none⟩)), IsV (.pointer (some ⟨w.heap.size, 6 + k, none⟩)), IsV (.int .i64 (cR L k)), IsV (.bool false), IsV (.bool false)] ([(1, .pointer (some ⟨w.heap.size, 0, none⟩)), (4, .int .i64 (k : Int))] : List (Nat × Value)) (⟨rfl, rfl, trivial⟩) (n := 69) (by kernel_rfl) rfl (by kernel_rfl) hr.drew Grows.refl (StabAll.get ?_) ?_ ?_
              · repeat (first | exact trivial | refine ⟨stab_c _, ?_⟩ | refine ⟨stab_two _ _, ?_⟩ | refine ⟨stab_ints _, ?_⟩ | refine ⟨fun _ _ _ _ _ _ _ => trivial, ?_⟩)
              · refine ⟨?_, ⟨?_, ⟨?_, ⟨?_, ⟨?_, ⟨?_, ⟨?_, ⟨?_, ⟨?_, ⟨?_, ⟨?_, ⟨?_, ⟨?_, ⟨?_, ⟨?_, ⟨?_, ⟨?_, ⟨?_, ⟨?_, ⟨?_, ⟨?_, ⟨?_, ⟨?_, ⟨?_, ⟨?_, ⟨?_, ⟨?_, ⟨?_, ⟨?_, ⟨?_, ⟨?_, ⟨?_, ⟨?_, ⟨?_, ⟨?_, ⟨?_, ⟨?_, ⟨?_, ⟨?_, ⟨?_, ⟨?_, ⟨?_, ⟨?_, trivial⟩⟩⟩⟩⟩⟩⟩⟩⟩⟩⟩⟩⟩⟩⟩⟩⟩⟩⟩⟩⟩⟩⟩⟩⟩⟩⟩⟩⟩⟩⟩⟩⟩⟩⟩⟩⟩⟩⟩⟩⟩⟩⟩
                · intro a W hS hE hD
                  obtain ⟨_, x4, _⟩ := hE
                  have e4 := x4 (by kernel_rfl)
                  refine plan_free rfl ?_
                  refine plan_value ex_move ⟨_, rfl, hS, Grows.refl _, ?_⟩
                  exact e4
                · intro a W hS hE hD
                  obtain ⟨x1, _, _⟩ := hE
                  have e1 := x1 (by kernel_rfl)
                  refine plan_free rfl ?_
                  have k1 := e1
                  refine plan_value (v := .pointer (some ⟨w.heap.size, 0, none⟩)) (w' := W) (by go_simp) ⟨_, rfl, hS, Grows.refl _, rfl⟩
                · intro a W hS hE hD
                  have k10 : a.tmps.getD 10 undef = .pointer (some ⟨w.heap.size, 0, none⟩) := hD 1 10 (by kernel_rfl)
                  have k9 : a.tmps.getD 9 undef = .int .i64 (k : Int) := hD 0 9 (by kernel_rfl)
                  refine plan_free rfl ?_
                  refine plan_value (v := .pointer (some ⟨w.heap.size, k, none⟩)) (w' := W) (by go_simp) ⟨_, rfl, hS, Grows.refl _, rfl⟩
                · intro a W hS hE hD
                  have k11 : a.tmps.getD 11 undef = .pointer (some ⟨w.heap.size, k, none⟩) := hD 2 11 (by kernel_rfl)
                  refine plan_free rfl ?_
                  have hc := hS.rb.g k hlt
                  refine plan_value (v := .int .i64 (gR L k)) (w' := W) (by go_simp) ⟨_, rfl, hS, Grows.refl _, rfl⟩
                · intro a W hS hE hD
                  obtain ⟨_, x4, _⟩ := hE
                  have e4 := x4 (by kernel_rfl)
                  refine plan_free rfl ?_
                  refine plan_value ex_move ⟨_, rfl, hS, Grows.refl _, ?_⟩
                  exact e4
                · intro a W hS hE hD
                  obtain ⟨x1, _, _⟩ := hE
                  have e1 := x1 (by kernel_rfl)
                  refine plan_free rfl ?_
                  have k1 := e1
                  refine plan_value (v := .pointer (some ⟨w.heap.size, 6, none⟩)) (w' := W) (by go_simp) ⟨_, rfl, hS, Grows.refl _, rfl⟩
                · intro a W hS hE hD
                  have k14 : a.tmps.getD 14 undef = .pointer (some ⟨w.heap.size, 6, none⟩) := hD 5 14 (by kernel_rfl)
                  have k13 : a.tmps.getD 13 undef = .int .i64 (k : Int) := hD 4 13 (by kernel_rfl)
                  refine plan_free rfl ?_
                  refine plan_value (v := .pointer (some ⟨w.heap.size, 6 + k, none⟩)) (w' := W) (by go_simp) ⟨_, rfl, hS, Grows.refl _, rfl⟩
                · intro a W hS hE hD
                  have k15 : a.tmps.getD 15 undef = .pointer (some ⟨w.heap.size, 6 + k, none⟩) := hD 6 15 (by kernel_rfl)
                  refine plan_free rfl ?_
                  have hc := hS.rb.c k hlt
                  refine plan_value (v := .int .i64 (cR L k)) (w' := W) (by go_simp) ⟨_, rfl, hS, Grows.refl _, rfl⟩
                · intro a W hS hE hD
                  obtain ⟨_, x4, _⟩ := hE
                  have e4 := x4 (by kernel_rfl)
                  refine plan_free rfl ?_
                  refine plan_value ex_move ⟨_, rfl, hS, Grows.refl _, ?_⟩
                  exact e4
                · intro a W hS hE hD
                  obtain ⟨x1, _, _⟩ := hE
                  have e1 := x1 (by kernel_rfl)
                  refine plan_free rfl ?_
                  have k1 := e1
                  refine plan_value (v := .pointer (some ⟨w.heap.size, 12, none⟩)) (w' := W) (by go_simp) ⟨_, rfl, hS, Grows.refl _, rfl⟩
                · intro a W hS hE hD
                  have k18 : a.tmps.getD 18 undef = .pointer (some ⟨w.heap.size, 12, none⟩) := hD 9 18 (by kernel_rfl)
                  have k17 : a.tmps.getD 17 undef = .int .i64 (k : Int) := hD 8 17 (by kernel_rfl)
                  refine plan_free rfl ?_
                  refine plan_value (v := .pointer (some ⟨w.heap.size, 12 + k, none⟩)) (w' := W) (by go_simp) ⟨_, rfl, hS, Grows.refl _, rfl⟩
                · intro a W hS hE hD
                  have k19 : a.tmps.getD 19 undef = .pointer (some ⟨w.heap.size, 12 + k, none⟩) := hD 10 19 (by kernel_rfl)
                  refine plan_free rfl ?_
                  have hc := hS.rb.f k hlt
                  refine plan_value (v := .int .i64 (fR L k)) (w' := W) (by go_simp) ⟨_, rfl, hS, Grows.refl _, rfl⟩
                · intro a W hS hE hD
                  have k12 : a.tmps.getD 12 undef = .int .i64 (gR L k) := hD 3 12 (by kernel_rfl)
                  have k16 : a.tmps.getD 16 undef = .int .i64 (cR L k) := hD 7 16 (by kernel_rfl)
                  have k20 : a.tmps.getD 20 undef = .int .i64 (fR L k) := hD 11 20 (by kernel_rfl)
                  refine plan_free rfl ?_
                  refine plan_value (ex_build3 k12 k16 k20) ⟨_, rfl, hS.alloc _, Grows.alloc _ _, ⟨_, _, _, rfl, rfl, ints_const W [gR L k, cR L k, fR L k] 2 (0, 0)⟩⟩
                · intro a W hS hE hD
                  obtain ⟨A21, n21, c21, k21, l21, b21⟩ : IntsV [gR L k, cR L k, fR L k] (a.tmps.getD 21 undef) W := hD 12 21 (by kernel_rfl)
                  refine plan_free rfl ?_
                  refine plan_call (f := 43) (args := #[a.tmps.getD 21 undef]) (by kernel_rfl) ?_
                  rw [k21]
                  refine (amounts_b A21 n21 c21 [gR L k, cR L k, fR L k] W b21 l21 (by rw [l21]; show 3 ≤ _; omega)).mono ?_
                  rintro e W2 ⟨rfl, hb⟩
                  refine ⟨_, rfl, _, rfl, hS.next hb, hb, ?_⟩
                  show _ = _
                  rw [B1.out]
                · intro a W hS hE hD
                  have k22 : a.tmps.getD 22 undef = .bool true := hD 13 22 (by kernel_rfl)
                  refine plan_free rfl ?_
                  refine plan_value (v := .bool false) (w' := W) (by go_simp) ⟨_, rfl, hS, Grows.refl _, rfl⟩
                · intro a W hS hE hD
                  have k23 : a.tmps.getD 23 undef = .bool false := hD 14 23 (by kernel_rfl)
                  refine plan_free rfl ?_
                  refine plan_value ex_move ⟨_, rfl, hS, Grows.refl _, ?_⟩
                  exact k23
                · intro a W hS hE hD
                  obtain ⟨_, x4, _⟩ := hE
                  have e4 := x4 (by kernel_rfl)
                  have k24 : a.tmps.getD 24 undef = .bool false := hD 15 24 (by kernel_rfl)
                  refine plan_want rfl (by kernel_rfl) k24 ?_
                  refine plan_value ex_move ⟨_, rfl, hS, Grows.refl _, ?_⟩
                  exact e4
                · intro a W hS hE hD
                  obtain ⟨x1, _, _⟩ := hE
                  have e1 := x1 (by kernel_rfl)
                  have k24 : a.tmps.getD 24 undef = .bool false := hD 15 24 (by kernel_rfl)
                  refine plan_want rfl (by kernel_rfl) k24 ?_
                  have k1 := e1
                  refine plan_value (v := .pointer (some ⟨w.heap.size, 18, none⟩)) (w' := W) (by go_simp) ⟨_, rfl, hS, Grows.refl _, rfl⟩
                · intro a W hS hE hD
                  have k24 : a.tmps.getD 24 undef = .bool false := hD 15 24 (by kernel_rfl)
                  have k26 : a.tmps.getD 26 undef = .pointer (some ⟨w.heap.size, 18, none⟩) := hD 17 26 (by kernel_rfl)
                  have k25 : a.tmps.getD 25 undef = .int .i64 (k : Int) := hD 16 25 (by kernel_rfl)
                  refine plan_want rfl (by kernel_rfl) k24 ?_
                  refine plan_value (v := .pointer (some ⟨w.heap.size, 18 + k * 6, none⟩)) (w' := W) (by go_simp) ⟨_, rfl, hS, Grows.refl _, rfl⟩
                · intro a W hS hE hD
                  have k24 : a.tmps.getD 24 undef = .bool false := hD 15 24 (by kernel_rfl)
                  have k27 : a.tmps.getD 27 undef = .pointer (some ⟨w.heap.size, 18 + k * 6, none⟩) := hD 18 27 (by kernel_rfl)
                  refine plan_want rfl (by kernel_rfl) k24 ?_
                  refine plan_value (v := .slice (some ⟨w.heap.size, 18 + k * 6, none⟩) 6 6) (w' := W) (by go_simp) ⟨_, rfl, hS, Grows.refl _, ⟨_, _, _, rfl, rfl, hS.rb.row k hlt⟩⟩
                · intro a W hS hE hD
                  have k24 : a.tmps.getD 24 undef = .bool false := hD 15 24 (by kernel_rfl)
                  obtain ⟨A28, n28, c28, k28, l28, b28⟩ : IntsV (rowR L k) (a.tmps.getD 28 undef) W := hD 19 28 (by kernel_rfl)
                  refine plan_want rfl (by kernel_rfl) k24 ?_
                  refine plan_call (f := 43) (args := #[a.tmps.getD 28 undef]) (by kernel_rfl) ?_
                  rw [k28]
                  refine (amounts_b A28 n28 c28 (rowR L k) W b28 l28 (by rw [l28]; show 6 ≤ _; omega)).mono ?_
                  rintro e W2 ⟨rfl, hb⟩
                  refine ⟨_, rfl, _, rfl, hS.next hb, hb, ?_⟩
                  show _ = _
                  rw [B2.out]
                · intro a W hS hE hD
                  have k24 : a.tmps.getD 24 undef = .bool false := hD 15 24 (by kernel_rfl)
                  have k29 : a.tmps.getD 29 undef = .bool true := hD 20 29 (by kernel_rfl)
                  refine plan_want rfl (by kernel_rfl) k24 ?_
                  refine plan_value (v := .bool false) (w' := W) (by go_simp) ⟨_, rfl, hS, Grows.refl _, rfl⟩
                · intro a W hS hE hD
                  have k24 : a.tmps.getD 24 undef = .bool false := hD 15 24 (by kernel_rfl)
                  have k30 : a.tmps.getD 30 undef = .bool false := hD 21 30 (by kernel_rfl)
                  refine plan_free rfl ?_
                  refine plan_value (v := .bool false) (w' := W) (by go_simp) ⟨_, rfl, hS, Grows.refl _, rfl⟩
                · intro a W hS hE hD
                  have k31 : a.tmps.getD 31 undef = .bool false := hD 22 31 (by kernel_rfl)
                  refine plan_free rfl ?_
                  refine plan_value ex_move ⟨_, rfl, hS, Grows.refl _, ?_⟩
                  exact k31
                · intro a W hS hE hD
                  obtain ⟨_, x4, _⟩ := hE
                  have e4 := x4 (by kernel_rfl)
                  have k32 : a.tmps.getD 32 undef = .bool false := hD 23 32 (by kernel_rfl)
                  refine plan_want rfl (by kernel_rfl) k32 ?_
                  refine plan_value ex_move ⟨_, rfl, hS, Grows.refl _, ?_⟩
                  exact e4
                · intro a W hS hE hD
                  obtain ⟨_, x4, _⟩ := hE
                  have e4 := x4 (by kernel_rfl)
                  have k32 : a.tmps.getD 32 undef = .bool false := hD 23 32 (by kernel_rfl)
                  refine plan_want rfl (by kernel_rfl) k32 ?_
                  refine plan_value ex_move ⟨_, rfl, hS, Grows.refl _, ?_⟩
                  exact e4
                · intro a W hS hE hD
                  obtain ⟨x1, _, _⟩ := hE
                  have e1 := x1 (by kernel_rfl)
                  have k32 : a.tmps.getD 32 undef = .bool false := hD 23 32 (by kernel_rfl)
                  refine plan_want rfl (by kernel_rfl) k32 ?_
                  have k1 := e1
                  refine plan_value (v := .pointer (some ⟨w.heap.size, 18, none⟩)) (w' := W) (by go_simp) ⟨_, rfl, hS, Grows.refl _, rfl⟩
                · intro a W hS hE hD
                  have k32 : a.tmps.getD 32 undef = .bool false := hD 23 32 (by kernel_rfl)
                  have k35 : a.tmps.getD 35 undef = .pointer (some ⟨w.heap.size, 18, none⟩) := hD 26 35 (by kernel_rfl)
                  have k33 : a.tmps.getD 33 undef = .int .i64 (k : Int) := hD 24 33 (by kernel_rfl)
                  refine plan_want rfl (by kernel_rfl) k32 ?_
                  refine plan_value (v := .pointer (some ⟨w.heap.size, 18 + k * 6, none⟩)) (w' := W) (by go_simp) ⟨_, rfl, hS, Grows.refl _, rfl⟩
                · intro a W hS hE hD
                  have k32 : a.tmps.getD 32 undef = .bool false := hD 23 32 (by kernel_rfl)
                  have k36 : a.tmps.getD 36 undef = .pointer (some ⟨w.heap.size, 18 + k * 6, none⟩) := hD 27 36 (by kernel_rfl)
                  have k34 : a.tmps.getD 34 undef = .int .i64 (k : Int) := hD 25 34 (by kernel_rfl)
                  refine plan_want rfl (by kernel_rfl) k32 ?_
                  refine plan_value (v := .pointer (some ⟨w.heap.size, 18 + k * 6 + k, none⟩)) (w' := W) (by go_simp) ⟨_, rfl, hS, Grows.refl _, rfl⟩
                · intro a W hS hE hD
                  have k32 : a.tmps.getD 32 undef = .bool false := hD 23 32 (by kernel_rfl)
                  have k37 : a.tmps.getD 37 undef = .pointer (some ⟨w.heap.size, 18 + k * 6 + k, none⟩) := hD 28 37 (by kernel_rfl)
                  refine plan_want rfl (by kernel_rfl) k32 ?_
                  have hc := hS.rb.r k k hlt hlt
                  refine plan_value (v := .int .i64 (rR L k k)) (w' := W) (by go_simp) ⟨_, rfl, hS, Grows.refl _, rfl⟩
                · intro a W hS hE hD
                  have k32 : a.tmps.getD 32 undef = .bool false := hD 23 32 (by kernel_rfl)
                  have k38 : a.tmps.getD 38 undef = .int .i64 (rR L k k) := hD 29 38 (by kernel_rfl)
                  refine plan_want rfl (by kernel_rfl) k32 ?_
                  refine plan_value (v := .bool false) (w' := W) (by go_simp) ⟨_, rfl, hS, Grows.refl _, rfl⟩
                · intro a W hS hE hD
                  have k32 : a.tmps.getD 32 undef = .bool false := hD 23 32 (by kernel_rfl)
                  have k39 : a.tmps.getD 39 undef = .bool false := hD 30 39 (by kernel_rfl)
                  refine plan_free rfl ?_
                  refine plan_value (v := .bool false) (w' := W) (by go_simp) ⟨_, rfl, hS, Grows.refl _, rfl⟩
                · intro a W hS hE hD
                  have k40 : a.tmps.getD 40 undef = .bool false := hD 31 40 (by kernel_rfl)
                  refine plan_free rfl ?_
                  refine plan_value ex_move ⟨_, rfl, hS, Grows.refl _, ?_⟩
                  exact k40
                · intro a W hS hE hD
                  obtain ⟨_, x4, _⟩ := hE
                  have e4 := x4 (by kernel_rfl)
                  have k41 : a.tmps.getD 41 undef = .bool false := hD 32 41 (by kernel_rfl)
                  refine plan_want rfl (by kernel_rfl) k41 ?_
                  refine plan_value ex_move ⟨_, rfl, hS, Grows.refl _, ?_⟩
                  exact e4
                · intro a W hS hE hD
                  obtain ⟨x1, _, _⟩ := hE
                  have e1 := x1 (by kernel_rfl)
                  have k41 : a.tmps.getD 41 undef = .bool false := hD 32 41 (by kernel_rfl)
                  refine plan_want rfl (by kernel_rfl) k41 ?_
                  have k1 := e1
                  refine plan_value (v := .pointer (some ⟨w.heap.size, 12, none⟩)) (w' := W) (by go_simp) ⟨_, rfl, hS, Grows.refl _, rfl⟩
                · intro a W hS hE hD
                  have k41 : a.tmps.getD 41 undef = .bool false := hD 32 41 (by kernel_rfl)
                  have k43 : a.tmps.getD 43 undef = .pointer (some ⟨w.heap.size, 12, none⟩) := hD 34 43 (by kernel_rfl)
                  have k42 : a.tmps.getD 42 undef = .int .i64 (k : Int) := hD 33 42 (by kernel_rfl)
                  refine plan_want rfl (by kernel_rfl) k41 ?_
                  refine plan_value (v := .pointer (some ⟨w.heap.size, 12 + k, none⟩)) (w' := W) (by go_simp) ⟨_, rfl, hS, Grows.refl _, rfl⟩
                · intro a W hS hE hD
                  have k41 : a.tmps.getD 41 undef = .bool false := hD 32 41 (by kernel_rfl)
                  have k44 : a.tmps.getD 44 undef = .pointer (some ⟨w.heap.size, 12 + k, none⟩) := hD 35 44 (by kernel_rfl)
                  refine plan_want rfl (by kernel_rfl) k41 ?_
                  have hc := hS.rb.f k hlt
                  refine plan_value (v := .int .i64 (fR L k)) (w' := W) (by go_simp) ⟨_, rfl, hS, Grows.refl _, rfl⟩
                · intro a W hS hE hD
                  obtain ⟨_, x4, _⟩ := hE
                  have e4 := x4 (by kernel_rfl)
                  have k41 : a.tmps.getD 41 undef = .bool false := hD 32 41 (by kernel_rfl)
                  refine plan_want rfl (by kernel_rfl) k41 ?_
                  refine plan_value ex_move ⟨_, rfl, hS, Grows.refl _, ?_⟩
                  exact e4
                · intro a W hS hE hD
                  obtain ⟨x1, _, _⟩ := hE
                  have e1 := x1 (by kernel_rfl)
                  have k41 : a.tmps.getD 41 undef = .bool false := hD 32 41 (by kernel_rfl)
                  refine plan_want rfl (by kernel_rfl) k41 ?_
                  have k1 := e1
                  refine plan_value (v := .pointer (some ⟨w.heap.size, 6, none⟩)) (w' := W) (by go_simp) ⟨_, rfl, hS, Grows.refl _, rfl⟩
                · intro a W hS hE hD
                  have k41 : a.tmps.getD 41 undef = .bool false := hD 32 41 (by kernel_rfl)
                  have k47 : a.tmps.getD 47 undef = .pointer (some ⟨w.heap.size, 6, none⟩) := hD 38 47 (by kernel_rfl)
                  have k46 : a.tmps.getD 46 undef = .int .i64 (k : Int) := hD 37 46 (by kernel_rfl)
                  refine plan_want rfl (by kernel_rfl) k41 ?_
                  refine plan_value (v := .pointer (some ⟨w.heap.size, 6 + k, none⟩)) (w' := W) (by go_simp) ⟨_, rfl, hS, Grows.refl _, rfl⟩
                · intro a W hS hE hD
                  have k41 : a.tmps.getD 41 undef = .bool false := hD 32 41 (by kernel_rfl)
                  have k48 : a.tmps.getD 48 undef = .pointer (some ⟨w.heap.size, 6 + k, none⟩) := hD 39 48 (by kernel_rfl)
                  refine plan_want rfl (by kernel_rfl) k41 ?_
                  have hc := hS.rb.c k hlt
                  refine plan_value (v := .int .i64 (cR L k)) (w' := W) (by go_simp) ⟨_, rfl, hS, Grows.refl _, rfl⟩
                · intro a W hS hE hD
                  have k41 : a.tmps.getD 41 undef = .bool false := hD 32 41 (by kernel_rfl)
                  have k45 : a.tmps.getD 45 undef = .int .i64 (fR L k) := hD 36 45 (by kernel_rfl)
                  have k49 : a.tmps.getD 49 undef = .int .i64 (cR L k) := hD 40 49 (by kernel_rfl)
                  refine plan_want rfl (by kernel_rfl) k41 ?_
                  refine plan_value (v := .bool false) (w' := W) (by go_simp) ⟨_, rfl, hS, Grows.refl _, rfl⟩
                · intro a W hS hE hD
                  have k41 : a.tmps.getD 41 undef = .bool false := hD 32 41 (by kernel_rfl)
                  have k50 : a.tmps.getD 50 undef = .bool false := hD 41 50 (by kernel_rfl)
                  refine plan_free rfl ?_
                  refine plan_value (v := .bool false) (w' := W) (by go_simp) ⟨_, rfl, hS, Grows.refl _, rfl⟩
              · intro f w5 V5 hE
                have f51 : f 51 = .bool false := Ends.get hE 42 _ rfl 51 rfl
                clear hE
                simp only [setAll, List.setIfInBounds_toArray, List.set_cons_zero, List.set_cons_succ]
                rw [f51]; clear f51
                have hbg := B1.out
                simp only [List.all_cons, List.all_nil, Bool.and_true, Bool.and_eq_true, amtB_iff] at hbg
                obtain ⟨hg1, hg2⟩ := hbg.1
                have hc := V5.rb.g k hlt
                generalize gR L k = x at hc hg1 hg2 ST
                clear hbg hd hf
                go_wp2_with fail
                go_roundw
                case rel => exact ⟨k + 1, by omega, by go_num, by rw [ST.out], hok.step OK.out, ⟨by rw [ST.out]; omega, by have := HSUM.out.2; rw [ST.out]; push_cast; omega⟩, V5⟩
                case measure => simp [intOf]; omega
          · have MV := Lib.hid (may_row hlt (by unfold rowOK; rw [B1.out, B2.out, decide_eq_false hd]; rfl))
            refine wp_region_plan (fun W => RS w W w.heap.size L) Grows [IsV (.int .i64 (k : Int)), IsV (.pointer (some ⟨w.heap.size, 0, none⟩)), IsV (.pointer (some ⟨w.heap.size, k, none⟩)), IsV (.int .i64 (gR L k)), IsV (.int .i64 (k : Int)), IsV (.pointer (some ⟨w.heap.size, 6, none⟩)), IsV (.pointer (some ⟨w.heap.size, 6 + k, none⟩)), IsV (.int .i64 (cR L k)), IsV (.int .i64 (k : Int)), IsV (.pointer (some ⟨w.heap.size, 12, none⟩)), IsV (.pointer (some ⟨w.heap.size, 12 + k, none⟩)), IsV (.int .i64 (fR L k)), IntsV [gR L k, cR L k, fR L k], IsV (.bool true), IsV (.bool false), IsV (.bool false), IsV (.int .i64 (k : Int)), IsV (.pointer (some ⟨w.heap.size, 18, none⟩)), IsV (.pointer (some ⟨w.heap.size, 18 + k * 6, none⟩)), IntsV (rowR L k), IsV (.bool true), IsV (.bool false), IsV (.bool false), IsV (.bool false), IsV (.int .i64 (k : Int)), IsV (.int .i64 (k : Int)), IsV (.pointer (some ⟨w.heap.size, 18, none⟩)), IsV (.pointer (some ⟨w.heap.size, 18 + k * 6, none⟩)), IsV (.pointer (some ⟨w.heap.size, 18 + k * 6 + k, none⟩)), IsV (.int .i64 (rR L k k)), IsV (.bool true), IsV (.bool true), IsV (.bool true), IsV (undef), IsV (undef), IsV (undef), IsV (undef), IsV (undef), IsV (undef), IsV (undef), IsV (undef), IsV (undef), IsV (.bool true)] ([(1, .pointer (some ⟨w.heap.size, 0, none⟩)), (4, .int .i64 (k : Int))] : List (Nat × Value)) (⟨rfl, rfl, trivial⟩) (n := 69) (by kernel_rfl) rfl (by kernel_rfl) hr.drew Grows.refl (StabAll.get ?_) ?_ ?_
            · repeat (first | exact trivial | refine ⟨stab_c _, ?_⟩ | refine ⟨stab_two _ _, ?_⟩ | refine ⟨stab_ints _, ?_⟩ | refine ⟨fun _ _ _ _ _ _ _ => trivial, ?_⟩)
            · refine ⟨?_, ⟨?_, ⟨?_, ⟨?_, ⟨?_, ⟨?_, ⟨?_, ⟨?_, ⟨?_, ⟨?_, ⟨?_, ⟨?_, ⟨?_, ⟨?_, ⟨?_, ⟨?_, ⟨?_, ⟨?_, ⟨?_, ⟨?_, ⟨?_, ⟨?_, ⟨?_, ⟨?_, ⟨?_, ⟨?_, ⟨?_, ⟨?_, ⟨?_, ⟨?_, ⟨?_, ⟨?_, ⟨?_, ⟨?_, ⟨?_, ⟨?_, ⟨?_, ⟨?_, ⟨?_, ⟨?_, ⟨?_, ⟨?_, ⟨?_, trivial⟩⟩⟩⟩⟩⟩⟩⟩⟩⟩⟩⟩⟩⟩⟩⟩⟩⟩⟩⟩⟩⟩⟩⟩⟩⟩⟩⟩⟩⟩⟩⟩⟩⟩⟩⟩⟩⟩⟩⟩⟩⟩⟩
              · intro a W hS hE hD
                obtain ⟨_, x4, _⟩ := hE
                have e4 := x4 (by kernel_rfl)
                refine plan_free rfl ?_
                refine plan_value ex_move ⟨_, rfl, hS, Grows.refl _, ?_⟩
                exact e4
              · intro a W hS hE hD
                obtain ⟨x1, _, _⟩ := hE
                have e1 := x1 (by kernel_rfl)
                refine plan_free rfl ?_
                have k1 := e1
                refine plan_value (v := .pointer (some ⟨w.heap.size, 0, none⟩)) (w' := W) (by go_simp) ⟨_, rfl, hS, Grows.refl _, rfl⟩
              · intro a W hS hE hD
                have k10 : a.tmps.getD 10 undef = .pointer (some ⟨w.heap.size, 0, none⟩) := hD 1 10 (by kernel_rfl)
                have k9 : a.tmps.getD 9 undef = .int .i64 (k : Int) := hD 0 9 (by kernel_rfl)
                refine plan_free rfl ?_
                refine plan_value (v := .pointer (some ⟨w.heap.size, k, none⟩)) (w' := W) (by go_simp) ⟨_, rfl, hS, Grows.refl _, rfl⟩
              · intro a W hS hE hD
                have k11 : a.tmps.getD 11 undef = .pointer (some ⟨w.heap.size, k, none⟩) := hD 2 11 (by kernel_rfl)
                refine plan_free rfl ?_
                have hc := hS.rb.g k hlt
                refine plan_value (v := .int .i64 (gR L k)) (w' := W) (by go_simp) ⟨_, rfl, hS, Grows.refl _, rfl⟩
              · intro a W hS hE hD
                obtain ⟨_, x4, _⟩ := hE
                have e4 := x4 (by kernel_rfl)
                refine plan_free rfl ?_
                refine plan_value ex_move ⟨_, rfl, hS, Grows.refl _, ?_⟩
                exact e4
              · intro a W hS hE hD
                obtain ⟨x1, _, _⟩ := hE
                have e1 := x1 (by kernel_rfl)
                refine plan_free rfl ?_
                have k1 := e1
                refine plan_value (v := .pointer (some ⟨w.heap.size, 6, none⟩)) (w' := W) (by go_simp) ⟨_, rfl, hS, Grows.refl _, rfl⟩
              · intro a W hS hE hD
                have k14 : a.tmps.getD 14 undef = .pointer (some ⟨w.heap.size, 6, none⟩) := hD 5 14 (by kernel_rfl)
                have k13 : a.tmps.getD 13 undef = .int .i64 (k : Int) := hD 4 13 (by kernel_rfl)
                refine plan_free rfl ?_
                refine plan_value (v := .pointer (some ⟨w.heap.size, 6 + k, none⟩)) (w' := W) (by go_simp) ⟨_, rfl, hS, Grows.refl _, rfl⟩
              · intro a W hS hE hD
                have k15 : a.tmps.getD 15 undef = .pointer (some ⟨w.heap.size, 6 + k, none⟩) := hD 6 15 (by kernel_rfl)
                refine plan_free rfl ?_
                have hc := hS.rb.c k hlt
                refine plan_value (v := .int .i64 (cR L k)) (w' := W) (by go_simp) ⟨_, rfl, hS, Grows.refl _, rfl⟩
              · intro a W hS hE hD
                obtain ⟨_, x4, _⟩ := hE
                have e4 := x4 (by kernel_rfl)
                refine plan_free rfl ?_
                refine plan_value ex_move ⟨_, rfl, hS, Grows.refl _, ?_⟩
                exact e4
              · intro a W hS hE hD
                obtain ⟨x1, _, _⟩ := hE
                have e1 := x1 (by kernel_rfl)
                refine plan_free rfl ?_
                have k1 := e1
                refine plan_value (v := .pointer (some ⟨w.heap.size, 12, none⟩)) (w' := W) (by go_simp) ⟨_, rfl, hS, Grows.refl _, rfl⟩
              · intro a W hS hE hD
                have k18 : a.tmps.getD 18 undef = .pointer (some ⟨w.heap.size, 12, none⟩) := hD 9 18 (by kernel_rfl)
                have k17 : a.tmps.getD 17 undef = .int .i64 (k : Int) := hD 8 17 (by kernel_rfl)
                refine plan_free rfl ?_
                refine plan_value (v := .pointer (some ⟨w.heap.size, 12 + k, none⟩)) (w' := W) (by go_simp) ⟨_, rfl, hS, Grows.refl _, rfl⟩
              · intro a W hS hE hD
                have k19 : a.tmps.getD 19 undef = .pointer (some ⟨w.heap.size, 12 + k, none⟩) := hD 10 19 (by kernel_rfl)
                refine plan_free rfl ?_
                have hc := hS.rb.f k hlt
                refine plan_value (v := .int .i64 (fR L k)) (w' := W) (by go_simp) ⟨_, rfl, hS, Grows.refl _, rfl⟩
              · intro a W hS hE hD
                have k12 : a.tmps.getD 12 undef = .int .i64 (gR L k) := hD 3 12 (by kernel_rfl)
                have k16 : a.tmps.getD 16 undef = .int .i64 (cR L k) := hD 7 16 (by kernel_rfl)
                have k20 : a.tmps.getD 20 undef = .int .i64 (fR L k) := hD 11 20 (by kernel_rfl)
                refine plan_free rfl ?_
                refine plan_value (ex_build3 k12 k16 k20) ⟨_, rfl, hS.alloc _, Grows.alloc _ _, ⟨_, _, _, rfl, rfl, ints_const W [gR L k, cR L k, fR L k] 2 (0, 0)⟩⟩
              · intro a W hS hE hD
                obtain ⟨A21, n21, c21, k21, l21, b21⟩ : IntsV [gR L k, cR L k, fR L k] (a.tmps.getD 21 undef) W := hD 12 21 (by kernel_rfl)
                refine plan_free rfl ?_
                refine plan_call (f := 43) (args := #[a.tmps.getD 21 undef]) (by kernel_rfl) ?_
                rw [k21]
                refine (amounts_b A21 n21 c21 [gR L k, cR L k, fR L k] W b21 l21 (by rw [l21]; show 3 ≤ _; omega)).mono ?_
                rintro e W2 ⟨rfl, hb⟩
                refine ⟨_, rfl, _, rfl, hS.next hb, hb, ?_⟩
                show _ = _
                rw [B1.out]
              · intro a W hS hE hD
                have k22 : a.tmps.getD 22 undef = .bool true := hD 13 22 (by kernel_rfl)
                refine plan_free rfl ?_
                refine plan_value (v := .bool false) (w' := W) (by go_simp) ⟨_, rfl, hS, Grows.refl _, rfl⟩
              · intro a W hS hE hD
                have k23 : a.tmps.getD 23 undef = .bool false := hD 14 23 (by kernel_rfl)
                refine plan_free rfl ?_
                refine plan_value ex_move ⟨_, rfl, hS, Grows.refl _, ?_⟩
                exact k23
              · intro a W hS hE hD
                obtain ⟨_, x4, _⟩ := hE
                have e4 := x4 (by kernel_rfl)
                have k24 : a.tmps.getD 24 undef = .bool false := hD 15 24 (by kernel_rfl)
                refine plan_want rfl (by kernel_rfl) k24 ?_
                refine plan_value ex_move ⟨_, rfl, hS, Grows.refl _, ?_⟩
                exact e4
              · intro a W hS hE hD
                obtain ⟨x1, _, _⟩ := hE
                have e1 := x1 (by kernel_rfl)
                have k24 : a.tmps.getD 24 undef = .bool false := hD 15 24 (by kernel_rfl)
                refine plan_want rfl (by kernel_rfl) k24 ?_
                have k1 := e1
                refine plan_value (v := .pointer (some ⟨w.heap.size, 18, none⟩)) (w' := W) (by go_simp) ⟨_, rfl, hS, Grows.refl _, rfl⟩
              · intro a W hS hE hD
                have k24 : a.tmps.getD 24 undef = .bool false := hD 15 24 (by kernel_rfl)
                have k26 : a.tmps.getD 26 undef = .pointer (some ⟨w.heap.size, 18, none⟩) := hD 17 26 (by kernel_rfl)
                have k25 : a.tmps.getD 25 undef = .int .i64 (k : Int) := hD 16 25 (by kernel_rfl)
                refine plan_want rfl (by kernel_rfl) k24 ?_
                refine plan_value (v := .pointer (some ⟨w.heap.size, 18 + k * 6, none⟩)) (w' := W) (by go_simp) ⟨_, rfl, hS, Grows.refl _, rfl⟩
              · intro a W hS hE hD
                have k24 : a.tmps.getD 24 undef = .bool false := hD 15 24 (by kernel_rfl)
                have k27 : a.tmps.getD 27 undef = .pointer (some ⟨w.heap.size, 18 + k * 6, none⟩) := hD 18 27 (by kernel_rfl)
                refine plan_want rfl (by kernel_rfl) k24 ?_
                refine plan_value (v := .slice (some ⟨w.heap.size, 18 + k * 6, none⟩) 6 6) (w' := W) (by go_simp) ⟨_, rfl, hS, Grows.refl _, ⟨_, _, _, rfl, rfl, hS.rb.row k hlt⟩⟩
              · intro a W hS hE hD
                have k24 : a.tmps.getD 24 undef = .bool false := hD 15 24 (by kernel_rfl)
                obtain ⟨A28, n28, c28, k28, l28, b28⟩ : IntsV (rowR L k) (a.tmps.getD 28 undef) W := hD 19 28 (by kernel_rfl)
                refine plan_want rfl (by kernel_rfl) k24 ?_
                refine plan_call (f := 43) (args := #[a.tmps.getD 28 undef]) (by kernel_rfl) ?_
                rw [k28]
                refine (amounts_b A28 n28 c28 (rowR L k) W b28 l28 (by rw [l28]; show 6 ≤ _; omega)).mono ?_
                rintro e W2 ⟨rfl, hb⟩
                refine ⟨_, rfl, _, rfl, hS.next hb, hb, ?_⟩
                show _ = _
                rw [B2.out]
              · intro a W hS hE hD
                have k24 : a.tmps.getD 24 undef = .bool false := hD 15 24 (by kernel_rfl)
                have k29 : a.tmps.getD 29 undef = .bool true := hD 20 29 (by kernel_rfl)
                refine plan_want rfl (by kernel_rfl) k24 ?_
                refine plan_value (v := .bool false) (w' := W) (by go_simp) ⟨_, rfl, hS, Grows.refl _, rfl⟩
              · intro a W hS hE hD
                have k24 : a.tmps.getD 24 undef = .bool false := hD 15 24 (by kernel_rfl)
                have k30 : a.tmps.getD 30 undef = .bool false := hD 21 30 (by kernel_rfl)
                refine plan_free rfl ?_
                refine plan_value (v := .bool false) (w' := W) (by go_simp) ⟨_, rfl, hS, Grows.refl _, rfl⟩
              · intro a W hS hE hD
                have k31 : a.tmps.getD 31 undef = .bool false := hD 22 31 (by kernel_rfl)
                refine plan_free rfl ?_
                refine plan_value ex_move ⟨_, rfl, hS, Grows.refl _, ?_⟩
                exact k31
              · intro a W hS hE hD
                obtain ⟨_, x4, _⟩ := hE
                have e4 := x4 (by kernel_rfl)
                have k32 : a.tmps.getD 32 undef = .bool false := hD 23 32 (by kernel_rfl)
                refine plan_want rfl (by kernel_rfl) k32 ?_
                refine plan_value ex_move ⟨_, rfl, hS, Grows.refl _, ?_⟩
                exact e4
              · intro a W hS hE hD
                obtain ⟨_, x4, _⟩ := hE
                have e4 := x4 (by kernel_rfl)
                have k32 : a.tmps.getD 32 undef = .bool false := hD 23 32 (by kernel_rfl)
                refine plan_want rfl (by kernel_rfl) k32 ?_
                refine plan_value ex_move ⟨_, rfl, hS, Grows.refl _, ?_⟩
                exact e4
              · intro a W hS hE hD
                obtain ⟨x1, _, _⟩ := hE
                have e1 := x1 (by kernel_rfl)
                have k32 : a.tmps.getD 32 undef = .bool false := hD 23 32 (by kernel_rfl)
                refine plan_want rfl (by kernel_rfl) k32 ?_
                have k1 := e1
                refine plan_value (v := .pointer (some ⟨w.heap.size, 18, none⟩)) (w' := W) (by go_simp) ⟨_, rfl, hS, Grows.refl _, rfl⟩
              · intro a W hS hE hD
                have k32 : a.tmps.getD 32 undef = .bool false := hD 23 32 (by kernel_rfl)
                have k35 : a.tmps.getD 35 undef = .pointer (some ⟨w.heap.size, 18, none⟩) := hD 26 35 (by kernel_rfl)
                have k33 : a.tmps.getD 33 undef = .int .i64 (k : Int) := hD 24 33 (by kernel_rfl)
                refine plan_want rfl (by kernel_rfl) k32 ?_
                refine plan_value (v := .pointer (some ⟨w.heap.size, 18 + k * 6, none⟩)) (w' := W) (by go_simp) ⟨_, rfl, hS, Grows.refl _, rfl⟩
              · intro a W hS hE hD
                have k32 : a.tmps.getD 32 undef = .bool false := hD 23 32 (by kernel_rfl)
                have k36 : a.tmps.getD 36 undef = .pointer (some ⟨w.heap.size, 18 + k * 6, none⟩) := hD 27 36 (by kernel_rfl)
                have k34 : a.tmps.getD 34 undef = .int .i64 (k : Int) := hD 25 34 (by kernel_rfl)
                refine plan_want rfl (by kernel_rfl) k32 ?_
                refine plan_value (v := .pointer (some ⟨w.heap.size, 18 + k * 6 + k, none⟩)) (w' := W) (by go_simp) ⟨_, rfl, hS, Grows.refl _, rfl⟩
              · intro a W hS hE hD
                have k32 : a.tmps.getD 32 undef = .bool false := hD 23 32 (by kernel_rfl)
                have k37 : a.tmps.getD 37 undef = .pointer (some ⟨w.heap.size, 18 + k * 6 + k, none⟩) := hD 28 37 (by kernel_rfl)
                refine plan_want rfl (by kernel_rfl) k32 ?_
                have hc := hS.rb.r k k hlt hlt
                refine plan_value (v := .int .i64 (rR L k k)) (w' := W) (by go_simp) ⟨_, rfl, hS, Grows.refl _, rfl⟩
              · intro a W hS hE hD
                have k32 : a.tmps.getD 32 undef = .bool false := hD 23 32 (by kernel_rfl)
                have k38 : a.tmps.getD 38 undef = .int .i64 (rR L k k) := hD 29 38 (by kernel_rfl)
                refine plan_want rfl (by kernel_rfl) k32 ?_
                refine plan_value (v := .bool true) (w' := W) (by go_simp) ⟨_, rfl, hS, Grows.refl _, rfl⟩
              · intro a W hS hE hD
                have k32 : a.tmps.getD 32 undef = .bool false := hD 23 32 (by kernel_rfl)
                have k39 : a.tmps.getD 39 undef = .bool true := hD 30 39 (by kernel_rfl)
                refine plan_free rfl ?_
                refine plan_value (v := .bool true) (w' := W) (by go_simp) ⟨_, rfl, hS, Grows.refl _, rfl⟩
              · intro a W hS hE hD
                have k40 : a.tmps.getD 40 undef = .bool true := hD 31 40 (by kernel_rfl)
                refine plan_free rfl ?_
                refine plan_value ex_move ⟨_, rfl, hS, Grows.refl _, ?_⟩
                exact k40
              · intro a W hS hE hD
                have k41 : a.tmps.getD 41 undef = .bool true := hD 32 41 (by kernel_rfl)
                refine plan_skip rfl (by kernel_rfl) k41 rfl ?_
                exact rfl
              · intro a W hS hE hD
                have k41 : a.tmps.getD 41 undef = .bool true := hD 32 41 (by kernel_rfl)
                refine plan_skip rfl (by kernel_rfl) k41 rfl ?_
                exact rfl
              · intro a W hS hE hD
                have k41 : a.tmps.getD 41 undef = .bool true := hD 32 41 (by kernel_rfl)
                refine plan_skip rfl (by kernel_rfl) k41 rfl ?_
                exact rfl
              · intro a W hS hE hD
                have k41 : a.tmps.getD 41 undef = .bool true := hD 32 41 (by kernel_rfl)
                refine plan_skip rfl (by kernel_rfl) k41 rfl ?_
                exact rfl
              · intro a W hS hE hD
                have k41 : a.tmps.getD 41 undef = .bool true := hD 32 41 (by kernel_rfl)
                refine plan_skip rfl (by kernel_rfl) k41 rfl ?_
                exact rfl
              · intro a W hS hE hD
                have k41 : a.tmps.getD 41 undef = .bool true := hD 32 41 (by kernel_rfl)
                refine plan_skip rfl (by kernel_rfl) k41 rfl ?_
                exact rfl
              · intro a W hS hE hD
                have k41 : a.tmps.getD 41 undef = .bool true := hD 32 41 (by kernel_rfl)
                refine plan_skip rfl (by kernel_rfl) k41 rfl ?_
                exact rfl
              · intro a W hS hE hD
                have k41 : a.tmps.getD 41 undef = .bool true := hD 32 41 (by kernel_rfl)
                refine plan_skip rfl (by kernel_rfl) k41 rfl ?_
                exact rfl
              · intro a W hS hE hD
                have k41 : a.tmps.getD 41 undef = .bool true := hD 32 41 (by kernel_rfl)
                refine plan_skip rfl (by kernel_rfl) k41 rfl ?_
                exact rfl
              · intro a W hS hE hD
                have k41 : a.tmps.getD 41 undef = .bool true := hD 32 41 (by kernel_rfl)
                have k50 : a.tmps.getD 50 undef = undef := hD 41 50 (by kernel_rfl)
                refine plan_free rfl ?_
                refine plan_value (v := .bool true) (w' := W) (by go_simp) ⟨_, rfl, hS, Grows.refl _, rfl⟩
            · intro f w5 V5 hE
              have f51 : f 51 = .bool true := Ends.get hE 42 _ rfl 51 rfl
              clear hE
              simp only [setAll, List.setIfInBounds_toArray, List.set_cons_zero, List.set_cons_succ]
              rw [f51]; clear f51
              go_wp2_with fail
              go_ret
              exact ⟨by rw [MV.out]; rfl, V5.bel⟩
    · obtain rfl : k = 6 := by omega
      have AM := Lib.hid (amt_of hok)
      have OK6 := Lib.hid hok
      have LIM : Hid (sumTo (gR L) 6 = limitR L) := rfl
      rw [LIM.out, show ((6 : Nat) : Int) = 6 from rfl]
      clear hsum hok
      go_wp2_with fail
      go_loopw [59] (fun v wr => ∃ k : Nat, k ≤ 6 ∧ v = .int .i64 (k : Int) ∧ LfTo L k ∧ RS w wr w.heap.size L) (fun v _ => 6 - (intOf v).toNat)
      case atStart => exact ⟨0, by omega, rfl, rfl, hr⟩
      case round =>
        clear hr
        obtain ⟨k, hk, rfl, hlf, hr⟩ := hrel
        by_cases hlt2 : k < 6
        · have hk6 : (k : Int) < 6 := by omega
          have l1 := run_loadR hr.rb
          have HLF := Lib.hid hlf
          have MV : Hid (¬ 0 ≤ leftR L k → mayR L = false) := fun h => may_lf hlt2 h
          have LFT := Lib.hid (left_any L H54.out AM.out k hlt2 wr)
          have ST : Hid (0 ≤ leftR L k → LfTo L (k + 1)) := fun h => hlf.step h
          clear hlf
          generalize leftR L k = x at MV LFT ST
          by_cases hx : 0 ≤ x
          · have hx' : ¬ x < 0 := by omega
            go_wp2_with (go_at_call 44; refine LFT.out.mono ?_; rintro e w2 ⟨rfl, hb⟩; have hr2 := hr.next hb; clear hb)
            go_roundw
            case rel => exact ⟨k + 1, by omega, by go_num, ST.out hx, hr2⟩
            case measure => simp [intOf]; omega
          · have hx' : x < 0 := by omega
            go_wp2_with (go_at_call 44; refine LFT.out.mono ?_; rintro e w2 ⟨rfl, hb⟩; have hr2 := hr.next hb; clear hb)
            go_ret
            exact ⟨by rw [MV.out hx]; rfl, hr2.bel⟩
        · obtain rfl : k = 6 := by omega
          have MV := Lib.hid (may_sum OK6.out hlf)
          have HR := Lib.hid hr
          clear hlf hr
          go_wp2_with fail
          go_ret
          exact ⟨by rw [MV.out]; rfl, HR.out.bel⟩
end Go.Proofs.Ytmddbpkojboogaa
