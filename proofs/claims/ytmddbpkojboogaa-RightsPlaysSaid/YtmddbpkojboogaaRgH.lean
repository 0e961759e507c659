import Derived.Test.YtmddbpkojboogaaRgG
namespace Go.Proofs.Ytmddbpkojboogaa
open Go.RowKit
attribute [local go_sem ↓] exec_loadR exec_storeR
set_option maxHeartbeats 2000000
set_option maxRecDepth 100000
theorem giveC (L : List Int) (hm : mayR L = true) (k : Nat) (hk : k < 6) (x : Int) (hx1 : 1 ≤ x) (hx2 : x ≤ 1125899906842624) (γ gy gi : Nat) (W0 W : World) (t : TW W0 W γ [(gy, x), (gi, (k : Int) + 1)] L) :
    Calls Try.prog 55 #[.pointer (some ⟨γ, 0, none⟩), .func (.func 60) #[] #[.pointer (some ⟨gy, 0, none⟩)], .pointer (some ⟨gi, 0, none⟩)] W
      fun e w' => e = .returned (.int .i64 (giveE L k x).2) ∧ TW W0 w' γ [(gy, x), (gi, (k : Int) + 1)] (giveE L k x).1 := by
  have AM := Lib.hid (amt_may hm)
  have H54 := Lib.hid t.rb.len
  have hk0 : (0 : Int) ≤ (k : Int) := by omega
  have hk6 : (k : Int) < 6 := by omega
  have kw : IntKind.i64.wrap (k : Int) = (k : Int) := IntWalk.i64_in _ (by omega)
  have l1 := run_loadR t.rb
  have SUMS : Hid (∀ W, Calls Try.prog 29 #[.agg (rgtA L)] W fun e w' => e = .returned (.tuple #[.int .i64 (limitR L), .int .i64 (usedR L)]) ∧ Below W.heap.size W w') := by
    intro W; have := sums_any L H54.out W; rwa [show sumsR L = (limitR L, usedR L) by unfold sumsR; rw [if_pos hm]] at this
  have hge := sum_ge AM.out k hk
  have hgk := AM.out.g k hk
  have hl0 := sumG_bd AM.out 6 (by omega)
  clear hm
  by_cases h1 : limitR L + x ≤ 1125899906842624
  · have EV : Hid (giveE L k x = (L.set k (gR L k + x), 0)) := by show _ = _; unfold giveE; rw [if_pos h1]
    have HN := Lib.hid hgk.1
    have HL0 := Lib.hid (hl0.1 : 0 ≤ limitR L)
    have HLY : Hid (limitR L ≤ 1125899906842624 - x) := by show _ ≤ _; omega
    have HYES : Hid (gR L k ≤ 1125899906842624 - x) := by show _ ≤ _; omega
    clear h1 hge hgk hl0
    go_enter Try.func55, Try.ntmps55
    go_wp2_with (go_at_call 29; refine (SUMS.out _).mono ?_; rintro e w2 ⟨rfl, hb⟩)
    have T2 : TW W0 (w2.alloc (.cells #[.int .i64 (limitR L)] 2)) γ [(gy, x), (gi, (k : Int) + 1)] L := (t.next hb).alloc _
    have HG : γ < w2.heap.size := Nat.lt_of_lt_of_le t.rb.blk.lt hb.size
    have HGL : Hid (∀ p ∈ [(gy, x), (gi, (k : Int) + 1)], w2.heap.size ≠ p.1) := t.after hb
    have C2 : (w2.alloc (.cells #[.int .i64 (limitR L)] 2)).cell? ⟨w2.heap.size, 0, none⟩ = some (.int .i64 (limitR L)) := (Blk.new w2 _ _).cell 0
    have F2 : (w2.alloc (.cells #[.int .i64 (limitR L)] 2)).frozen? ⟨w2.heap.size, 0, none⟩ = false := (Blk.new w2 _ #[.int .i64 (limitR L)]).frozen 0
    have HGM : Hid (γ < w2.heap.size) := HG
    have HG0 : Hid (W0.heap.size ≤ w2.heap.size) := Nat.le_trans t.bel.size hb.size
    generalize w2.alloc (.cells #[.int .i64 (limitR L)] 2) = w3 at T2 C2 F2 ⊢
    generalize w2.heap.size = g at HG HGL C2 F2 HGM HG0 ⊢
    clear t hb l1 HG
    refine wp_region_by (fun ℓ W => TW W0 W γ [(gy, x), (gi, (k : Int) + 1)] (cond (ℓ 11) (L.set k (gR L k + x)) L) ∧ (ℓ 1 = false → W.cell? ⟨g, 0, none⟩ = some (.int .i64 (limitR L)) ∧ W.frozen? ⟨g, 0, none⟩ = false)) (fun _ _ => True) [IsV (.func (.func 60) #[] #[.pointer (some ⟨gy, 0, none⟩)]), IsV (.bool true), IsV (.bool false), IsV (.bool false), IsV (.func (.func 60) #[] #[.pointer (some ⟨gy, 0, none⟩)]), IsV (.pointer (some ⟨γ, 0, none⟩)), IsV (.int .i64 ((k : Int) + 1)), IsV (.int .i64 ((k : Int))), IsV (.pointer (some ⟨γ, 0, none⟩)), IsV (.pointer (some ⟨γ, 0, none⟩)), IsV (.pointer (some ⟨γ, k, none⟩)), IsV (.bool true), IsV (.bool false), IsV (.bool false)] ([(0, .pointer (some ⟨γ, 0, none⟩)), (1, .func (.func 60) #[] #[.pointer (some ⟨gy, 0, none⟩)]), (2, .pointer (some ⟨gi, 0, none⟩)), (6, .pointer (some ⟨g, 0, none⟩))] : List (Nat × Value)) (⟨rfl, rfl, rfl, rfl, trivial⟩) (n := 29) (by kernel_rfl) rfl (by kernel_rfl) ⟨T2.drew, fun _ => ⟨C2, F2⟩⟩ (fun _ => trivial) (StabBy.get ?_) ?_ ?_
    · repeat (first | exact trivial | refine ⟨fun _ _ _ _ h => h, ?_⟩)
    · refine ⟨?_, ⟨?_, ⟨?_, ⟨?_, ⟨?_, ⟨?_, ⟨?_, ⟨?_, ⟨?_, ⟨?_, ⟨?_, ⟨?_, ⟨?_, ⟨?_, trivial⟩⟩⟩⟩⟩⟩⟩⟩⟩⟩⟩⟩⟩⟩
      · intro a W ℓ hl hB hS hE hN hD
        obtain ⟨_, x1, _, _, _⟩ := hE
        have e1 := x1 (by kernel_rfl)
        refine plan_free rfl ?_
        refine plan_value ex_move ⟨_, rfl, hS, trivial, ?_⟩
        exact e1
      · intro a W ℓ hl hB hS hE hN hD
        obtain ⟨_, _, _, x6, _⟩ := hE
        have e6 := x6 (by kernel_rfl)
        have k15 : a.tmps.getD 15 undef = .func (.func 60) #[] #[.pointer (some ⟨gy, 0, none⟩)] := hD 0 15 (by kernel_rfl)
        refine plan_free rfl ?_
        have k6 := e6
        have h0 : W.cell? ⟨g, 0, none⟩ = some (.int .i64 (limitR L)) ∧ W.frozen? ⟨g, 0, none⟩ = false := hS.2 hl
        refine plan_call (f := 60) (args := #[.pointer (some ⟨g, 0, none⟩), .pointer (some ⟨gy, 0, none⟩)]) (ex_call77 k15 k6) ?_
        refine (add_yes g 0 gy (limitR L) x W h0.1 h0.2 (TW.at_ hS.1 0 rfl) HL0.out hx1 hx2 (Int.not_lt.2 HLY.out)).mono ?_
        rintro e W2 ⟨rfl, m, rfl⟩
        exact ⟨_, rfl, _, rfl, ⟨(TW.far hS.1 HGM.out HGL.out HG0.out _).drewN m, fun h => by simp [upd] at h⟩, trivial, rfl⟩
      · intro a W ℓ hl hB hS hE hN hD
        have k16 : a.tmps.getD 16 undef = .bool true := hD 1 16 (by kernel_rfl)
        refine plan_free rfl ?_
        refine plan_value (v := .bool false) (w' := W) (by go_simp) ⟨_, rfl, hS, trivial, rfl⟩
      · intro a W ℓ hl hB hS hE hN hD
        have k17 : a.tmps.getD 17 undef = .bool false := hD 2 17 (by kernel_rfl)
        refine plan_free rfl ?_
        refine plan_value ex_move ⟨_, rfl, hS, trivial, ?_⟩
        exact k17
      · intro a W ℓ hl hB hS hE hN hD
        obtain ⟨_, x1, _, _, _⟩ := hE
        have e1 := x1 (by kernel_rfl)
        have k18 : a.tmps.getD 18 undef = .bool false := hD 3 18 (by kernel_rfl)
        refine plan_want rfl (by kernel_rfl) k18 ?_
        refine plan_value ex_move ⟨_, rfl, hS, trivial, ?_⟩
        exact e1
      · intro a W ℓ hl hB hS hE hN hD
        obtain ⟨x0, _, _, _, _⟩ := hE
        have e0 := x0 (by kernel_rfl)
        have k18 : a.tmps.getD 18 undef = .bool false := hD 3 18 (by kernel_rfl)
        refine plan_want rfl (by kernel_rfl) k18 ?_
        refine plan_value ex_move ⟨_, rfl, hS, trivial, ?_⟩
        exact e0
      · intro a W ℓ hl hB hS hE hN hD
        obtain ⟨_, _, x2, _, _⟩ := hE
        have e2 := x2 (by kernel_rfl)
        have k18 : a.tmps.getD 18 undef = .bool false := hD 3 18 (by kernel_rfl)
        refine plan_want rfl (by kernel_rfl) k18 ?_
        have k2 := e2
        have hc := TW.at_ hS.1 1 rfl
        refine plan_value (v := .int .i64 ((k : Int) + 1)) (w' := W) (by go_simp) ⟨_, rfl, hS, trivial, rfl⟩
      · intro a W ℓ hl hB hS hE hN hD
        have k18 : a.tmps.getD 18 undef = .bool false := hD 3 18 (by kernel_rfl)
        have k21 : a.tmps.getD 21 undef = .int .i64 ((k : Int) + 1) := hD 6 21 (by kernel_rfl)
        refine plan_want rfl (by kernel_rfl) k18 ?_
        refine plan_value (v := .int .i64 ((k : Int))) (w' := W) (by go_simp) ⟨_, rfl, hS, trivial, rfl⟩
      · intro a W ℓ hl hB hS hE hN hD
        have k18 : a.tmps.getD 18 undef = .bool false := hD 3 18 (by kernel_rfl)
        have k20 : a.tmps.getD 20 undef = .pointer (some ⟨γ, 0, none⟩) := hD 5 20 (by kernel_rfl)
        refine plan_want rfl (by kernel_rfl) k18 ?_
        refine plan_value (v := .pointer (some ⟨γ, 0, none⟩)) (w' := W) (by go_simp) ⟨_, rfl, hS, trivial, rfl⟩
      · intro a W ℓ hl hB hS hE hN hD
        have k18 : a.tmps.getD 18 undef = .bool false := hD 3 18 (by kernel_rfl)
        have k23 : a.tmps.getD 23 undef = .pointer (some ⟨γ, 0, none⟩) := hD 8 23 (by kernel_rfl)
        refine plan_want rfl (by kernel_rfl) k18 ?_
        refine plan_value (v := .pointer (some ⟨γ, 0, none⟩)) (w' := W) (by go_simp) ⟨_, rfl, hS, trivial, rfl⟩
      · intro a W ℓ hl hB hS hE hN hD
        have k18 : a.tmps.getD 18 undef = .bool false := hD 3 18 (by kernel_rfl)
        have k24 : a.tmps.getD 24 undef = .pointer (some ⟨γ, 0, none⟩) := hD 9 24 (by kernel_rfl)
        have k22 : a.tmps.getD 22 undef = .int .i64 ((k : Int)) := hD 7 22 (by kernel_rfl)
        refine plan_want rfl (by kernel_rfl) k18 ?_
        refine plan_value (v := .pointer (some ⟨γ, k, none⟩)) (w' := W) (by go_simp) ⟨_, rfl, hS, trivial, rfl⟩
      · intro a W ℓ hl hB hS hE hN hD
        have k18 : a.tmps.getD 18 undef = .bool false := hD 3 18 (by kernel_rfl)
        have k19 : a.tmps.getD 19 undef = .func (.func 60) #[] #[.pointer (some ⟨gy, 0, none⟩)] := hD 4 19 (by kernel_rfl)
        have k25 : a.tmps.getD 25 undef = .pointer (some ⟨γ, k, none⟩) := hD 10 25 (by kernel_rfl)
        refine plan_want rfl (by kernel_rfl) k18 ?_
        have h0 : TW W0 W γ [(gy, x), (gi, (k : Int) + 1)] L := by
          have h := hS.1
          simp only [hl, cond_false] at h
          exact h
        have h2 : ℓ 1 = false → W.cell? ⟨g, 0, none⟩ = some (.int .i64 (limitR L)) ∧ W.frozen? ⟨g, 0, none⟩ = false := hS.2
        refine plan_call (f := 60) (args := #[.pointer (some ⟨γ, k, none⟩), .pointer (some ⟨gy, 0, none⟩)]) (ex_call77 k19 k25) ?_
        refine (add_yes γ k gy (gR L k) x W (h0.rb.g k hk) (h0.rb.blk.frozen _) (h0.at_ 0 rfl) HN.out hx1 hx2 (Int.not_lt.2 HYES.out)).mono ?_
        rintro e W2 ⟨rfl, m, rfl⟩
        exact ⟨_, rfl, _, rfl, ⟨(h0.put k _).drewN m, fun h => ⟨(World.cell?_setCell_far W ⟨γ, k, none⟩ ⟨g, 0, none⟩ _ (Nat.ne_of_lt HGM.out)).trans (h2 h).1, (World.frozen?_setCell ..).trans (h2 h).2⟩⟩, trivial, rfl⟩
      · intro a W ℓ hl hB hS hE hN hD
        have k18 : a.tmps.getD 18 undef = .bool false := hD 3 18 (by kernel_rfl)
        have k26 : a.tmps.getD 26 undef = .bool true := hD 11 26 (by kernel_rfl)
        refine plan_want rfl (by kernel_rfl) k18 ?_
        refine plan_value (v := .bool false) (w' := W) (by go_simp) ⟨_, rfl, hS, trivial, rfl⟩
      · intro a W ℓ hl hB hS hE hN hD
        have k18 : a.tmps.getD 18 undef = .bool false := hD 3 18 (by kernel_rfl)
        have k27 : a.tmps.getD 27 undef = .bool false := hD 12 27 (by kernel_rfl)
        refine plan_free rfl ?_
        refine plan_value (v := .bool false) (w' := W) (by go_simp) ⟨_, rfl, hS, trivial, rfl⟩
    · intro f w4 ℓ hl V4 hE
      have f28 : f 28 = .bool false := Ends.get hE 13 _ rfl 28 rfl
      clear hE
      simp only [setAll, List.setIfInBounds_toArray, List.set_cons_zero, List.set_cons_succ]
      rw [f28]; clear f28
      have V5 : TW W0 w4 γ [(gy, x), (gi, (k : Int) + 1)] (L.set k (gR L k + x)) := by
        have h := V4.1
        simp only [hl 11 (by simp), cond_true] at h
        exact h
      clear V4 T2
      go_wp2_with fail
      go_ret
      exact ⟨by rw [EV.out]; rfl, by rw [EV.out]; exact V5⟩
  · have EV : Hid (giveE L k x = (L, 6)) := by show _ = _; unfold giveE; rw [if_neg h1]
    have HLN : Hid (1125899906842624 - x < limitR L) := by show _ < _; omega
    clear h1 hge hgk hl0
    go_enter Try.func55, Try.ntmps55
    go_wp2_with (go_at_call 29; refine (SUMS.out _).mono ?_; rintro e w2 ⟨rfl, hb⟩)
    have T2 : TW W0 (w2.alloc (.cells #[.int .i64 (limitR L)] 2)) γ [(gy, x), (gi, (k : Int) + 1)] L := (t.next hb).alloc _
    have HG : γ < w2.heap.size := Nat.lt_of_lt_of_le t.rb.blk.lt hb.size
    have HGL : Hid (∀ p ∈ [(gy, x), (gi, (k : Int) + 1)], w2.heap.size ≠ p.1) := t.after hb
    have C2 : (w2.alloc (.cells #[.int .i64 (limitR L)] 2)).cell? ⟨w2.heap.size, 0, none⟩ = some (.int .i64 (limitR L)) := (Blk.new w2 _ _).cell 0
    have F2 : (w2.alloc (.cells #[.int .i64 (limitR L)] 2)).frozen? ⟨w2.heap.size, 0, none⟩ = false := (Blk.new w2 _ #[.int .i64 (limitR L)]).frozen 0
    have HGM : Hid (γ < w2.heap.size) := HG
    have HG0 : Hid (W0.heap.size ≤ w2.heap.size) := Nat.le_trans t.bel.size hb.size
    generalize w2.alloc (.cells #[.int .i64 (limitR L)] 2) = w3 at T2 C2 F2 ⊢
    generalize w2.heap.size = g at HG HGL C2 F2 HGM HG0 ⊢
    clear t hb l1 HG
    refine wp_region_by (fun ℓ W => TW W0 W γ [(gy, x), (gi, (k : Int) + 1)] L ∧ (ℓ 1 = false → W.cell? ⟨g, 0, none⟩ = some (.int .i64 (limitR L)) ∧ W.frozen? ⟨g, 0, none⟩ = false)) (fun _ _ => True) [IsV (.func (.func 60) #[] #[.pointer (some ⟨gy, 0, none⟩)]), IsV (.bool false), IsV (.bool true), IsV (.bool true), IsV (undef), IsV (undef), IsV (undef), IsV (undef), IsV (undef), IsV (undef), IsV (undef), IsV (undef), IsV (undef), IsV (.bool true)] ([(0, .pointer (some ⟨γ, 0, none⟩)), (1, .func (.func 60) #[] #[.pointer (some ⟨gy, 0, none⟩)]), (2, .pointer (some ⟨gi, 0, none⟩)), (6, .pointer (some ⟨g, 0, none⟩))] : List (Nat × Value)) (⟨rfl, rfl, rfl, rfl, trivial⟩) (n := 29) (by kernel_rfl) rfl (by kernel_rfl) ⟨T2.drew, fun _ => ⟨C2, F2⟩⟩ (fun _ => trivial) (StabBy.get ?_) ?_ ?_
    · repeat (first | exact trivial | refine ⟨fun _ _ _ _ h => h, ?_⟩)
    · refine ⟨?_, ⟨?_, ⟨?_, ⟨?_, ⟨?_, ⟨?_, ⟨?_, ⟨?_, ⟨?_, ⟨?_, ⟨?_, ⟨?_, ⟨?_, ⟨?_, trivial⟩⟩⟩⟩⟩⟩⟩⟩⟩⟩⟩⟩⟩⟩
      · intro a W ℓ hl hB hS hE hN hD
        obtain ⟨_, x1, _, _, _⟩ := hE
        have e1 := x1 (by kernel_rfl)
        refine plan_free rfl ?_
        refine plan_value ex_move ⟨_, rfl, hS, trivial, ?_⟩
        exact e1
      · intro a W ℓ hl hB hS hE hN hD
        obtain ⟨_, _, _, x6, _⟩ := hE
        have e6 := x6 (by kernel_rfl)
        have k15 : a.tmps.getD 15 undef = .func (.func 60) #[] #[.pointer (some ⟨gy, 0, none⟩)] := hD 0 15 (by kernel_rfl)
        refine plan_free rfl ?_
        have k6 := e6
        have h0 : W.cell? ⟨g, 0, none⟩ = some (.int .i64 (limitR L)) ∧ W.frozen? ⟨g, 0, none⟩ = false := hS.2 hl
        refine plan_call (f := 60) (args := #[.pointer (some ⟨g, 0, none⟩), .pointer (some ⟨gy, 0, none⟩)]) (ex_call77 k15 k6) ?_
        refine (add_no g 0 gy (limitR L) x W h0.1 (TW.at_ hS.1 0 rfl) hx1 hx2 HLN.out).mono ?_
        rintro e W2 ⟨rfl, m, rfl⟩
        exact ⟨_, rfl, _, rfl, ⟨TW.drewN hS.1 m, fun h => by simp [upd] at h⟩, trivial, rfl⟩
      · intro a W ℓ hl hB hS hE hN hD
        have k16 : a.tmps.getD 16 undef = .bool false := hD 1 16 (by kernel_rfl)
        refine plan_free rfl ?_
        refine plan_value (v := .bool true) (w' := W) (by go_simp) ⟨_, rfl, hS, trivial, rfl⟩
      · intro a W ℓ hl hB hS hE hN hD
        have k17 : a.tmps.getD 17 undef = .bool true := hD 2 17 (by kernel_rfl)
        refine plan_free rfl ?_
        refine plan_value ex_move ⟨_, rfl, hS, trivial, ?_⟩
        exact k17
      · intro a W ℓ hl hB hS hE hN hD
        have k18 : a.tmps.getD 18 undef = .bool true := hD 3 18 (by kernel_rfl)
        refine plan_skip rfl (by kernel_rfl) k18 rfl ?_
        exact ⟨hS, rfl⟩
      · intro a W ℓ hl hB hS hE hN hD
        have k18 : a.tmps.getD 18 undef = .bool true := hD 3 18 (by kernel_rfl)
        refine plan_skip rfl (by kernel_rfl) k18 rfl ?_
        exact ⟨hS, rfl⟩
      · intro a W ℓ hl hB hS hE hN hD
        have k18 : a.tmps.getD 18 undef = .bool true := hD 3 18 (by kernel_rfl)
        refine plan_skip rfl (by kernel_rfl) k18 rfl ?_
        exact ⟨hS, rfl⟩
      · intro a W ℓ hl hB hS hE hN hD
        have k18 : a.tmps.getD 18 undef = .bool true := hD 3 18 (by kernel_rfl)
        refine plan_skip rfl (by kernel_rfl) k18 rfl ?_
        exact ⟨hS, rfl⟩
      · intro a W ℓ hl hB hS hE hN hD
        have k18 : a.tmps.getD 18 undef = .bool true := hD 3 18 (by kernel_rfl)
        refine plan_skip rfl (by kernel_rfl) k18 rfl ?_
        exact ⟨hS, rfl⟩
      · intro a W ℓ hl hB hS hE hN hD
        have k18 : a.tmps.getD 18 undef = .bool true := hD 3 18 (by kernel_rfl)
        refine plan_skip rfl (by kernel_rfl) k18 rfl ?_
        exact ⟨hS, rfl⟩
      · intro a W ℓ hl hB hS hE hN hD
        have k18 : a.tmps.getD 18 undef = .bool true := hD 3 18 (by kernel_rfl)
        refine plan_skip rfl (by kernel_rfl) k18 rfl ?_
        exact ⟨hS, rfl⟩
      · intro a W ℓ hl hB hS hE hN hD
        have k18 : a.tmps.getD 18 undef = .bool true := hD 3 18 (by kernel_rfl)
        refine plan_skip rfl (by kernel_rfl) k18 rfl ?_
        exact ⟨hS, rfl⟩
      · intro a W ℓ hl hB hS hE hN hD
        have k18 : a.tmps.getD 18 undef = .bool true := hD 3 18 (by kernel_rfl)
        refine plan_skip rfl (by kernel_rfl) k18 rfl ?_
        exact ⟨hS, rfl⟩
      · intro a W ℓ hl hB hS hE hN hD
        have k18 : a.tmps.getD 18 undef = .bool true := hD 3 18 (by kernel_rfl)
        have k27 : a.tmps.getD 27 undef = undef := hD 12 27 (by kernel_rfl)
        refine plan_free rfl ?_
        refine plan_value (v := .bool true) (w' := W) (by go_simp) ⟨_, rfl, hS, trivial, rfl⟩
    · intro f w4 ℓ hl V4 hE
      have f28 : f 28 = .bool true := Ends.get hE 13 _ rfl 28 rfl
      clear hE
      simp only [setAll, List.setIfInBounds_toArray, List.set_cons_zero, List.set_cons_succ]
      rw [f28]; clear f28
      have V5 : TW W0 w4 γ [(gy, x), (gi, (k : Int) + 1)] L := V4.1
      clear V4 T2
      go_wp2_with fail
      go_ret
      exact ⟨by rw [EV.out]; rfl, by rw [EV.out]; exact V5⟩
end Go.Proofs.Ytmddbpkojboogaa
