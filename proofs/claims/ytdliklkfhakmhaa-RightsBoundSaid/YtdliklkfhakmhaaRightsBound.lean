/-
  For every slice of steps: whatever is done, what is used is never more than the limit, all regions' rights and what is used together are the limit, which is what was given, and no call makes a number less; no further conditions.
-/
import Derived.Test.YtdliklkfhakmhaaRows
import Derived.WalkKit
import Derived.ProofKit
import Derived.OpenShut
import Derived.ShutString
import Derived.ChangeOld
import Derived.Below
import Derived.Test.YtdliklkfhakmhaaRgY
import Derived.Deep.DeepCutAuto
namespace Go.Proofs.Ytdliklkfhakmhaa.rightsBound
open Go.ChangeShapes Go.WideShapes Go.ChangeAt Go.RowKit
open Go.ChangeMaps (open_string shut_string)
set_option linter.unusedVariables false

theorem own : ownKnob Try.prog.godebug = none := by kernel_rfl
theorem laidOut : laidOutB Try.prog = true := by kernel_rfl

attribute [local go_sem ↓] exec_loadR exec_storeR exec_allocR exec_buildR

set_option maxRecDepth 100000 in
set_option maxHeartbeats 4000000 in
theorem walk (A0 : Option Addr) (l0 : List RStep) (c0 : Nat) (w : World) (w0 : RSteps w w.heap.size A0 l0) (u0 : ∀ p ∈ l0, p.ok) (g0 : l0.length ≤ c0) (m0 : c0 ≤ maxLen) :
    Calls Try.prog 11 #[.slice A0 l0.length c0] w fun e w' => e = .returned (.bool true) ∧ Below w.heap.size w w' := by
  obtain ⟨n0, hn0⟩ : ∃ n, Hid (n = l0.length) := ⟨_, Lib.hid rfl⟩
  have D0 := Lib.hid w0
  have OK0 := Lib.hid u0
  have aR := run_allocR
  have bR := run_buildR
  have qZ : ∀ W, (Op.equalIn 10000 66 (.agg (rgtA Z54)) (.agg (rgtA Z54))).run Try.prog W = .ok true W := rgt_same rfl wf_z54 rfl
  have V1 : Rs w (w.alloc (.cells (rgtA Z54) 66)) [(w.heap.size, Z54)] := (Rs.nil w).new rfl _ rfl
  have hzw : Calls Try.prog 11 #[.slice A0 n0 c0] w fun e w' => e = .returned (.bool true) ∧ Below w.heap.size w w' := by
    clear w0 u0
    by_cases h50 : 200 < n0
    · have h1 : (200 : Int) < (n0 : Int) := by omega
      go_enter Try.func11, Try.ntmps11
      go_wp2_with fail
      refine (rgworks_any _).mono ?_
      rintro e w2 ⟨rfl, hb2⟩
      go_wp2_with fail
      go_ret
      exact ⟨rfl, hb2⟩
    have h1 : ¬ (200 : Int) < (n0 : Int) := by omega
    go_enter Try.func11, Try.ntmps11
    go_wp2_with fail
    go_loopw [4, 5] (fun g v wr => ∃ (k : Nat) (L : List Int), k ≤ n0 ∧ v = .int .i64 (k : Int) ∧ g = .int .i64 (limitR L) ∧ Rs w wr [(w.heap.size, L)] ∧ mayR L = true) (fun _ v _ => n0 - (intOf v).toNat)
    case atStart => exact ⟨0, Z54, by omega, rfl, by rw [lim_z54], V1, may_z54⟩
    case round =>
      clear V1
      obtain ⟨k, L, hk, rfl, rfl, V, hm⟩ := hrel
      have HM := Lib.hid hm
      have HL := Lib.hid (V.nth 0 rfl).len
      clear hm
      by_cases hlt : k < n0
      · have hkl : k < l0.length := by rw [← hn0.out]; exact hlt
        obtain ⟨b, off, rfl, hB, hc⟩ := D0.out (by omega)
        have RN := hc k l0[k] (List.getElem?_eq_getElem hkl)
        have ok := OK0.out _ (List.getElem_mem hkl)
        generalize l0[k] = s at RN ok
        have RNG : Hid (∀ W, Below w.heap.size w W → W.rangeAt b (off + k * 4) (stepL s)) := fun W hb j v hj => (hb.cell (p := ⟨b, off + k * 4 + j, none⟩) hB).trans (RN j v hj)
        obtain ⟨A, er, hE⟩ : ∃ M e, doesR s L = (M, e) := ⟨_, _, rfl⟩
        have HA : Hid (A.length = 54) := by have := does_len (s := s) HL.out; rw [hE] at this; exact this
        have DOES : Hid (∀ W, Calls Try.prog 45 #[.agg (stepA s), .agg (rgtA L)] W fun e w' => e = .returned (.tuple #[.agg (rgtA A), .int .i64 er]) ∧ Below W.heap.size W w') := by
          intro W; have := does_any s ok.d L HL.out W; rwa [hE] at this
        have HE := Lib.hid hE
        have hd256 : (s.d : Int) < 256 := by have := ok.d; omega
        have hk0 : (0 : Int) ≤ (k : Int) := by omega
        have hkn : (k : Int) < (n0 : Int) := by omega
        have HLIM := Lib.hid (may_limit HM.out)
        obtain ⟨gv, hgv⟩ : ∃ gv, Hid (limitR L = gv) := ⟨_, Lib.hid rfl⟩
        rw [hgv.out]
        clear hc RN ok hE
        go_wp2_with fail
        refine wp_region_cy (fun ℓ t W => GA w wr.heap.size [(w.heap.size, L)] 6 A (ℓ 9) (ℓ 10) t W) (fun _ _ => True) [IsV (.slice (some ⟨b, off, none⟩) n0 c0), IsV (.int .i64 (k : Int)), IsV (.pointer (some ⟨b, off + k * 4, none⟩)), IsV (.agg (stepA s)), IsV (.agg (rgtA L)), IsV (.tuple #[.agg (rgtA A), .int .i64 er]), IsV (.tuple #[.agg (rgtA A), .int .i64 er]), IsV (.agg (rgtA A)), IsV (.int .i64 er), fun _ _ => True, fun _ _ => True, IsV (.int .i64 er)] ([(0, .slice (some ⟨b, off, none⟩) n0 c0), (3, .pointer (some ⟨w.heap.size, 0, none⟩)), (5, .int .i64 (k : Int))] : List (Nat × Value)) (⟨rfl, rfl, rfl, trivial⟩) (n := 98) (by kernel_rfl) rfl (by kernel_rfl) (GA.first (RG.start V)) (fun _ => trivial) (StabBy.get ?_) ?_ ?_
        · repeat (first | exact trivial | refine ⟨fun _ _ _ _ h => h, ?_⟩)
        · refine ⟨?_, ⟨?_, ⟨?_, ⟨?_, ⟨?_, ⟨?_, ⟨?_, ⟨?_, ⟨?_, ⟨?_, ⟨?_, ⟨?_, trivial⟩⟩⟩⟩⟩⟩⟩⟩⟩⟩⟩⟩
          · intro a W ℓ hZ hl hB hS hE hN hD
            obtain ⟨x0, _, _, _⟩ := hE
            have e0 := x0 (by kernel_rfl)
            refine plan_free rfl ?_
            refine plan_value ex_move ⟨_, rfl, (GA.put hS (by simp)), trivial, ?_⟩
            exact e0
          · intro a W ℓ hZ hl hB hS hE hN hD
            obtain ⟨_, _, x5, _⟩ := hE
            have e5 := x5 (by kernel_rfl)
            refine plan_free rfl ?_
            refine plan_value ex_move ⟨_, rfl, (GA.put hS (by simp)), trivial, ?_⟩
            exact e5
          · intro a W ℓ hZ hl hB hS hE hN hD
            have k24 : a.tmps.getD 24 undef = .slice (some ⟨b, off, none⟩) n0 c0 := hD 0 24 (by kernel_rfl)
            have k25 : a.tmps.getD 25 undef = .int .i64 (k : Int) := hD 1 25 (by kernel_rfl)
            refine plan_free rfl ?_
            refine plan_value (v := .pointer (some ⟨b, off + k * 4, none⟩)) (w' := W) (by go_simp) ⟨_, rfl, (GA.put hS (by simp)), trivial, rfl⟩
          · intro a W ℓ hZ hl hB hS hE hN hD
            have k26 : a.tmps.getD 26 undef = .pointer (some ⟨b, off + k * 4, none⟩) := hD 2 26 (by kernel_rfl)
            refine plan_free rfl ?_
            refine plan_value (ex_loadS k26 (RNG.out W hS.base.rs.bel)) ⟨_, rfl, (GA.put hS (by simp)), trivial, rfl⟩
          · intro a W ℓ hZ hl hB hS hE hN hD
            obtain ⟨_, x3, _, _⟩ := hE
            have e3 := x3 (by kernel_rfl)
            refine plan_free rfl ?_
            have k3 := e3
            refine plan_value (ex_loadR k3 (hS.base.rs.nth 0 rfl)) ⟨_, rfl, (GA.put hS (by simp)), trivial, rfl⟩
          · intro a W ℓ hZ hl hB hS hE hN hD
            have k27 : a.tmps.getD 27 undef = .agg (stepA s) := hD 3 27 (by kernel_rfl)
            have k28 : a.tmps.getD 28 undef = .agg (rgtA L) := hD 4 28 (by kernel_rfl)
            refine plan_free rfl ?_
            refine plan_call (f := 45) (args := #[a.tmps.getD 27 undef, a.tmps.getD 28 undef]) (by kernel_rfl) ?_
            rw [k27, k28]
            refine (DOES.out W).mono ?_
            rintro e W2 ⟨rfl, hb⟩
            exact ⟨_, rfl, _, rfl, (GA.put (GA.next hS hb) (by simp)), trivial, rfl⟩
          · intro a W ℓ hZ hl hB hS hE hN hD
            have k29 : a.tmps.getD 29 undef = .tuple #[.agg (rgtA A), .int .i64 er] := hD 5 29 (by kernel_rfl)
            refine plan_free rfl ?_
            refine plan_value ex_move ⟨_, rfl, (GA.put hS (by simp)), trivial, ?_⟩
            exact k29
          · intro a W ℓ hZ hl hB hS hE hN hD
            have k23 : a.tmps.getD 23 undef = .tuple #[.agg (rgtA A), .int .i64 er] := hD 6 23 (by kernel_rfl)
            refine plan_free rfl ?_
            refine plan_value (v := .agg (rgtA A)) (w' := W) (by go_simp) ⟨_, rfl, (GA.put hS (by simp)), trivial, rfl⟩
          · intro a W ℓ hZ hl hB hS hE hN hD
            have k23 : a.tmps.getD 23 undef = .tuple #[.agg (rgtA A), .int .i64 er] := hD 6 23 (by kernel_rfl)
            refine plan_free rfl ?_
            refine plan_value (v := .int .i64 er) (w' := W) (by go_simp) ⟨_, rfl, (GA.put hS (by simp)), trivial, rfl⟩
          · intro a W ℓ hZ hl hB hS hE hN hD
            refine plan_free rfl ?_
            have h0 : GA w wr.heap.size [(w.heap.size, L)] 6 A (ℓ 9) false a.tmps W := by
              have h := hS
              simp only [hB 10 (by kernel_rfl)] at h
              exact h
            refine plan_value ex_allocR ⟨_, rfl, ?_, trivial, trivial⟩
            show GA w wr.heap.size [(w.heap.size, L)] 6 A true (ℓ 10) _ _
            rw [hB 10 (by kernel_rfl)]
            exact GA.alloc h0 (by rw [hZ]; omega)
          · intro a W ℓ hZ hl hB hS hE hN hD
            have k30 : a.tmps.getD 30 undef = .agg (rgtA A) := hD 7 30 (by kernel_rfl)
            refine plan_free rfl ?_
            have h0 : GA w wr.heap.size [(w.heap.size, L)] 6 A true false a.tmps W := by
              have h := hS
              simp only [hl, hN 9 6 (by kernel_rfl)] at h
              exact h
            obtain ⟨g, hg, _⟩ := h0.new rfl
            obtain ⟨r1, r2⟩ := GA.store h0 hg HA.out
            refine plan_unit (ex_storeR hg k30 HA.out r1) ⟨_, rfl, ?_, trivial, trivial⟩
            show GA w wr.heap.size [(w.heap.size, L)] 6 A (ℓ 9) true _ _
            rw [hN 9 6 (by kernel_rfl)]
            exact r2
          · intro a W ℓ hZ hl hB hS hE hN hD
            have k31 : a.tmps.getD 31 undef = .int .i64 er := hD 8 31 (by kernel_rfl)
            refine plan_free rfl ?_
            refine plan_value ex_assign ⟨_, rfl, (GA.put hS (by simp)), trivial, ?_⟩
            exact k31
        · intro f w6 ℓ hl V6 hE
          obtain ⟨gn, hgn, hg0, hgA⟩ := V6.new (hl 9 (by simp))
          have f6 : f 6 = .pointer (some ⟨gn, 0, none⟩) := (setAll_at f 6 _ _ (by simp) (by simp)).symm.trans hgn
          have hgB : RB w6 gn A := by
            have h := hgA
            simp only [hl 10 (by simp), cond_true] at h
            exact h
          have f7 : f 7 = .int .i64 er := Ends.get hE 11 _ rfl 7 rfl
          clear hE
          simp only [setAll, List.setIfInBounds_toArray, List.set_cons_zero, List.set_cons_succ]
          rw [f7]; clear f7
          rw [f6]; clear f6 hgn hgA
          have V6' := Lib.hid V6.base.rs
          have HGN := Lib.hid hgB
          clear V V6 hgB hl
          by_cases he : er = 0
          · subst he
            obtain ⟨_, g1, hx1, hx2⟩ := does_goes HL.out HE.out
            have V7 : Rs w w6 [(w.heap.size, L), (gn, A)] := ⟨fun p hp => by
              simp only [List.mem_cons, List.not_mem_nil, or_false] at hp
              rcases hp with rfl | rfl
              · exact V6'.out.nth 0 rfl
              · exact HGN.out, V6'.out.bel⟩
            have JC := Lib.hid (joinR_any L A HL.out HA.out)
            rw [g1.up] at JC
            have MA := Lib.hid (mayR_any A HA.out)
            rw [g1.may] at MA
            have WFA := Lib.hid (wf_may HA.out (amt_may g1.may))
            have q1 : ∀ W, (Op.equalIn 10000 66 (.agg (rgtA A)) (.agg (rgtA A))).run Try.prog W = .ok true W := rgt_same HA.out WFA.out rfl
            have G1 := Lib.hid g1
            have hlim := g1.lim
            rw [hgv.out] at hlim
            have hgbd : 0 ≤ gv ∧ gv ≤ 1125899906842624 := by rw [← hgv.out]; exact ⟨(sumG_bd (amt_may HM.out) 6 (by omega)).1, HLIM.out⟩
            obtain ⟨hg0, hg1⟩ := hgbd
            have HLA := Lib.hid hlim
            clear g1 hlim
            go_wp2_with fail
            refine wp_region_plan (fun W => Rs w W [(w.heap.size, L), (gn, A)]) Grows [IsV (.agg (rgtA L)), IsV (.agg (rgtA A)), IsV (.agg (rgtA A)), IsV (.agg (rgtA A)), IsV (.bool false), IsV (.bool false), IsV (.agg (rgtA A)), IsV (.bool true), IsV (.bool false), IsV (.bool false)] ([(3, .pointer (some ⟨w.heap.size, 0, none⟩)), (6, .pointer (some ⟨gn, 0, none⟩))] : List (Nat × Value)) (⟨rfl, rfl, trivial⟩) (n := 98) (by kernel_rfl) rfl (by kernel_rfl) V7.drew Grows.refl (StabAll.get ?_) ?_ ?_
            · repeat (first | exact trivial | refine ⟨stab_c _, ?_⟩ | refine ⟨stab_two _ _, ?_⟩ | refine ⟨fun _ _ _ _ _ _ _ => trivial, ?_⟩)
            · refine ⟨?_, ⟨?_, ⟨?_, ⟨?_, ⟨?_, ⟨?_, ⟨?_, ⟨?_, ⟨?_, ⟨?_, trivial⟩⟩⟩⟩⟩⟩⟩⟩⟩⟩
              · intro a W hS hE hD
                obtain ⟨x3, _, _⟩ := hE
                have e3 := x3 (by kernel_rfl)
                refine plan_free rfl ?_
                have k3 := e3
                refine plan_value (ex_loadR k3 (hS.nth 0 rfl)) ⟨_, rfl, hS, Grows.refl _, rfl⟩
              · intro a W hS hE hD
                obtain ⟨_, x6, _⟩ := hE
                have e6 := x6 (by kernel_rfl)
                refine plan_free rfl ?_
                have k6 := e6
                refine plan_value (ex_loadR k6 (hS.nth 1 rfl)) ⟨_, rfl, hS, Grows.refl _, rfl⟩
              · intro a W hS hE hD
                have k37 : a.tmps.getD 37 undef = .agg (rgtA L) := hD 0 37 (by kernel_rfl)
                have k38 : a.tmps.getD 38 undef = .agg (rgtA A) := hD 1 38 (by kernel_rfl)
                refine plan_free rfl ?_
                refine plan_call (f := 46) (args := #[a.tmps.getD 37 undef, a.tmps.getD 38 undef]) (by kernel_rfl) ?_
                rw [k37, k38]
                refine (JC.out W).mono ?_
                rintro e W2 ⟨rfl, hb⟩
                refine ⟨_, rfl, _, rfl, hS.next hb, hb, ?_⟩
                exact rfl
              · intro a W hS hE hD
                obtain ⟨_, x6, _⟩ := hE
                have e6 := x6 (by kernel_rfl)
                refine plan_free rfl ?_
                have k6 := e6
                refine plan_value (ex_loadR k6 (hS.nth 1 rfl)) ⟨_, rfl, hS, Grows.refl _, rfl⟩
              · intro a W hS hE hD
                have k39 : a.tmps.getD 39 undef = .agg (rgtA A) := hD 2 39 (by kernel_rfl)
                have k40 : a.tmps.getD 40 undef = .agg (rgtA A) := hD 3 40 (by kernel_rfl)
                refine plan_free rfl ?_
                refine plan_value (v := .bool false) (w' := W) (by go_simp) ⟨_, rfl, hS, Grows.refl _, rfl⟩
              · intro a W hS hE hD
                have k41 : a.tmps.getD 41 undef = .bool false := hD 4 41 (by kernel_rfl)
                refine plan_free rfl ?_
                refine plan_value ex_move ⟨_, rfl, hS, Grows.refl _, ?_⟩
                exact k41
              · intro a W hS hE hD
                obtain ⟨_, x6, _⟩ := hE
                have e6 := x6 (by kernel_rfl)
                have k42 : a.tmps.getD 42 undef = .bool false := hD 5 42 (by kernel_rfl)
                refine plan_want rfl (by kernel_rfl) k42 ?_
                have k6 := e6
                refine plan_value (ex_loadR k6 (hS.nth 1 rfl)) ⟨_, rfl, hS, Grows.refl _, rfl⟩
              · intro a W hS hE hD
                have k42 : a.tmps.getD 42 undef = .bool false := hD 5 42 (by kernel_rfl)
                have k43 : a.tmps.getD 43 undef = .agg (rgtA A) := hD 6 43 (by kernel_rfl)
                refine plan_want rfl (by kernel_rfl) k42 ?_
                refine plan_call (f := 47) (args := #[a.tmps.getD 43 undef]) (by kernel_rfl) ?_
                rw [k43]
                refine (MA.out W).mono ?_
                rintro e W2 ⟨rfl, hb⟩
                refine ⟨_, rfl, _, rfl, hS.next hb, hb, ?_⟩
                exact rfl
              · intro a W hS hE hD
                have k42 : a.tmps.getD 42 undef = .bool false := hD 5 42 (by kernel_rfl)
                have k44 : a.tmps.getD 44 undef = .bool true := hD 7 44 (by kernel_rfl)
                refine plan_want rfl (by kernel_rfl) k42 ?_
                refine plan_value (v := .bool false) (w' := W) (by go_simp) ⟨_, rfl, hS, Grows.refl _, rfl⟩
              · intro a W hS hE hD
                have k42 : a.tmps.getD 42 undef = .bool false := hD 5 42 (by kernel_rfl)
                have k45 : a.tmps.getD 45 undef = .bool false := hD 8 45 (by kernel_rfl)
                refine plan_free rfl ?_
                refine plan_value (v := .bool false) (w' := W) (by go_simp) ⟨_, rfl, hS, Grows.refl _, rfl⟩
            · intro f w7 V8 hE
              have f46 : f 46 = .bool false := Ends.get hE 9 _ rfl 46 rfl
              clear hE
              simp only [setAll, List.setIfInBounds_toArray, List.set_cons_zero, List.set_cons_succ]
              rw [f46]; clear f46
              have V8h := Lib.hid V8
              have c0 := RNG.out w7 V8.bel 0 _ rfl
              have c3 := RNG.out w7 V8.bel 3 _ rfl
              rw [Nat.add_zero] at c0
              have lA := run_loadR (V8.nth 1 rfl)
              have sA := run_storeR HA.out (V8.nth 0 rfl).blk (by rw [rgtA_size, HL.out])
              have V8' : Rs w w7 [(w.heap.size, L)] := ⟨fun p hp => V8.blk p (by rw [List.mem_singleton.1 hp]; exact List.mem_cons_self ..), V8.bel⟩
              have V9 : Hid (Rs w (w7.setRow w.heap.size (rgtA A)) [(w.heap.size, A)]) := Rs.row (l := []) V8' (by intro p hp; cases hp) HA.out (Nat.le_refl _)
              have hsum : limitR A ≤ 1125899906842624 := may_limit G1.out.may
              have SA := Lib.hid (sums_any A HA.out)
              rw [sums_may G1.out.may] at SA
              have hu := upTo_bd G1.out.may 0 (by omega)
              have hu0 : 0 ≤ usedR A := hu.1
              have hu1 : usedR A ≤ limitR A := hu.2
              have e0 : Hid (upTo A 0 = usedR A) := rfl
              have hd0 : (0 : Int) ≤ (s.d : Int) := by omega
              clear V8 V8' hu V6' HGN JC MA q1
              by_cases hd4 : s.d % 4 = 0
              case' pos =>
                have hri : (s.d : Int) % 4 = 0 := by omega
                have HLE : Hid (limitR A = gv + s.x) := by have := HLA.out; unfold givenX at this; rwa [if_pos hd4] at this
              case' neg =>
                have hri : ((s.d : Int) % 4 == 0) = false := by
                  have : ¬ (s.d : Int) % 4 = 0 := by omega
                  simpa using this
                have HLE : Hid (limitR A = gv) := by have := HLA.out; unfold givenX at this; rwa [if_neg hd4, Int.add_zero] at this
              all_goals
                rw [HLE.out] at hsum hu1 SA
                generalize usedR A = uu at SA hu0 hu1 e0
                clear hd4
                have lA2 := run_loadR (V9.out.nth 0 rfl)
                go_wp2_with fail
                refine (SA.out _).mono ?_
                rintro e w8 ⟨rfl, hb⟩
                have VA := V9.out.next hb
                clear hb lA2 c0 c3 lA sA
                go_wp2_with fail
                go_loopw [10, 11] (fun a v wr => ∃ q : Nat, q ≤ 6 ∧ v = .int .i64 ((q : Int) + 1) ∧ a = .int .i64 (upTo A q) ∧ Rs w wr [(w.heap.size, A)]) (fun _ v _ => (7 - intOf v).toNat)
                case atStart => exact ⟨0, by omega, rfl, by rw [e0.out], VA⟩
                case round =>
                  clear VA
                  obtain ⟨q, hq, rfl, rfl, VB⟩ := hrel
                  by_cases hq6 : q < 6
                  · have hqi : (q : Int) + 1 ≤ 6 := by omega
                    have hq0 : (0 : Int) ≤ (q : Int) := by omega
                    have LC := Lib.hid (local_any A HA.out ((q : Int) + 1))
                    rw [local_may G1.out.may q hq6] at LC
                    have lB := run_loadR (VB.nth 0 rfl)
                    have hl0 := may_left G1.out.may q hq6
                    obtain ⟨b1, b2⟩ := upTo_bd G1.out.may q (by omega)
                    obtain ⟨b3, b4⟩ := upTo_bd G1.out.may (q + 1) (by omega)
                    have e1 : Hid (upTo A (q + 1) = upTo A q + leftR A q) := rfl
                    rw [HLE.out] at b2 b4
                    rw [e1.out] at b3 b4
                    generalize leftR A q = x at LC hl0 e1 b3 b4
                    generalize upTo A q = y at b1 b2 b3 b4 e1
                    go_wp2_with fail
                    refine (LC.out _).mono ?_
                    rintro e w9 ⟨rfl, hb⟩
                    have VC := VB.next hb
                    clear hb lB VB
                    go_wp2_with fail
                    go_roundw
                    case rel => exact ⟨q + 1, by omega, by go_num, by rw [e1.out], VC⟩
                    case measure => simp [intOf]; omega
                  · obtain rfl : q = 6 := by omega
                    rw [upTo_all, HLE.out]
                    go_wp2_with fail
                    go_roundw
                    case rel => exact ⟨k + 1, A, by omega, by go_num, by rw [HLE.out], VB, G1.out.may⟩
                    case measure => simp [intOf]; omega
          · have heb : (er == 0) = false := by simpa using he
            obtain rfl := does_no HE.out he
            have l1 := run_loadR HGN.out
            have HM2 := Lib.hid HM.out
            clear he
            go_wp2_with fail
            go_roundw
            case rel => exact ⟨k + 1, L, by omega, by go_num, by rw [hgv.out], ⟨V6'.out.blk, V6'.out.bel⟩, HM2.out⟩
            case measure => simp [intOf]; omega
      · obtain rfl : k = n0 := by omega
        have V2 := V.bel
        clear V
        go_wp2_with fail
        refine (rgworks_any _).mono ?_
        rintro e w2 ⟨rfl, hb2⟩
        have VF := V2.trans (hb2.mono V2.size)
        go_wp2_with fail
        go_ret
        exact ⟨rfl, VF⟩
  rw [← hn0.out]
  exact hzw

set_option maxRecDepth 100000 in
theorem lifted (os : Os) (started : os.Started) (H : Type) (enc : TypeId × Value → H) :
    ReturnsInHanded {} Try.checked os 11 .any (Rows.rightsBoundSpec.pre6 enc Try.prog Try.f11 Rows.rightsBoundRow.domain false) (Rows.rightsBoundSpec.post enc Try.prog Try.f11 false true false false) := by
  refine returnsInHanded_of_change (C := Try.checked) own started (by kernel_rfl) Try.func11
    (ChangeSpec.witness6 (enc := enc) (C := Try.checked) false ⟨#[], #[.slice none 0 0], []⟩ 8 (by kernel_rfl) (by kernel_rfl) (by kernel_rfl) (by kernel_rfl)) ?_
  intro W base args ds gs before hval0 hW hcnd _
  have hval : ∀ (j : Nat) t v, Try.f11.params[j]? = some t → args[j]? = some v → Value.okWide Try.prog W .any base t v := hval0
  have hW' := hW
  obtain ⟨p, q, hA0, hV, rfl, hfz, hnd⟩ := hW
  have hA : DataW.TrodAll enc Try.prog W 0 (fun _ => true) true Try.f11.params.toList args.toList ds p := hA0
  rw [Try.params11] at hA hval
  obtain ⟨v0, vs0, d0, ds0, p0, q0, hargs, rfl, rfl, h0, r0⟩ := trodAll_cons hA
  obtain ⟨rfl, rfl, rfl⟩ := trodAll_nil r0
  obtain rfl : args = #[v0] := by cases args; simp_all
  obtain ⟨rfl, rfl⟩ := trodVars_none hV
  obtain ⟨A0, n0, c0, rfl⟩ := okWide_slice Try.underlying62 (hval 0 62 v0 rfl rfl)
  have k0 := h0
  have lt0 : ∀ x ∈ p0, x.block < W.heap.size := by obtain ⟨m, hm⟩ := k0; exact DataW.trod_lt m _ _ _ hm
  obtain ⟨g0, m0, l0, rfl, w0, u0⟩ := open_rsteps h0
  clear hA0 hval0
  refine (walk A0 l0 c0 W w0 u0 g0 m0).mono fun e W' ⟨he, bel⟩ => ?_
  subst he
  exact ⟨_, rfl, _, _, _, [], _, [], hW', trodAll_mk1 (shut_bool Try.underlying4 _), (trodAll_cons_mk (Below.trod laidOut (by kernel_rfl) (of_decide_eq_true (by kernel_rfl)) k0 bel lt0) trodAll_mk0), rfl, bel.frame _, fun h => by cases h⟩

theorem over : Rows.rightsBoundRow.holds Try.pinned (OpenSpec.ofChange Rows.rightsBoundSpec) :=
  OpenClaim.holds_of_wide 11 Try.f11 rfl rfl rfl rfl rfl rfl rfl ⟨rfl, rfl, rfl, rfl, rfl⟩ rfl rfl rfl rfl rfl (by kernel_rfl) Try.func11 (by kernel_rfl)
    (of_decide_eq_true (by kernel_rfl)) (by unfold Func.isWrapper; first | (rw [if_pos (by decide +kernel)]; kernel_rfl) | (rw [if_neg (by decide +kernel)]; exact ⟨rfl, rfl⟩))
    (fun os started H enc _ => lifted os started H enc)

theorem proved : Rows.RightsBoundSaid := over
#print axioms proved
end Go.Proofs.Ytdliklkfhakmhaa.rightsBound
