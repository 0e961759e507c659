/-
  For all rights, every region and every amount: of rights that may be a take goes just if so much is here and can be counted, it leaves less here and counts as used, given back all is here again, and what does not go turns nothing; no further conditions.
-/
import Derived.Test.YtdliklkfhakmhaaRows
import Derived.WalkKit
import Derived.ProofKit
import Derived.OpenShut
import Derived.ShutString
import Derived.ChangeOld
import Derived.Below
import Derived.Test.YtdliklkfhakmhaaRgT
import Derived.Deep.DeepCutAuto
namespace Go.Proofs.Ytdliklkfhakmhaa.rightsTakes
open Go.ChangeShapes Go.WideShapes Go.ChangeAt Go.RowKit
open Go.ChangeMaps (open_string shut_string)
set_option linter.unusedVariables false

theorem own : ownKnob Try.prog.godebug = none := by kernel_rfl
theorem laidOut : laidOutB Try.prog = true := by kernel_rfl

attribute [local go_sem ↓] exec_loadR exec_storeR exec_allocR exec_buildR

set_option maxRecDepth 100000 in
set_option maxHeartbeats 2000000 in
theorem walk (L0 : List Int) (a1 : Int) (a2 : Int) (w : World) (w0 : L0.length = 54) (u0 : WfR L0) (w1 : (Lit.int .i64 a1).wf = true) (w2 : (Lit.int .i64 a2).wf = true) :
    Calls Try.prog 14 #[.agg (rgtA L0), .int .i64 a1, .int .i64 a2] w fun e w' => e = .returned (.bool true) ∧ Below w.heap.size w w' := by
  have W0 := Lib.hid w0
  have WF0 := Lib.hid u0
  have bR := run_buildR
  have aR := run_allocR
  have V1 : Rs w (w.alloc (.cells (rgtA L0) 66)) [(w.heap.size, L0)] := (Rs.nil w).new w0 _ rfl
  have MAY := Lib.hid (mayR_any L0 w0)
  have qZ : ∀ W, (Op.equalIn 10000 66 (.agg (rgtA Z54)) (.agg (rgtA Z54))).run Try.prog W = .ok true W := rgt_same rfl wf_z54 rfl
  have l0 := Rs.load (w := w) (l := [(w.heap.size, L0)]) 0 rfl
  have sZ := run_storeR_new (L := Z54) rfl
  clear u0
  cases hm : mayR L0
  case false =>
    rw [hm] at MAY
    clear hm
    go_enter Try.func14, Try.ntmps14
    go_wp2_with fail
    refine (MAY.out _).mono ?_
    rintro e w2 ⟨rfl, hb⟩
    have V2 := V1.next hb
    clear hb V1
    go_wp2_with fail
    refine (rgworks_any _).mono ?_
    rintro e w3 ⟨rfl, hb⟩
    have V3 := (V2.next hb).bel
    clear hb V2
    go_wp2_with fail
    go_ret
    exact ⟨rfl, V3⟩
  case true =>
    rw [hm] at MAY
    by_cases hbad : ¬ (mayR L0 = true ∧ 1 ≤ a2 ∧ a2 ≤ 1125899906842624 ∧ [a1].all regR = true)
    · obtain ⟨e0, hE, hne⟩ : ∃ e : Int, takeR L0 a1 a2 = (Z54, e) ∧ ¬ e = 0 := guard_bad hbad
      have TAKE : Hid (∀ W, Calls Try.prog 51 #[.agg (rgtA L0), .int .i64 a1, .int .i64 a2] W fun e w' => e = .returned (.tuple #[.agg (rgtA Z54), .int .i64 e0]) ∧ Below W.heap.size W w') := by
        intro W; have := take_any L0 w0 a1 a2 W; rwa [hE] at this
      have LOC := Lib.hid (local_any L0 w0 a1)
      generalize localR L0 a1 = here at LOC
      have hcase : a1 < 1 ∨ (¬ a1 < 1 ∧ 6 < a1) ∨ (¬ a1 < 1 ∧ ¬ 6 < a1 ∧ a2 < 1) ∨ (¬ a1 < 1 ∧ ¬ 6 < a1 ∧ ¬ a2 < 1 ∧ 1125899906842624 < a2) := by
        by_cases h1 : a1 < 1
        · exact .inl h1
        by_cases h2 : 6 < a1
        · exact .inr (.inl ⟨h1, h2⟩)
        by_cases h3 : a2 < 1
        · exact .inr (.inr (.inl ⟨h1, h2, h3⟩))
        refine .inr (.inr (.inr ⟨h1, h2, h3, ?_⟩))
        by_cases h4 : 1125899906842624 < a2
        · exact h4
        · exact absurd ⟨hm, by omega, by omega, by simp [regR]; omega⟩ hbad
      have HB0 : Hid ((e0 != 0) = true) := by show _ = _; simpa using hne
      clear hbad hE hm
      rcases hcase with h1 | ⟨h1, h2⟩ | ⟨h1, h2, h3⟩ | ⟨h1, h2, h3, h4⟩
      all_goals
        go_enter Try.func14, Try.ntmps14
        go_wp2_with fail
        refine (MAY.out _).mono ?_
        rintro e w2 ⟨rfl, hb⟩
        have V2 := V1.next hb
        clear hb V1
        go_wp2_with fail
        refine (TAKE.out _).mono ?_
        rintro e w3 ⟨rfl, hb⟩
        have V3 : Rs w (w3.alloc (.cells (rgtA Z54) 66)) [(w.heap.size, L0), (w3.heap.size, Z54)] := (V2.next hb).new rfl _ rfl
        have l0 := Rs.load (w := w) (l := [(w.heap.size, L0), (w3.heap.size, Z54)]) 0 rfl
        have l1 := Rs.load (w := w) (l := [(w.heap.size, L0), (w3.heap.size, Z54)]) 1 rfl
        clear hb V2
        go_wp2_with fail
        refine (LOC.out _).mono ?_
        rintro e w4 ⟨rfl, hb⟩
        have V4 := V3.next hb
        clear hb V3
        go_wp2_with fail
        refine (rgworks_any _).mono ?_
        rintro e w5 ⟨rfl, hb⟩
        have V5 := (V4.next hb).bel
        clear hb V4
        go_wp2_with fail
        go_ret
        exact ⟨by show Ending.returned (Value.bool (e0 != 0)) = _; rw [HB0.out], V5⟩
    · have hgood : mayR L0 = true ∧ 1 ≤ a2 ∧ a2 ≤ 1125899906842624 ∧ [a1].all regR = true := Classical.not_not.1 hbad
      obtain ⟨k, hk, hz, _⟩ := reg_nat (all_one hgood.2.2.2)
      subst hz
      have hx1 := hgood.2.1
      have hx2 := hgood.2.2.1
      have am := amt_may hm
      have hk0 : (0 : Int) ≤ (k : Int) := by omega
      have hk6 : (k : Int) < 6 := by omega
      have kw : IntKind.i64.wrap (k : Int) = (k : Int) := IntWalk.i64_in _ (by omega)
      have hE0 : takeR L0 ((k : Int) + 1) a2 = if (takeE L0 k a2).2 = 0 then takeE L0 k a2 else (Z54, (takeE L0 k a2).2) := by
        unfold takeR; rw [nat_of]; exact guard_in hm hx1 hx2 hgood.2.2.2
      have LOC : Hid (∀ W, Calls Try.prog 49 #[.agg (rgtA L0), .int .i64 ((k : Int) + 1)] W fun e w' => e = .returned (.int .i64 (leftR L0 k)) ∧ Below W.heap.size W w') := by
        intro W; have := local_any L0 w0 ((k : Int) + 1) W; rwa [local_may hm k hk] at this
      have bl := left_bd am k hk 6 (by omega)
      have bc := am.c k hk
      have bl1 : -7881299347898368 ≤ leftR L0 k := bl.1
      have bl2 : leftR L0 k ≤ 9007199254740992 := bl.2
      have bc1 := bc.1
      have bc2 := bc.2
      clear hbad hgood bl bc
      by_cases hgo : a2 ≤ leftR L0 k ∧ cR L0 k + a2 ≤ 1125899906842624
      · obtain ⟨h1, h2⟩ := hgo
        obtain ⟨g1, g2, g3⟩ := take_goes w0 hm hk hx1 h1 h2
        have hEA : takeR L0 ((k : Int) + 1) a2 = (L0.set (6 + k) (cR L0 k + a2), 0) := by rw [hE0]; unfold takeE; rw [if_pos h1, if_pos h2, if_pos rfl]
        have u := upd_c (x := a2) w0 hk
        have hcA := u.c k hk
        have hfA := u.f k hk
        rw [show dl k a2 k = a2 by unfold dl; rw [if_pos rfl]] at hcA
        rw [show d0 k = 0 from rfl] at hfA
        have hlA := g2 k hk
        rw [show dl k a2 k = a2 by unfold dl; rw [if_pos rfl]] at hlA
        generalize L0.set (6 + k) (cR L0 k + a2) = A at g1 g2 g3 hEA hcA hfA hlA
        have hfc := am.fc k hk
        obtain ⟨f1, f2, f3⟩ := free_goes g1.len g1.may hk hx1 (by omega : a2 ≤ cR A k - fR A k)
        have hEB : freeR A ((k : Int) + 1) a2 = (A.set (12 + k) (fR A k + a2), 0) := by
          unfold freeR; rw [nat_of, guard_in g1.may hx1 hx2 (reg_one k hk)]; unfold freeE; rw [if_pos (show a2 ≤ cR A k - fR A k by omega), if_pos rfl]
        have hlB := f2 k hk
        rw [show dl k a2 k = a2 by unfold dl; rw [if_pos rfl]] at hlB
        generalize A.set (12 + k) (fR A k + a2) = B at f1 f2 f3 hEB hlB
        have TAKE : Hid (∀ W, Calls Try.prog 51 #[.agg (rgtA L0), .int .i64 ((k : Int) + 1), .int .i64 a2] W fun e w' => e = .returned (.tuple #[.agg (rgtA A), .int .i64 0]) ∧ Below W.heap.size W w') := by
          intro W; have := take_any L0 w0 ((k : Int) + 1) a2 W; rwa [hEA] at this
        have FREE : Hid (∀ W, Calls Try.prog 52 #[.agg (rgtA A), .int .i64 ((k : Int) + 1), .int .i64 a2] W fun e w' => e = .returned (.tuple #[.agg (rgtA B), .int .i64 0]) ∧ Below W.heap.size W w') := by
          intro W; have := free_any A g1.len ((k : Int) + 1) a2 W; rwa [hEB] at this
        have S0 : Hid (∀ W, Calls Try.prog 48 #[.agg (rgtA L0)] W fun e w' => e = .returned (.tuple #[.int .i64 (limitR L0), .int .i64 (usedR L0)]) ∧ Below W.heap.size W w') := by
          intro W; have := sums_any L0 w0 W; rwa [sums_may hm] at this
        have SA : Hid (∀ W, Calls Try.prog 48 #[.agg (rgtA A)] W fun e w' => e = .returned (.tuple #[.int .i64 (limitR A), .int .i64 (usedR L0 + a2)]) ∧ Below W.heap.size W w') := by
          intro W; have := sums_any A g1.len W; rwa [sums_may g1.may, g3] at this
        have SB : Hid (∀ W, Calls Try.prog 48 #[.agg (rgtA B)] W fun e w' => e = .returned (.tuple #[.int .i64 (limitR B), .int .i64 (usedR L0)]) ∧ Below W.heap.size W w') := by
          intro W; have := sums_any B f1.len W; rwa [sums_may f1.may, f3, g3, show usedR L0 + a2 - a2 = usedR L0 by omega] at this
        have LA : Hid (∀ W, Calls Try.prog 49 #[.agg (rgtA A), .int .i64 ((k : Int) + 1)] W fun e w' => e = .returned (.int .i64 (leftR L0 k - a2)) ∧ Below W.heap.size W w') := by
          intro W; have := local_any A g1.len ((k : Int) + 1) W; rwa [local_may g1.may k hk, hlA] at this
        have LB : Hid (∀ W, Calls Try.prog 49 #[.agg (rgtA B), .int .i64 ((k : Int) + 1)] W fun e w' => e = .returned (.int .i64 (leftR L0 k)) ∧ Below W.heap.size W w') := by
          intro W; have := local_any B f1.len ((k : Int) + 1) W; rwa [local_may f1.may k hk, hlB, hlA, show leftR L0 k - a2 + a2 = leftR L0 k by omega] at this
        have HA := Lib.hid g1.len
        have HB := Lib.hid f1.len
        have bu := sumU_bd am 6 (by omega)
        have bu1 : 0 ≤ usedR L0 := bu.1
        have bu2 : usedR L0 ≤ 6755399441055744 := bu.2
        have sA := run_storeR_new g1.len
        have sB := run_storeR_new f1.len
        have CC : Hid (∀ W, RB W w.heap.size L0 → W.cell? ⟨w.heap.size, 6 + k, none⟩ = some (.int .i64 (cR L0 k))) := fun W h => h.c k hk
        generalize leftR L0 k = here at LOC LA LB h1 bl1 bl2
        generalize cR L0 k = cc at CC h2 bc1 bc2
        generalize usedR L0 = us at S0 SA SB bu1 bu2
        generalize limitR L0 = lm at S0
        generalize limitR A = lmA at SA
        generalize limitR B = lmB at SB
        clear hE0 hEA hEB u hcA hfA hlA g1 g2 g3 f1 f2 f3 hfc hlB bu am hm
        have hix : (k : Int) + 1 - 1 = (k : Int) := by omega
        have gi1 : decide ((k : Int) + 1 < 1) = false := decide_eq_false (by omega)
        have gi2 : decide (6 < (k : Int) + 1) = false := decide_eq_false (by omega)
        have gx1 : decide (a2 < 1) = false := decide_eq_false (by omega)
        have gx2 : decide (1125899906842624 < a2) = false := decide_eq_false (by omega)
        generalize (k : Int) + 1 = ι at TAKE FREE LOC LA LB hix gi1 gi2 ⊢
        go_enter Try.func14, Try.ntmps14
        go_wp2_with fail
        refine (MAY.out _).mono ?_
        rintro e w2 ⟨rfl, hb⟩
        have V2 := V1.next hb
        clear hb V1
        go_wp2_with fail
        refine (TAKE.out _).mono ?_
        rintro e w3 ⟨rfl, hb⟩
        have V3 : Rs w (w3.alloc (.cells (rgtA A) 66)) [(w.heap.size, L0), (w3.heap.size, A)] := (V2.next hb).new HA.out _ rfl
        have l0 := Rs.load (w := w) (l := [(w.heap.size, L0), (w3.heap.size, A)]) 0 rfl
        have l1 := Rs.load (w := w) (l := [(w.heap.size, L0), (w3.heap.size, A)]) 1 rfl
        clear hb V2
        go_wp2_with fail
        refine (LOC.out _).mono ?_
        rintro e w4 ⟨rfl, hb⟩
        have V4 := V3.next hb
        have c4 := CC.out _ (V4.nth 0 rfl)
        clear hb V3
        go_wp2_with fail
        refine (FREE.out _).mono ?_
        rintro e w5 ⟨rfl, hb⟩
        have V5 : Rs w (w5.alloc (.cells (rgtA B) 66)) [(w.heap.size, L0), (w3.heap.size, A), (w5.heap.size, B)] := (V4.next hb).new HB.out _ rfl
        have l0 := Rs.load (w := w) (l := [(w.heap.size, L0), (w3.heap.size, A), (w5.heap.size, B)]) 0 rfl
        have l1 := Rs.load (w := w) (l := [(w.heap.size, L0), (w3.heap.size, A), (w5.heap.size, B)]) 1 rfl
        have l2 := Rs.load (w := w) (l := [(w.heap.size, L0), (w3.heap.size, A), (w5.heap.size, B)]) 2 rfl
        clear hb V4 c4
        go_wp2_with fail
        refine (S0.out _).mono ?_
        rintro e w6 ⟨rfl, hb⟩
        have V6 := V5.next hb
        clear hb V5
        go_wp2_with fail
        refine (SA.out _).mono ?_
        rintro e w7 ⟨rfl, hb⟩
        have V7 := V6.next hb
        clear hb V6
        go_wp2_with fail
        refine (LA.out _).mono ?_
        rintro e w8 ⟨rfl, hb⟩
        have V8 := V7.next hb
        clear hb V7
        go_wp2_with fail
        refine (SB.out _).mono ?_
        rintro e w9 ⟨rfl, hb⟩
        have V9 := V8.next hb
        clear hb V8
        go_wp2_with fail
        refine (LB.out _).mono ?_
        rintro e w10 ⟨rfl, hb⟩
        have V10 := V9.next hb
        clear hb V9
        go_wp2_with fail
        refine (rgworks_any _).mono ?_
        rintro e w11 ⟨rfl, hb⟩
        have V11 := (V10.next hb).bel
        clear hb V10
        go_wp2_with fail
        go_ret
        exact ⟨rfl, V11⟩
      · obtain ⟨e0, hE, hcase⟩ : ∃ e : Int, takeR L0 ((k : Int) + 1) a2 = (Z54, e) ∧ ((e = 11 ∧ decide (a2 ≤ leftR L0 k) = false) ∨ (e = 6 ∧ a2 ≤ leftR L0 k ∧ decide (cR L0 k + a2 ≤ 1125899906842624) = false)) := by
          rw [hE0]
          unfold takeE
          by_cases h1 : a2 ≤ leftR L0 k
          · have h2 : ¬ cR L0 k + a2 ≤ 1125899906842624 := fun h2 => hgo ⟨h1, h2⟩
            rw [if_pos h1, if_neg h2]; exact ⟨6, rfl, .inr ⟨rfl, h1, decide_eq_false h2⟩⟩
          · rw [if_neg h1]; exact ⟨11, rfl, .inl ⟨rfl, decide_eq_false h1⟩⟩
        have TAKE : Hid (∀ W, Calls Try.prog 51 #[.agg (rgtA L0), .int .i64 ((k : Int) + 1), .int .i64 a2] W fun e w' => e = .returned (.tuple #[.agg (rgtA Z54), .int .i64 e0]) ∧ Below W.heap.size W w') := by
          intro W; have := take_any L0 w0 ((k : Int) + 1) a2 W; rwa [hE] at this
        have CC : Hid (∀ W, RB W w.heap.size L0 → W.cell? ⟨w.heap.size, 6 + k, none⟩ = some (.int .i64 (cR L0 k))) := fun W h => h.c k hk
        generalize leftR L0 k = here at LOC hcase bl1 bl2
        generalize cR L0 k = cc at CC hcase bc1 bc2
        clear hE0 hE hgo am hm
        have hix : (k : Int) + 1 - 1 = (k : Int) := by omega
        have gi1 : decide ((k : Int) + 1 < 1) = false := decide_eq_false (by omega)
        have gi2 : decide (6 < (k : Int) + 1) = false := decide_eq_false (by omega)
        have gx1 : decide (a2 < 1) = false := decide_eq_false (by omega)
        have gx2 : decide (1125899906842624 < a2) = false := decide_eq_false (by omega)
        generalize (k : Int) + 1 = ι at TAKE LOC hix gi1 gi2 ⊢
        rcases hcase with ⟨rfl, h1⟩ | ⟨rfl, h1, h2⟩
        all_goals
          go_enter Try.func14, Try.ntmps14
          go_wp2_with fail
          refine (MAY.out _).mono ?_
          rintro e w2 ⟨rfl, hb⟩
          have V2 := V1.next hb
          clear hb V1
          go_wp2_with fail
          refine (TAKE.out _).mono ?_
          rintro e w3 ⟨rfl, hb⟩
          have V3 : Rs w (w3.alloc (.cells (rgtA Z54) 66)) [(w.heap.size, L0), (w3.heap.size, Z54)] := (V2.next hb).new rfl _ rfl
          have l0 := Rs.load (w := w) (l := [(w.heap.size, L0), (w3.heap.size, Z54)]) 0 rfl
          have l1 := Rs.load (w := w) (l := [(w.heap.size, L0), (w3.heap.size, Z54)]) 1 rfl
          clear hb V2
          go_wp2_with fail
          refine (LOC.out _).mono ?_
          rintro e w4 ⟨rfl, hb⟩
          have V4 := V3.next hb
          have c4 := CC.out _ (V4.nth 0 rfl)
          clear hb V3
          go_wp2_with fail
          refine (rgworks_any _).mono ?_
          rintro e w5 ⟨rfl, hb⟩
          have V5 := (V4.next hb).bel
          clear hb V4
          go_wp2_with fail
          go_ret
          exact ⟨rfl, V5⟩

set_option maxRecDepth 100000 in
theorem lifted (os : Os) (started : os.Started) (H : Type) (enc : TypeId × Value → H) :
    ReturnsInHanded {} Try.checked os 14 .any (Rows.rightsTakesSpec.pre6 enc Try.prog Try.f14 Rows.rightsTakesRow.domain false) (Rows.rightsTakesSpec.post enc Try.prog Try.f14 false true false false) := by
  refine returnsInHanded_of_change (C := Try.checked) own started (by kernel_rfl) Try.func14
    (ChangeSpec.witness6 (enc := enc) (C := Try.checked) false ⟨#[], #[.agg #[.int .i64 0, .int .i64 0, .int .i64 0, .int .i64 0, .int .i64 0, .int .i64 0, .int .i64 0, .int .i64 0, .int .i64 0, .int .i64 0, .int .i64 0, .int .i64 0, .int .i64 0, .int .i64 0, .int .i64 0, .int .i64 0, .int .i64 0, .int .i64 0, .int .i64 0, .int .i64 0, .int .i64 0, .int .i64 0, .int .i64 0, .int .i64 0, .int .i64 0, .int .i64 0, .int .i64 0, .int .i64 0, .int .i64 0, .int .i64 0, .int .i64 0, .int .i64 0, .int .i64 0, .int .i64 0, .int .i64 0, .int .i64 0, .int .i64 0, .int .i64 0, .int .i64 0, .int .i64 0, .int .i64 0, .int .i64 0, .int .i64 0, .int .i64 0, .int .i64 0, .int .i64 0, .int .i64 0, .int .i64 0, .int .i64 0, .int .i64 0, .int .i64 0, .int .i64 0, .int .i64 0, .int .i64 0], .int .i64 0, .int .i64 0], []⟩ 8 (by kernel_rfl) (by kernel_rfl) (by kernel_rfl) (by kernel_rfl)) ?_
  intro W base args ds gs before hval0 hW hcnd _
  have hval : ∀ (j : Nat) t v, Try.f14.params[j]? = some t → args[j]? = some v → Value.okWide Try.prog W .any base t v := hval0
  have hW' := hW
  obtain ⟨p, q, hA0, hV, rfl, hfz, hnd⟩ := hW
  have hA : DataW.TrodAll enc Try.prog W 0 (fun _ => true) true Try.f14.params.toList args.toList ds p := hA0
  rw [Try.params14] at hA hval
  obtain ⟨v0, vs0, d0, ds0, p0, q0, hargs, rfl, rfl, h0, r0⟩ := trodAll_cons hA
  obtain ⟨v1, vs1, d1, ds1, p1, q1, rfl, rfl, rfl, h1, r1⟩ := trodAll_cons r0
  obtain ⟨v2, vs2, d2, ds2, p2, q2, rfl, rfl, rfl, h2, r2⟩ := trodAll_cons r1
  obtain ⟨rfl, rfl, rfl⟩ := trodAll_nil r2
  obtain rfl : args = #[v0, v1, v2] := by cases args; simp_all
  obtain ⟨rfl, rfl⟩ := trodVars_none hV
  have k0 := h0
  have lt0 : ∀ x ∈ p0, x.block < W.heap.size := by obtain ⟨m, hm⟩ := k0; exact DataW.trod_lt m _ _ _ hm
  obtain ⟨L0, rfl, w0, u0⟩ := open_rights (hval 0 66 v0 rfl rfl) h0
  obtain ⟨a1, rfl, rfl, rfl, w1⟩ := open_int Try.underlying3 (hval 1 3 v1 rfl rfl) h1
  obtain ⟨a2, rfl, rfl, rfl, w2⟩ := open_int Try.underlying2 (hval 2 2 v2 rfl rfl) h2
  clear hA0 hval0
  refine (walk L0 a1 a2 W w0 u0 w1 w2).mono fun e W' ⟨he, bel⟩ => ?_
  subst he
  exact ⟨_, rfl, _, _, _, [], _, [], hW', trodAll_mk1 (shut_bool Try.underlying4 _), (trodAll_cons_mk (Below.trod laidOut (by kernel_rfl) (of_decide_eq_true (by kernel_rfl)) k0 bel lt0) (trodAll_cons_mk (shut_int Try.underlying3 w1) (trodAll_cons_mk (shut_int Try.underlying2 w2) trodAll_mk0))), rfl, bel.frame _, fun h => by cases h⟩

theorem over : Rows.rightsTakesRow.holds Try.pinned (OpenSpec.ofChange Rows.rightsTakesSpec) :=
  OpenClaim.holds_of_wide 14 Try.f14 rfl rfl rfl rfl rfl rfl rfl ⟨rfl, rfl, rfl, rfl, rfl⟩ rfl rfl rfl rfl rfl (by kernel_rfl) Try.func14 (by kernel_rfl)
    (of_decide_eq_true (by kernel_rfl)) (by unfold Func.isWrapper; first | (rw [if_pos (by decide +kernel)]; kernel_rfl) | (rw [if_neg (by decide +kernel)]; exact ⟨rfl, rfl⟩))
    (fun os started H enc _ => lifted os started H enc)

theorem proved : Rows.RightsTakesSaid := over
#print axioms proved
end Go.Proofs.Ytdliklkfhakmhaa.rightsTakes
