/-
  FrameReads: all records of any bytes, one by one and together, and where they end, are the document's. No condition.
-/
import Derived.Test.YtnnhkanjneecjaaRows
import Derived.WalkKit
import Derived.ProofKit
import Derived.OpenShut
import Derived.ShutString
import Derived.ChangeOld
import Derived.Below
import Derived.Test.YtnnhkanjneecjaaFrG
namespace Go.Proofs.Ytnnhkanjneecjaa.frameReads
open Go.ChangeShapes Go.WideShapes Go.ChangeAt Go.RowKit
open Go.ChangeMaps (open_string shut_string)
set_option linter.unusedVariables false

theorem own : ownKnob Try.prog.godebug = none := by kernel_rfl
theorem laidOut : laidOutB Try.prog = true := by kernel_rfl


set_option maxRecDepth 100000 in
set_option maxHeartbeats 4000000 in
theorem walk (A0 : Option Addr) (b0 : List UInt8) (c0 : Nat) (w : World) (w0 : Bytes w w.heap.size A0 b0) (l0 : b0.length ≤ c0) (m0 : c0 ≤ maxLen) :
    Calls Try.prog 7 #[.slice A0 b0.length c0] w fun e w' => e = .returned (.bool true) ∧ Below w.heap.size w w' := by
  by_cases hv : 8192 < b0.length
  · have hv' : (8192 : Int) < (b0.length : Int) := by omega
    go_enter Try.func7, Try.ntmps7
    go_wp2_with fail
    refine (fworks_any _).mono ?_
    rintro e W2 ⟨rfl, hb2⟩
    go_wp2_with fail
    go_ret
    exact ⟨rfl, hb2⟩
  have hv' : ¬ (8192 : Int) < (b0.length : Int) := by omega
  have P0 : Hid (([] : List UInt8) ++ b0 = b0) := rfl
  go_enter Try.func7, Try.ntmps7
  go_wp2_with (at_builtin; refine wpList_ap2 rfl _ _ rfl rfl w.heap.size (.slice (some ⟨w.heap.size, 0, none⟩) 0 0) [] b0 b0 w.heap.size A0 b0.length c0 rfl rfl rfl P0.out (OwnB.made w _ 5 (Nat.le_refl _)) (Reads.alloc w0 (Nat.le_refl _) _) (by simp; omega) w ((Below.refl _ _).alloc (Nat.le_refl _) _) (by simp) ?_; intro A1 c1 n1 W1 e1 h1 hB1 hl1 hbel1 hs1 hg1; clear hg1 hl1)
  have hA1 : ∀ q, (Value.slice A1 n1 c1).ownBlock = some q → q < W1.heap.size := fun q hq => (World.ownsRow.lt h1 q hq).2
  refine (new2_any A1 n1 c1 b0 W1 hB1 e1.out (by omega)).mono ?_
  rintro e W2 ⟨g, Ar, cr, rfl, hR2, hAF, hb2⟩
  have hs2 := hb2.size
  have hg2 := hR2.1.lt
  have h2 := own_below h1 hb2
  have x2 := Reads.more (Reads.below hB1 hb2) hs2
  clear h1 hB1
  go_wp2_with fail
  refine (fall_any A1 n1 c1 b0 W2 x2 e1.out (by omega)).mono ?_
  rintro e W3 ⟨A3, n3, c3, rfl, hn3, hS3, hb3⟩
  have hs3 := hb3.size
  have hR3 := hR2.below hb3
  have h3 := own_below h2 hb3
  have hb13 := hb2.trans (hb3.mono hs2)
  have hbw3 := hbel1.trans (hb13.mono hs1)
  have hsw3 := hbw3.size
  have y0 := Reads.more (Reads.below w0 hbw3) hsw3
  have hFA : FalAt b0 0 [] := ⟨b0.length + 1, rfl, by omega⟩
  generalize hP : falR b0 = P at hn3 hS3
  obtain ⟨ms, E⟩ := P
  have PH := Lib.hid hP
  have N3 := Lib.hid (show n3 = ms.length from hn3)
  have hS3' : OwnS W3 W2.heap.size (.slice A3 n3 c3) ms := hS3
  clear hn3 hS3 hP hR2 h2 x2
  go_wp2_with fail
  refine (rfall_any A0 b0.length c0 b0 W3 y0 rfl l0 m0 (by omega)).mono ?_
  rintro e W4 ⟨A4, n4, c4, rfl, hn4, hS4, hb4⟩
  rw [PH.out] at hn4 hS4 ⊢
  have N4 := Lib.hid (show n4 = ms.length from hn4)
  have hS4' : OwnS W4 W3.heap.size (.slice A4 n4 c4) ms := hS4
  have hs4 := hb4.size
  have hR4 := hR3.below hb4
  have h4 := own_below h3 hb4
  have hbw4 := hbw3.trans (hb4.mono hsw3)
  have hsw4 := hbw4.size
  have z3 := (hS3'.below hb4).strs.1
  have z4 := hS4'.strs.1
  have hmm : ms.length ≤ maxLen := by have := hS4'.strs.2.1; have h' := hS4'.strs.2.2.1; have h'' := hS4'.strs.2.2.2; omega
  clear hn4 hS4 hS3' hR3 h3 y0
  go_wp2_with fail
  refine (same_yes A3 A4 n3 n4 c3 c4 ms W4 z3 z4 N3.out N4.out hmm).mono ?_
  rintro e W5 ⟨rfl, hb5⟩
  have hs5 := hb5.size
  have hR5 := hR4.below hb5
  have h5 : Some8 W5 w.heap.size A1 n1 c1 := ⟨b0, e1.out, own_below h4 hb5⟩
  have hS5 := hS4'.below hb5
  have hbw5 := hbw4.trans (hb5.mono hsw4)
  have hsz5 : W3.heap.size ≤ W5.heap.size := Nat.le_trans hs4 hs5
  have hn1m : n1 ≤ 8192 := by rw [e1.out]; omega
  have hg3 : g < W3.heap.size := by omega
  have hW13 : W1.heap.size ≤ W3.heap.size := by omega
  clear z3 z4 hR4 h4 hS4' hb5 hbw3 hbw4 hb13
  go_wp2_with fail
  go_loopw [9] (fun i wr => ∃ k : Nat, k ≤ n1 ∧ i = .int .i64 (k : Int) ∧ Some8 wr w.heap.size A1 n1 c1 ∧ RD wr W1.heap.size g Ar cr b0 0 ∧ OwnS wr W3.heap.size (.slice A4 n4 c4) ms ∧ Below w.heap.size w wr ∧ W3.heap.size ≤ wr.heap.size) (fun i _ => n1 - (intOf i).toNat)
  case atStart => exact ⟨0, by omega, rfl, h5, hR5, hS5, hbw5, hsz5⟩
  case round =>
    clear h5 hR5 hS5 hbw5 hsz5 hs5 hsw4 hs4
    obtain ⟨k, hk, rfl, hx, hR, hS, hbw, hsz⟩ := hrel
    by_cases hlt : k < n1
    · obtain ⟨g0, b, rfl, hg0, hg0l, hcell, hfz, hnc, hcm⟩ := hx.at_ hlt
      have hcm' := hcm
      unfold maxLen at hcm'
      have hg0W : g0 < W1.heap.size := hA1 g0 rfl
      clear hA1
      go_wp2_with fail
      go_roundw
      case rel => exact ⟨k + 1, by omega, by go_num, hx.set_ g0 k _ _ (val_one b), hR.far hAF hg0W _, hS.set_far (Nat.lt_of_lt_of_le hg0W hW13) _, hbw.setCell hg0 _, by simpa using hsz⟩
      case measure => simp [intOf]; omega
    · go_wp2_with fail
      clear hx hlt hA1
      go_loopw [10] (fun i wr2 => ∃ j a : Nat, j ≤ ms.length ∧ i = .int .i64 (j : Int) ∧ FalAt b0 a (ms.take j) ∧ a ≤ b0.length ∧ RD wr2 W1.heap.size g Ar cr b0 a ∧ OwnS wr2 W3.heap.size (.slice A4 n4 c4) ms ∧ Below w.heap.size w wr2 ∧ W3.heap.size ≤ wr2.heap.size) (fun i _ => ms.length - (intOf i).toNat)
      case atStart => exact ⟨0, 0, by omega, rfl, hFA, by omega, hR, hS, hbw, hsz⟩
      case round =>
        clear hR hS hbw hsz hFA
        obtain ⟨j, a, hj, rfl, hF, ha, hR, hS, hbw, hsz⟩ := hrel
        have hW1r : W1.heap.size ≤ wr.heap.size := by omega
        have hwr := hbw.size
        have hbl : b0.length ≤ maxLen := by unfold maxLen; omega
        have htl : (ms.take j).length = j := by rw [List.length_take]; omega
        have hPm : (falR b0).1 = ms := by rw [PH.out]
        by_cases hlt : j < ms.length
        · obtain ⟨hok, hrec, hFn, han⟩ := hF.next ha (by rw [htl, hPm]; exact hlt)
          rw [htl, hPm, List.getElem?_eq_getElem hlt] at hrec
          have hrec' : ms[j] = recAt b0 a := by injection hrec
          have htake : ms.take (j + 1) = ms.take j ++ [recAt b0 a] := by rw [List.take_succ_eq_append_getElem hlt, hrec']
          rw [← htake] at hFn
          have t1 := next_yes hR hbl hW1r hok
          generalize fnx b0 a = a2 at hFn han t1
          have T1 := Lib.hid t1
          have FN : FalAt b0 a2 (ms.take (j + 1)) := hFn
          have HREC := Lib.hid hrec'
          have hj4 : (j : Int) < (n4 : Int) := by have := N4.out; omega
          have hj9 : j + 1 ≤ 9223372036854775807 := by unfold maxLen at hmm; omega
          clear t1 hFn hrec hrec' htake htl hPm hok hF
          go_wp2_with fail
          refine T1.out.mono ?_
          rintro e W6 ⟨A6, n6, c6, rfl, hn6, hown6, hR6, hb6, w1, hbw1, hw1⟩
          have hS6 : OwnS W6 W3.heap.size (.slice A4 n4 c4) ms := by rw [hw1]; exact (hS.below hbw1).set_far hg3 _
          have hb6w := hbw.trans (hb6.mono (Nat.le_trans hs1 (Nat.le_refl _)))
          have hs6 : W3.heap.size ≤ W6.heap.size := by rw [hw1]; have := hbw1.size; simp; omega
          have hstr := hS6.strs.1
          have hc4 := hS6.strs.2.2.1
          obtain ⟨b, off, Ai, ci, hAe, hB, hcell, hBi, hli, hmi⟩ := hstr.at_ hlt
          rw [HREC.out] at hcell hBi hli
          have x6 := (own_open hown6).1
          have q1 := str_n W6.drew _ A6 n6 c6 _ (Reads.drew x6) hn6
          have q2 := str_n W6.drew _ Ai (recAt b0 a).length ci _ (Reads.drew hBi) rfl
          generalize strB (recAt b0 a) = X at q1 q2
          generalize (recAt b0 a).length = z at hcell q2 hli hn6
          have hS7 := hS6
          have HJ := Lib.hid (show j + 1 ≤ ms.length from hlt)
          subst hAe
          clear hn6 hown6 hw1 hbw1 hstr hB hBi x6 hR hS hbw hsz hb6 HREC T1
          go_wp2_with fail
          go_region
          go_wp2_with fail
          go_roundw
          case rel => exact ⟨j + 1, a2, HJ.out, by go_num, FN, han, hR6, hS7, hb6w.drew, hs6⟩
          case measure => have := HJ.out; simp [intOf]; omega
        · obtain rfl : j = ms.length := by omega
          have hend : ¬ (ms.length : Int) < (n4 : Int) := by have := N4.out; omega
          obtain ⟨hok, hE⟩ := hF.stop ha (by rw [htl, hPm])
          have hEa : E = a := by rw [← hE, PH.out]
          subst hEa
          have t1 := next_no hR hbl hW1r hok
          have T1 := Lib.hid t1
          clear t1 htl hPm hok hE hF
          go_wp2_with fail
          refine T1.out.mono ?_
          rintro e W6 ⟨rfl, hR6, hb6⟩
          have hb6w := hbw.trans (hb6.mono hwr)
          have hw6 := hb6w.size
          have t2 := at_any hR6
          have T2 := Lib.hid t2
          clear t2 hR hS hbw hsz hb6 T1
          go_wp2_with fail
          refine T2.out.mono ?_
          rintro e W7 ⟨rfl, rfl⟩
          go_wp2_with fail
          refine (next_nil _).mono ?_
          rintro e W7 ⟨rfl, rfl⟩
          go_wp2_with fail
          refine (at_nil _).mono ?_
          rintro e W7 ⟨rfl, rfl⟩
          go_wp2_with fail
          refine (fworks_any _).mono ?_
          rintro e W8 ⟨rfl, hb8⟩
          go_wp2_with fail
          go_ret
          exact ⟨rfl, hb6w.trans (hb8.mono hw6)⟩

set_option maxRecDepth 100000 in
theorem lifted (os : Os) (started : os.Started) (H : Type) (enc : TypeId × Value → H) :
    ReturnsInHanded {} Try.checked os 7 .any (Rows.frameReadsSpec.pre6 enc Try.prog Try.f7 Rows.frameReadsRow.domain false) (Rows.frameReadsSpec.post enc Try.prog Try.f7 false true false false) := by
  refine returnsInHanded_of_change (C := Try.checked) own started (by kernel_rfl) Try.func7
    (ChangeSpec.witness6 (enc := enc) (C := Try.checked) false ⟨#[], #[.slice none 0 0], []⟩ 8 (by kernel_rfl) (by kernel_rfl) (by kernel_rfl) (by kernel_rfl)) ?_
  intro W base args ds gs before hval0 hW hcnd _
  have hval : ∀ (j : Nat) t v, Try.f7.params[j]? = some t → args[j]? = some v → Value.okWide Try.prog W .any base t v := hval0
  have hW' := hW
  obtain ⟨p, q, hA0, hV, rfl, hfz, hnd⟩ := hW
  have hA : DataW.TrodAll enc Try.prog W 0 (fun _ => true) true Try.f7.params.toList args.toList ds p := hA0
  rw [Try.params7] at hA hval
  obtain ⟨v0, vs0, d0, ds0, p0, q0, hargs, rfl, rfl, h0, r0⟩ := trodAll_cons hA
  obtain ⟨rfl, rfl, rfl⟩ := trodAll_nil r0
  obtain rfl : args = #[v0] := by cases args; simp_all
  obtain ⟨rfl, rfl⟩ := trodVars_none hV
  obtain ⟨A0, n0, c0, rfl⟩ := okWide_slice Try.underlying22 (hval 0 22 v0 rfl rfl)
  have k0 := h0
  have lt0 : ∀ x ∈ p0, x.block < W.heap.size := by obtain ⟨m, hm⟩ := k0; exact DataW.trod_lt m _ _ _ hm
  obtain ⟨z0, x0⟩ : ∃ zs, IsRow .u8 W A0 n0 c0 zs := by
    obtain ⟨fuel, hf⟩ := h0
    rcases open_ints Try.underlying22 Try.underlying5 (by kernel_rfl) hf with ⟨hcs, _⟩ | ⟨x, l, c, zs, hcs, _, hl, hm, hz, _, hcell, hwz⟩
    · simp [Value.cells] at hcs
      obtain ⟨rfl, rfl, rfl⟩ := hcs
      exact ⟨[], .inl ⟨rfl, rfl, rfl, rfl⟩⟩
    · simp [Value.cells] at hcs
      obtain ⟨rfl, rfl, rfl⟩ := hcs
      exact ⟨zs, .inr ⟨_, rfl, hl, hm, by simpa using hz, hcell, hwz⟩⟩
  obtain ⟨b0, rfl, w0, l0, m0⟩ := row_bytes x0
  clear hA0 hval0
  refine (walk A0 b0 c0 W w0 l0 m0).mono fun e W' ⟨he, bel⟩ => ?_
  subst he
  exact ⟨_, rfl, _, _, _, [], _, [], hW', trodAll_mk1 (shut_bool Try.underlying4 _), (trodAll_cons_mk (Below.trod laidOut (by kernel_rfl) (of_decide_eq_true (by kernel_rfl)) k0 bel lt0) trodAll_mk0), rfl, bel.frame _, fun h => by cases h⟩

theorem over : Rows.frameReadsRow.holds Try.pinned (OpenSpec.ofChange Rows.frameReadsSpec) :=
  OpenClaim.holds_of_wide 7 Try.f7 rfl rfl rfl rfl rfl rfl rfl ⟨rfl, rfl, rfl, rfl, rfl⟩ rfl rfl rfl rfl rfl (by kernel_rfl) Try.func7 (by kernel_rfl)
    (of_decide_eq_true (by kernel_rfl)) (by unfold Func.isWrapper; first | (rw [if_pos (by decide +kernel)]; kernel_rfl) | (rw [if_neg (by decide +kernel)]; exact ⟨rfl, rfl⟩))
    (fun os started H enc _ => lifted os started H enc)

theorem proved : Rows.FrameReadsSaid := over
#print axioms proved
end Go.Proofs.Ytnnhkanjneecjaa.frameReads
