/-
  DonorAll: who asks again and again for all gets all, within 64 shares; each share is something, and no more than there is, or is wanted. No condition.
-/
import Derived.Test.YtdliklkfhakmhaaRows
import Derived.WalkKit
import Derived.ProofKit
import Derived.OpenShut
import Derived.ShutString
import Derived.ChangeOld
import Derived.Below
import Derived.Test.YtdliklkfhakmhaaDonA
namespace Go.Proofs.Ytdliklkfhakmhaa.donorAll
open Go.ChangeShapes Go.WideShapes Go.ChangeAt Go.RowKit
open Go.ChangeMaps (open_string shut_string)
set_option linter.unusedVariables false

theorem own : ownKnob Try.prog.godebug = none := by kernel_rfl
theorem laidOut : laidOutB Try.prog = true := by kernel_rfl

theorem share_left (l n : Int) (h1 : 1 ≤ l) (h2 : l ≤ n) (h3 : n ≤ 1125899906842624) : shareN l n = (l + 1) / 2 := by
  unfold shareN
  rw [amt_of h1 (by omega), amt_of (by omega : 1 ≤ n) h3]
  simp only [Bool.and_self, if_true]
  exact Int.min_eq_right (by omega)

set_option maxRecDepth 100000 in
set_option maxHeartbeats 4000000 in
theorem walk (a0 : Int) (a1 : Int) (w : World) (w0 : (Lit.int .i64 a0).wf = true) (w1 : (Lit.int .i64 a1).wf = true) :
    Calls Try.prog 10 #[.int .i64 a0, .int .i64 a1] w fun e w' => e = .returned (.bool true) ∧ Below w.heap.size w w' := by
  have d0 := wf_i64 w0
  have d1 := wf_i64 w1
  clear w0 w1
  by_cases hn : amt a0 = true
  · obtain ⟨n1, n2⟩ := amt_bd hn
    have i1 : ¬ a0 < 1 := by omega
    have i2 : ¬ (1125899906842624 : Int) < a0 := by omega
    go_enter Try.func10, Try.ntmps10
    go_wp2_with fail
    go_loopw [5, 6] (fun l k wr => ∃ i x : Nat, i ≤ 64 ∧ k = .int .i64 (i : Int) ∧ l = .int .i64 (x : Int) ∧ (x : Int) ≤ a0 ∧ Hid (x * 2 ^ i ≤ a0.toNat) ∧ w = wr) (fun _ k _ => 64 - (intOf k).toNat)
    case atStart => exact ⟨0, a0.toNat, by omega, rfl, by congr 1; omega, by omega, (show a0.toNat * 2 ^ 0 ≤ a0.toNat by omega), rfl⟩
    case round =>
      obtain ⟨i, x, hi, rfl, rfl, hxa, hxp, rfl⟩ := hrel
      by_cases hgo : i < 64 ∧ 0 < x
      · obtain ⟨g1, g2⟩ := hgo
        have g1' : (i : Int) < 64 := by omega
        have g2' : (0 : Int) < (x : Int) := by omega
        have hsh := share_left (x : Int) a0 (by omega) hxa n2
        have hnext : Hid (x / 2 * 2 ^ (i + 1) ≤ a0.toNat) := by
          show _ ≤ _
          have e : x / 2 * 2 ^ (i + 1) = x / 2 * 2 * 2 ^ i := by rw [Nat.pow_succ, Nat.mul_assoc, Nat.mul_comm 2]
          rw [e]
          exact Nat.le_trans (Nat.mul_le_mul_right _ (by omega)) hxp.out
        have hs := share_any (x : Int) a0 w (by omega) d0
        rw [hsh] at hs
        have b1 : ¬ ((x : Int) + 1) / 2 < 1 := by omega
        have b2 : ¬ (x : Int) < ((x : Int) + 1) / 2 := by omega
        have b3 : (x : Int) - ((x : Int) + 1) / 2 = ((x / 2 : Nat) : Int) := by omega
        have HS := Lib.hid hs
        clear hs hsh
        go_wp2_with fail
        refine HS.out.mono ?_
        rintro e w1 ⟨rfl, rfl⟩
        go_wp2_with fail
        go_roundw
        case rel => exact ⟨i + 1, x / 2, by omega, by go_num, by first | rfl | (congr 1; omega), by omega, hnext, trivial⟩
        case measure => simp [intOf]; omega
      · have hx0 : x = 0 := by
          rcases Nat.eq_zero_or_pos x with h | h
          · exact h
          · have hi64 : i = 64 := by omega
            have := hxp.out
            rw [hi64] at this
            have : x * 2 ^ 64 ≤ 1125899906842624 := by omega
            omega
        subst hx0
        have hsh : Hid (¬ (a1 < 1) → ¬ (1125899906842624 < a1) → 1 ≤ shareN a0 a1 ∧ shareN a0 a1 ≤ a1 ∧ shareN a0 a1 ≤ a0) := by
          show _ → _ → _
          intro h1 h2
          unfold shareN
          rw [hn, amt_of (by omega : 1 ≤ a1) (by omega)]
          simp only [Bool.and_self, if_true]
          omega
        have hs := share_any a0 a1 w d0 d1
        generalize shareN a0 a1 = y at hsh hs
        have HS := Lib.hid hs
        clear hs hxp hxa
        by_cases hi64 : (i : Int) < 64
        all_goals
          go_wp2_with fail
          refine HS.out.mono ?_
          rintro e w1 ⟨rfl, rfl⟩
          by_cases c1 : a1 < 1
          · go_wp2_with fail
            refine (dworks_any _).mono ?_
            rintro e w1 ⟨rfl, hb⟩
            go_wp2_with fail
            go_ret
            exact ⟨rfl, hb⟩
          · by_cases c2 : 1125899906842624 < a1
            · go_wp2_with fail
              refine (dworks_any _).mono ?_
              rintro e w1 ⟨rfl, hb⟩
              go_wp2_with fail
              go_ret
              exact ⟨rfl, hb⟩
            · obtain ⟨y1, y2, y3⟩ := hsh.out (by omega) (by omega)
              go_wp2_with fail
              refine (dworks_any _).mono ?_
              rintro e w1 ⟨rfl, hb⟩
              go_wp2_with fail
              go_ret
              exact ⟨rfl, hb⟩
  · have hz : shareN a0 a1 = 0 := by unfold shareN; rw [show amt a0 = false by simpa using hn]; rfl
    have hlt : a0 < 1 ∨ 1125899906842624 < a0 := by
      rcases Int.lt_or_le a0 1 with h | h
      · exact .inl h
      · rcases Int.lt_or_le 1125899906842624 a0 with h2 | h2
        · exact .inr h2
        · exact absurd (amt_of h h2) hn
    rcases hlt with h | h
    case' inr => have h1 : ¬ a0 < 1 := by omega
    all_goals
      go_enter Try.func10, Try.ntmps10
      go_wp2_with fail
      refine (share_any a0 a1 _ d0 d1).mono ?_
      rintro e w1 ⟨rfl, rfl⟩
      rw [hz]
      go_wp2_with fail
      refine (dworks_any _).mono ?_
      rintro e w1 ⟨rfl, hb⟩
      go_wp2_with fail
      go_ret
      exact ⟨rfl, hb⟩

set_option maxRecDepth 100000 in
theorem lifted (os : Os) (started : os.Started) (H : Type) (enc : TypeId × Value → H) :
    ReturnsInHanded {} Try.checked os 10 .any (Rows.donorAllSpec.pre6 enc Try.prog Try.f10 Rows.donorAllRow.domain false) (Rows.donorAllSpec.post enc Try.prog Try.f10 false true false false) := by
  refine returnsInHanded_of_change (C := Try.checked) own started (by kernel_rfl) Try.func10
    (ChangeSpec.witness6 (enc := enc) (C := Try.checked) false ⟨#[], #[.int .i64 0, .int .i64 0], []⟩ 8 (by kernel_rfl) (by kernel_rfl) (by kernel_rfl) (by kernel_rfl)) ?_
  intro W base args ds gs before hval0 hW hcnd _
  have hval : ∀ (j : Nat) t v, Try.f10.params[j]? = some t → args[j]? = some v → Value.okWide Try.prog W .any base t v := hval0
  have hW' := hW
  obtain ⟨p, q, hA0, hV, rfl, hfz, hnd⟩ := hW
  have hA : DataW.TrodAll enc Try.prog W 0 (fun _ => true) true Try.f10.params.toList args.toList ds p := hA0
  rw [Try.params10] at hA hval
  obtain ⟨v0, vs0, d0, ds0, p0, q0, hargs, rfl, rfl, h0, r0⟩ := trodAll_cons hA
  obtain ⟨v1, vs1, d1, ds1, p1, q1, rfl, rfl, rfl, h1, r1⟩ := trodAll_cons r0
  obtain ⟨rfl, rfl, rfl⟩ := trodAll_nil r1
  obtain rfl : args = #[v0, v1] := by cases args; simp_all
  obtain ⟨rfl, rfl⟩ := trodVars_none hV
  obtain ⟨a0, rfl, rfl, rfl, w0⟩ := open_int Try.underlying2 (hval 0 2 v0 rfl rfl) h0
  obtain ⟨a1, rfl, rfl, rfl, w1⟩ := open_int Try.underlying2 (hval 1 2 v1 rfl rfl) h1
  clear hA0 hval0
  refine (walk a0 a1 W w0 w1).mono fun e W' ⟨he, bel⟩ => ?_
  subst he
  exact ⟨_, rfl, _, _, _, [], _, [], hW', trodAll_mk1 (shut_bool Try.underlying4 _), (trodAll_cons_mk (shut_int Try.underlying2 w0) (trodAll_cons_mk (shut_int Try.underlying2 w1) trodAll_mk0)), rfl, bel.frame _, fun h => by cases h⟩

theorem over : Rows.donorAllRow.holds Try.pinned (OpenSpec.ofChange Rows.donorAllSpec) :=
  OpenClaim.holds_of_wide 10 Try.f10 rfl rfl rfl rfl rfl rfl rfl ⟨rfl, rfl, rfl, rfl, rfl⟩ rfl rfl rfl rfl rfl (by kernel_rfl) Try.func10 (by kernel_rfl)
    (of_decide_eq_true (by kernel_rfl)) (by unfold Func.isWrapper; first | (rw [if_pos (by decide +kernel)]; kernel_rfl) | (rw [if_neg (by decide +kernel)]; exact ⟨rfl, rfl⟩))
    (fun os started H enc _ => lifted os started H enc)

theorem proved : Rows.DonorAllSaid := over
#print axioms proved
end Go.Proofs.Ytdliklkfhakmhaa.donorAll
