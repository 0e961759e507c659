/-
  CrcFar: so many noughts, and so many others behind them, are all of them; a number below 0 is none. For every input, without a condition.
-/
import Derived.Test.YtbfdliogpheekaaRows
import Derived.WalkKit
import Derived.ProofKit
import Derived.OpenShut
import Derived.ShutString
import Derived.ChangeOld
import Derived.Below
import Derived.Test.YtbfdliogpheekaaCrcW
namespace Go.Proofs.Ytbfdliogpheekaa.crcFar
open Go.ChangeShapes Go.WideShapes Go.ChangeAt Go.RowKit
open Go.ChangeMaps (open_string shut_string)
set_option linter.unusedVariables false

theorem own : ownKnob Try.prog.godebug = none := by kernel_rfl
theorem laidOut : laidOutB Try.prog = true := by kernel_rfl

theorem twice (s : BitVec 32) (x y : Nat) : ~~~ Cm.steps (8 * y) (~~~ (~~~ Cm.steps (8 * x) (~~~ s))) = ~~~ Cm.steps (8 * (x + y)) (~~~ s) := by
  rw [BitVec.not_not, ← Cm.steps_add, Nat.mul_add]
theorem none_ (s : BitVec 32) : ~~~ Cm.steps (8 * 0) (~~~ s) = s := by
  show ~~~ (~~~ s) = s; rw [BitVec.not_not]
theorem nothing (s : BitVec 32) : ~~~ Cm.steps (8 * 0) (~~~ s) ^^^ ~~~ Cm.steps (8 * 0) (~~~ 0#32) ^^^ 0#32 = s := by
  rw [none_, none_]; simp

set_option maxHeartbeats 1000000 in
theorem walk (a0 : Int) (a1 : Int) (a2 : Int) (a3 : Int) (w : World) (w0 : (Lit.int .u32 a0).wf = true) (w1 : (Lit.int .u32 a1).wf = true) (w2 : (Lit.int .u32 a2).wf = true) (w3 : (Lit.int .u8 a3).wf = true) :
    Calls Try.prog 12 #[.int .u32 a0, .int .u32 a1, .int .u32 a2, .int .u8 a3] w fun e w' => e = .returned (.bool true) ∧ Below w.heap.size w w' := by
  have b0 := wf_u32 w0
  have b1 := wf_u32 w1
  have b2 := wf_u32 w2
  have b3 := wf_u8 w3
  clear w0 w1 w2 w3
  obtain ⟨s, rfl⟩ : ∃ s : BitVec 32, a0 = U s := ⟨_, (U_of a0 b0.1 b0.2).symm⟩
  clear b0
  obtain ⟨x, rfl⟩ := Int.eq_ofNat_of_zero_le b1.1
  obtain ⟨y, rfl⟩ := Int.eq_ofNat_of_zero_le b2.1
  go_enter Try.func12, Try.ntmps12
  go_wp2_with fail
  refine (turn_any s _ _ (by omega) (by omega)).mono ?_
  rintro e w1 ⟨rfl, hb1⟩
  have hs1 := hb1.size
  rw [show ((x : Int) * 128).toNat = x * 128 by omega]
  generalize h1 : ~~~ Cm.steps (8 * (x * 128)) (~~~ s) = r1
  have H1 := Lib.hid h1
  clear h1
  go_wp2_with fail
  refine (turn_any _ _ _ (by omega) (by omega)).mono ?_
  rintro e w2 ⟨rfl, hb2⟩
  have hc2 := hb1.trans (hb2.mono hs1)
  have hs2 := hc2.size
  clear hb1 hb2 hs1
  rw [show ((y : Int) * 128).toNat = y * 128 by omega]
  generalize h2 : ~~~ Cm.steps (8 * (y * 128)) (~~~ r1) = r2
  have H2 := Lib.hid h2
  clear h2
  go_wp2_with fail
  refine (turn_any _ _ _ (by omega) (by omega)).mono ?_
  rintro e w3 ⟨rfl, hb3⟩
  have hc3 := hc2.trans (hb3.mono hs2)
  have hs3 := hc3.size
  clear hc2 hb3 hs2
  have e3 : ~~~ Cm.steps (8 * ((x : Int) * 128 + (y : Int) * 128).toNat) (~~~ s) = r2 := by
    rw [← H2.out, ← H1.out, twice, show ((x : Int) * 128 + (y : Int) * 128).toNat = x * 128 + y * 128 by omega]
  rw [e3]
  clear H1 H2 e3
  go_wp2_with fail
  refine (turn_any _ _ _ (by omega) (by omega)).mono ?_
  rintro e w4 ⟨rfl, hb4⟩
  have hc4 := hc3.trans (hb4.mono hs3)
  have hs4 := hc4.size
  clear hc3 hb4 hs3
  rw [show (-a3).toNat = 0 by omega, none_]
  go_wp2_with fail
  refine (join_any s 0#32 _ _ (by omega) (by omega)).mono ?_
  rintro e w5 ⟨rfl, hb5⟩
  have hc5 := hc4.trans (hb5.mono hs4)
  have hs5 := hc5.size
  clear hc4 hb5 hs4
  rw [show (-a3).toNat = 0 by omega, nothing]
  go_wp2_with fail
  refine (works_any _).mono ?_
  rintro e w6 ⟨rfl, hb6⟩
  have hc6 := hc5.trans (hb6.mono hs5)
  go_wp2_with fail
  go_ret
  exact ⟨rfl, hc6⟩

set_option maxRecDepth 100000 in
theorem lifted (os : Os) (started : os.Started) (H : Type) (enc : TypeId × Value → H) :
    ReturnsInHanded {} Try.checked os 12 .any (Rows.crcFarSpec.pre6 enc Try.prog Try.f12 Rows.crcFarRow.domain false) (Rows.crcFarSpec.post enc Try.prog Try.f12 false true false false) := by
  refine returnsInHanded_of_change (C := Try.checked) own started (by kernel_rfl) Try.func12
    (ChangeSpec.witness6 (enc := enc) (C := Try.checked) false ⟨#[], #[.int .u32 0, .int .u32 0, .int .u32 0, .int .u8 0], []⟩ 8 (by kernel_rfl) (by kernel_rfl) (by kernel_rfl) (by kernel_rfl)) ?_
  intro W base args ds gs before hval0 hW hcnd _
  have hval : ∀ (j : Nat) t v, Try.f12.params[j]? = some t → args[j]? = some v → Value.okWide Try.prog W .any base t v := hval0
  have hW' := hW
  obtain ⟨p, q, hA0, hV, rfl, hfz, hnd⟩ := hW
  have hA : DataW.TrodAll enc Try.prog W 0 (fun _ => true) true Try.f12.params.toList args.toList ds p := hA0
  rw [Try.params12] at hA hval
  obtain ⟨v0, vs0, d0, ds0, p0, q0, hargs, rfl, rfl, h0, r0⟩ := trodAll_cons hA
  obtain ⟨v1, vs1, d1, ds1, p1, q1, rfl, rfl, rfl, h1, r1⟩ := trodAll_cons r0
  obtain ⟨v2, vs2, d2, ds2, p2, q2, rfl, rfl, rfl, h2, r2⟩ := trodAll_cons r1
  obtain ⟨v3, vs3, d3, ds3, p3, q3, rfl, rfl, rfl, h3, r3⟩ := trodAll_cons r2
  obtain ⟨rfl, rfl, rfl⟩ := trodAll_nil r3
  obtain rfl : args = #[v0, v1, v2, v3] := by cases args; simp_all
  obtain ⟨rfl, rfl⟩ := trodVars_none hV
  obtain ⟨a0, rfl, rfl, rfl, w0⟩ := open_int Try.underlying51 (hval 0 51 v0 rfl rfl) h0
  obtain ⟨a1, rfl, rfl, rfl, w1⟩ := open_int Try.underlying51 (hval 1 51 v1 rfl rfl) h1
  obtain ⟨a2, rfl, rfl, rfl, w2⟩ := open_int Try.underlying51 (hval 2 51 v2 rfl rfl) h2
  obtain ⟨a3, rfl, rfl, rfl, w3⟩ := open_int Try.underlying5 (hval 3 5 v3 rfl rfl) h3
  clear hA0 hval0
  refine (walk a0 a1 a2 a3 W w0 w1 w2 w3).mono fun e W' ⟨he, bel⟩ => ?_
  subst he
  exact ⟨_, rfl, _, _, _, [], _, [], hW', trodAll_mk1 (shut_bool Try.underlying4 _), (trodAll_cons_mk (shut_int Try.underlying51 w0) (trodAll_cons_mk (shut_int Try.underlying51 w1) (trodAll_cons_mk (shut_int Try.underlying51 w2) (trodAll_cons_mk (shut_int Try.underlying5 w3) trodAll_mk0)))), rfl, bel.frame _, fun h => by cases h⟩

theorem over : Rows.crcFarRow.holds Try.pinned (OpenSpec.ofChange Rows.crcFarSpec) :=
  OpenClaim.holds_of_wide 12 Try.f12 rfl rfl rfl rfl rfl rfl rfl ⟨rfl, rfl, rfl, rfl, rfl⟩ rfl rfl rfl rfl rfl (by kernel_rfl) Try.func12 (by kernel_rfl)
    (of_decide_eq_true (by kernel_rfl)) (by unfold Func.isWrapper; first | (rw [if_pos (by decide +kernel)]; kernel_rfl) | (rw [if_neg (by decide +kernel)]; exact ⟨rfl, rfl⟩))
    (fun os started H enc _ => lifted os started H enc)

theorem proved : Rows.CrcFarSaid := over
#print axioms proved
end Go.Proofs.Ytbfdliogpheekaa.crcFar
