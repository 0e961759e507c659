/-
  FrameBack: what stands in any bytes up to where their frames end is what is made of all records. No condition.
-/
import Derived.Test.YtnnhkanjneecjaaRows
import Derived.WalkKit
import Derived.ProofKit
import Derived.OpenShut
import Derived.ShutString
import Derived.ChangeOld
import Derived.Below
import Derived.Test.YtnnhkanjneecjaaFrR
namespace Go.Proofs.Ytnnhkanjneecjaa.frameBack
open Go.ChangeShapes Go.WideShapes Go.ChangeAt Go.RowKit
open Go.ChangeMaps (open_string shut_string)
set_option linter.unusedVariables false

theorem own : ownKnob Try.prog.godebug = none := by kernel_rfl
theorem laidOut : laidOutB Try.prog = true := by kernel_rfl

theorem encF_long (l : List (List UInt8)) : l.length ≤ (encF l).length := by
  induction l with
  | nil => simp
  | cons x l ih => rw [encF_cons, List.length_append, fr_len, List.length_cons]; omega

set_option maxRecDepth 100000 in
set_option maxHeartbeats 4000000 in
theorem walk (A0 : Option Addr) (b0 : List UInt8) (c0 : Nat) (w : World) (w0 : Bytes w w.heap.size A0 b0) (l0 : b0.length ≤ c0) (m0 : c0 ≤ maxLen) :
    Calls Try.prog 9 #[.slice A0 b0.length c0] w fun e w' => e = .returned (.bool true) ∧ Below w.heap.size w w' := by
  by_cases hv : 8192 < b0.length
  · have hv' : (8192 : Int) < (b0.length : Int) := by omega
    go_enter Try.func9, Try.ntmps9
    go_wp2_with fail
    refine (fworks_any _).mono ?_
    rintro e W2 ⟨rfl, hb2⟩
    go_wp2_with fail
    go_ret
    exact ⟨rfl, hb2⟩
  · have hv' : ¬ (8192 : Int) < (b0.length : Int) := by omega
    obtain ⟨hE, hA⟩ := falR_back b0
    have hL := falR_le b0
    go_enter Try.func9, Try.ntmps9
    go_wp2_with fail
    refine (fall_any A0 b0.length c0 b0 w w0 rfl (by omega)).mono ?_
    rintro e W1 ⟨A1, n1, c1, rfl, hn1, hown1, hb1⟩
    generalize hp : falR b0 = P at hE hA hL hn1 hown1 ⊢
    obtain ⟨l, a⟩ := P
    simp only at hE hA hL hn1 hown1 ⊢
    have N1 := Lib.hid hn1
    have EE := Lib.hid hE
    have LL := Lib.hid hL
    have hel : (encF l).length ≤ 8192 := by rw [hE, List.length_take]; omega
    have hll : l.length ≤ 8192 := Nat.le_trans (encF_long l) hel
    have hs1 := hb1.size
    have z1 := hown1.strs.1
    have e1 : putFB [] l = encF l := by unfold putFB; rw [okF_all hL]; rfl
    have e2 : putFE l = 0 := by unfold putFE; rw [okF_all hL]; rfl
    clear hn1 hE hL hp hown1
    go_wp2_with fail
    refine (fput_any none A1 0 0 n1 c1 [] l W1 (no_bytes _ _ _) rfl z1 N1.out (by simp; omega) (by omega)).mono ?_
    rintro e W2 ⟨A2, n2, c2, rfl, hn2, hown2, hb2⟩
    rw [e1] at hn2 hown2
    rw [e2]
    have N2 := Lib.hid hn2
    clear hn2 e1 e2
    have hb12 := hb1.trans (hb2.mono hs1)
    have hs2 := hb12.size
    have x2 := (own_open hown2).1
    have y0 := Reads.more (Reads.below w0 hb12) hs2
    have y1 := bytes_take y0 a hA
    have hal : (b0.take a).length = a := by rw [List.length_take]; omega
    have q1 := str_n W2.drew _ A2 n2 c2 _ (Reads.drew x2) N2.out
    have q2 := str_n W2.drew _ A0 a c0 _ (Reads.drew y1) hal.symm
    have i1 : (0 : Int) ≤ (a : Int) := by omega
    have i2 : (a : Int) ≤ (b0.length : Int) := by omega
    have i3 : max (a : Int) 0 = (a : Int) := by omega
    have i4 : min (a : Int) (b0.length : Int) = (a : Int) := by omega
    have i5 : (a : Int) ≤ (c0 : Int) := by omega
    rw [EE.out] at q1
    generalize strB (b0.take a) = X at q1 q2
    clear hown2 x2 y0 y1 hal hb2 z1
    go_wp2_with fail
    go_region_held (fun _ => True) (trivial) (first | (go_at_call 35; refine (fworks_any _).mono ?_; rintro e W3 ⟨rfl, hb3⟩))
    all_goals go_wp2_with fail
    all_goals go_ret
    all_goals exact ⟨rfl, hb12.trans ((Below.refl _ _).drew.trans (hb3.mono hs2))⟩

set_option maxRecDepth 100000 in
theorem lifted (os : Os) (started : os.Started) (H : Type) (enc : TypeId × Value → H) :
    ReturnsInHanded {} Try.checked os 9 .any (Rows.frameBackSpec.pre6 enc Try.prog Try.f9 Rows.frameBackRow.domain false) (Rows.frameBackSpec.post enc Try.prog Try.f9 false true false false) := by
  refine returnsInHanded_of_change (C := Try.checked) own started (by kernel_rfl) Try.func9
    (ChangeSpec.witness6 (enc := enc) (C := Try.checked) false ⟨#[], #[.slice none 0 0], []⟩ 8 (by kernel_rfl) (by kernel_rfl) (by kernel_rfl) (by kernel_rfl)) ?_
  intro W base args ds gs before hval0 hW hcnd _
  have hval : ∀ (j : Nat) t v, Try.f9.params[j]? = some t → args[j]? = some v → Value.okWide Try.prog W .any base t v := hval0
  have hW' := hW
  obtain ⟨p, q, hA0, hV, rfl, hfz, hnd⟩ := hW
  have hA : DataW.TrodAll enc Try.prog W 0 (fun _ => true) true Try.f9.params.toList args.toList ds p := hA0
  rw [Try.params9] at hA hval
  obtain ⟨v0, vs0, d0, ds0, p0, q0, hargs, rfl, rfl, h0, r0⟩ := trodAll_cons hA
  obtain ⟨rfl, rfl, rfl⟩ := trodAll_nil r0
  obtain rfl : args = #[v0] := by cases args; simp_all
  obtain ⟨rfl, rfl⟩ := trodVars_none hV
  obtain ⟨A0, n0, c0, rfl⟩ := okWide_slice Try.underlying22 (hval 0 22 v0 rfl rfl)
  have k0 := h0
  have lt0 : ∀ x ∈ p0, x.block < W.heap.size := by obtain ⟨m, hm⟩ := k0; exact DataW.trod_lt m _ _ _ hm
  obtain ⟨z0, x0⟩ : ∃ zs, IsRow .u8 W A0 n0 c0 zs := by
    obtain ⟨fuel, hf⟩ := h0
    rcases open_ints Try.underlying22 Try.underlying5 (by kernel_rfl) hf with ⟨hcs, _⟩ | ⟨x, l, c, zs, hcs, _, hl, hm, hz, _, hcell, hwz⟩
    · simp [Value.cells] at hcs
      obtain ⟨rfl, rfl, rfl⟩ := hcs
      exact ⟨[], .inl ⟨rfl, rfl, rfl, rfl⟩⟩
    · simp [Value.cells] at hcs
      obtain ⟨rfl, rfl, rfl⟩ := hcs
      exact ⟨zs, .inr ⟨_, rfl, hl, hm, by simpa using hz, hcell, hwz⟩⟩
  obtain ⟨b0, rfl, w0, l0, m0⟩ := row_bytes x0
  clear hA0 hval0
  refine (walk A0 b0 c0 W w0 l0 m0).mono fun e W' ⟨he, bel⟩ => ?_
  subst he
  exact ⟨_, rfl, _, _, _, [], _, [], hW', trodAll_mk1 (shut_bool Try.underlying4 _), (trodAll_cons_mk (Below.trod laidOut (by kernel_rfl) (of_decide_eq_true (by kernel_rfl)) k0 bel lt0) trodAll_mk0), rfl, bel.frame _, fun h => by cases h⟩

theorem over : Rows.frameBackRow.holds Try.pinned (OpenSpec.ofChange Rows.frameBackSpec) :=
  OpenClaim.holds_of_wide 9 Try.f9 rfl rfl rfl rfl rfl rfl rfl ⟨rfl, rfl, rfl, rfl, rfl⟩ rfl rfl rfl rfl rfl (by kernel_rfl) Try.func9 (by kernel_rfl)
    (of_decide_eq_true (by kernel_rfl)) (by unfold Func.isWrapper; first | (rw [if_pos (by decide +kernel)]; kernel_rfl) | (rw [if_neg (by decide +kernel)]; exact ⟨rfl, rfl⟩))
    (fun os started H enc _ => lifted os started H enc)

theorem proved : Rows.FrameBackSaid := over
#print axioms proved
end Go.Proofs.Ytnnhkanjneecjaa.frameBack
