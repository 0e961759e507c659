/-
  CrcPlays: the sum of any bytes, and with any others behind it, is the document's; the bytes stay. For every input, without a condition.
-/
import Derived.Test.YtbfdliogpheekaaRows
import Derived.WalkKit
import Derived.ProofKit
import Derived.OpenShut
import Derived.ShutString
import Derived.ChangeOld
import Derived.Below
import Derived.Test.YtbfdliogpheekaaCrcE
namespace Go.Proofs.Ytbfdliogpheekaa.crcPlays
open Go.ChangeShapes Go.WideShapes Go.ChangeAt Go.RowKit
open Go.ChangeMaps (open_string shut_string)
set_option linter.unusedVariables false

theorem own : ownKnob Try.prog.godebug = none := by kernel_rfl
theorem laidOut : laidOutB Try.prog = true := by kernel_rfl


set_option maxHeartbeats 1000000 in
theorem walk (A0 : Option Addr) (b0 : List UInt8) (c0 : Nat) (a1 : Int) (w : World) (w0 : Bytes w w.heap.size A0 b0) (l0 : b0.length ≤ c0) (m0 : c0 ≤ maxLen) (w1 : (Lit.int .u32 a1).wf = true) :
    Calls Try.prog 8 #[.slice A0 b0.length c0, .int .u32 a1] w fun e w' => e = .returned (.bool true) ∧ Below w.heap.size w w' := by
  have d1 := wf_u32 w1
  clear w1
  obtain ⟨s, rfl⟩ : ∃ s : BitVec 32, a1 = U s := ⟨_, (U_of a1 d1.1 d1.2).symm⟩
  clear d1
  by_cases hv : 4096 < b0.length
  · go_enter Try.func8, Try.ntmps8
    go_wp2_with fail
    refine (vast_yes _ _ _ _ hv).mono ?_
    rintro e w1 ⟨rfl, rfl⟩
    go_wp2_with fail
    refine (works_any _).mono ?_
    rintro e w2 ⟨rfl, hb2⟩
    go_wp2_with fail
    go_ret
    exact ⟨rfl, hb2⟩
  · go_enter Try.func8, Try.ntmps8
    go_wp2_with fail
    refine (vast_no _ _ _ _ hv).mono ?_
    rintro e w1 ⟨rfl, rfl⟩
    have hl : b0.length ≤ maxLen := by omega
    go_wp2_with (at_builtin; refine wpList_app rfl _ _ 22 rfl w.heap.size 5 (.slice (some ⟨w.heap.size, 0, none⟩) 0 0) [] b0 b0 w.heap.size A0 c0 rfl rfl rfl (app_any _ w.heap.size _ [] b0 (OwnB.made w _ 5 (Nat.le_refl _)) w.heap.size A0 c0 (Reads.alloc w0 (Nat.le_refl _) _) (by simp; omega) (by simp)) w ((Below.refl _ _).alloc (Nat.le_refl _) _) (by intro k hk; simp [Value.ownBlock] at hk; omega) (by simp) ?_; intro A1 c1 w1 hown1 hB1 hl1 hg1 hbel1 hs1)
    clear hown1 hg1
    refine (sum_any A1 c1 b0 _ hB1 hl1).mono ?_
    rintro e w2 ⟨rfl, rfl⟩
    have w0' := (Reads.below w0 hbel1).more hs1
    go_wp2_with fail
    refine (rsum_any A0 c0 b0 _ w0' hl).mono ?_
    rintro e w2 ⟨rfl, rfl⟩
    go_wp2_with fail
    refine (more_any s A1 c1 b0 _ hB1 hl1).mono ?_
    rintro e w2 ⟨rfl, rfl⟩
    go_wp2_with fail
    refine (rmore_any s A0 c0 b0 _ w0' hl).mono ?_
    rintro e w2 ⟨rfl, rfl⟩
    have hst1 := str_any w1 w1.heap.size A1 c1 b0 hB1
    have hst0 := str_any w1 w1.heap.size A0 c0 b0 w0'
    go_wp2_with fail
    refine (works_any _).mono ?_
    rintro e w2 ⟨rfl, hb2⟩
    go_wp2_with fail
    go_ret
    exact ⟨rfl, hbel1.trans (hb2.mono hs1)⟩

set_option maxRecDepth 100000 in
theorem lifted (os : Os) (started : os.Started) (H : Type) (enc : TypeId × Value → H) :
    ReturnsInHanded {} Try.checked os 8 .any (Rows.crcPlaysSpec.pre6 enc Try.prog Try.f8 Rows.crcPlaysRow.domain false) (Rows.crcPlaysSpec.post enc Try.prog Try.f8 false true false false) := by
  refine returnsInHanded_of_change (C := Try.checked) own started (by kernel_rfl) Try.func8
    (ChangeSpec.witness6 (enc := enc) (C := Try.checked) false ⟨#[], #[.slice none 0 0, .int .u32 0], []⟩ 8 (by kernel_rfl) (by kernel_rfl) (by kernel_rfl) (by kernel_rfl)) ?_
  intro W base args ds gs before hval0 hW hcnd _
  have hval : ∀ (j : Nat) t v, Try.f8.params[j]? = some t → args[j]? = some v → Value.okWide Try.prog W .any base t v := hval0
  have hW' := hW
  obtain ⟨p, q, hA0, hV, rfl, hfz, hnd⟩ := hW
  have hA : DataW.TrodAll enc Try.prog W 0 (fun _ => true) true Try.f8.params.toList args.toList ds p := hA0
  rw [Try.params8] at hA hval
  obtain ⟨v0, vs0, d0, ds0, p0, q0, hargs, rfl, rfl, h0, r0⟩ := trodAll_cons hA
  obtain ⟨v1, vs1, d1, ds1, p1, q1, rfl, rfl, rfl, h1, r1⟩ := trodAll_cons r0
  obtain ⟨rfl, rfl, rfl⟩ := trodAll_nil r1
  obtain rfl : args = #[v0, v1] := by cases args; simp_all
  obtain ⟨rfl, rfl⟩ := trodVars_none hV
  obtain ⟨A0, n0, c0, rfl⟩ := okWide_slice Try.underlying22 (hval 0 22 v0 rfl rfl)
  have k0 := h0
  have lt0 : ∀ x ∈ p0, x.block < W.heap.size := by obtain ⟨m, hm⟩ := k0; exact DataW.trod_lt m _ _ _ hm
  obtain ⟨z0, x0⟩ : ∃ zs, IsRow .u8 W A0 n0 c0 zs := by
    obtain ⟨fuel, hf⟩ := h0
    rcases open_ints Try.underlying22 Try.underlying5 (by kernel_rfl) hf with ⟨hcs, _⟩ | ⟨x, l, c, zs, hcs, _, hl, hm, hz, _, hcell, hwz⟩
    · simp [Value.cells] at hcs
      obtain ⟨rfl, rfl, rfl⟩ := hcs
      exact ⟨[], .inl ⟨rfl, rfl, rfl, rfl⟩⟩
    · simp [Value.cells] at hcs
      obtain ⟨rfl, rfl, rfl⟩ := hcs
      exact ⟨zs, .inr ⟨_, rfl, hl, hm, by simpa using hz, hcell, hwz⟩⟩
  obtain ⟨b0, rfl, w0, l0, m0⟩ := row_bytes x0
  obtain ⟨a1, rfl, rfl, rfl, w1⟩ := open_int Try.underlying51 (hval 1 51 v1 rfl rfl) h1
  clear hA0 hval0
  refine (walk A0 b0 c0 a1 W w0 l0 m0 w1).mono fun e W' ⟨he, bel⟩ => ?_
  subst he
  exact ⟨_, rfl, _, _, _, [], _, [], hW', trodAll_mk1 (shut_bool Try.underlying4 _), (trodAll_cons_mk (Below.trod laidOut (by kernel_rfl) (of_decide_eq_true (by kernel_rfl)) k0 bel lt0) (trodAll_cons_mk (shut_int Try.underlying51 w1) trodAll_mk0)), rfl, bel.frame _, fun h => by cases h⟩

theorem over : Rows.crcPlaysRow.holds Try.pinned (OpenSpec.ofChange Rows.crcPlaysSpec) :=
  OpenClaim.holds_of_wide 8 Try.f8 rfl rfl rfl rfl rfl rfl rfl ⟨rfl, rfl, rfl, rfl, rfl⟩ rfl rfl rfl rfl rfl (by kernel_rfl) Try.func8 (by kernel_rfl)
    (of_decide_eq_true (by kernel_rfl)) (by unfold Func.isWrapper; first | (rw [if_pos (by decide +kernel)]; kernel_rfl) | (rw [if_neg (by decide +kernel)]; exact ⟨rfl, rfl⟩))
    (fun os started H enc _ => lifted os started H enc)

theorem proved : Rows.CrcPlaysSaid := over
#print axioms proved
end Go.Proofs.Ytbfdliogpheekaa.crcPlays
