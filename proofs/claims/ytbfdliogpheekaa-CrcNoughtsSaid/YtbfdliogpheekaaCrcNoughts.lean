/-
  CrcNoughts: any number of noughts behind any sum is the document's answer. For every input, without a condition.
-/
import Derived.Test.YtbfdliogpheekaaRows
import Derived.WalkKit
import Derived.ProofKit
import Derived.OpenShut
import Derived.ShutString
import Derived.ChangeOld
import Derived.Below
import Derived.Test.YtbfdliogpheekaaCrcE
import Derived.Deep.RegionWith
namespace Go.Proofs.Ytbfdliogpheekaa.crcNoughts
open Go.ChangeShapes Go.WideShapes Go.ChangeAt Go.RowKit
open Go.ChangeMaps (open_string shut_string)
set_option linter.unusedVariables false

theorem own : ownKnob Try.prog.godebug = none := by kernel_rfl
theorem laidOut : laidOutB Try.prog = true := by kernel_rfl

theorem of_drew {w w1 : World} (h : Below w.drew.heap.size w.drew w1) : Below w.heap.size w w1 := ⟨h.os, h.tape, h.output, h.size, h.block⟩
theorem of_made {w w1 : World} {o : Obj} (h : Below (w.alloc o).drew.heap.size (w.alloc o).drew w1) : Below w.heap.size w w1 :=
  ((Below.refl w.heap.size w).alloc (Nat.le_refl _) o).trans ((of_drew (w := w.alloc o) h).mono (by simp))
theorem made_first {w w1 : World} {k : Nat} (h : Below (w.alloc (.cells (bv (List.replicate k 0)).toArray 5)).drew.heap.size (w.alloc (.cells (bv (List.replicate k 0)).toArray 5)).drew w1) :
    Bytes w1 w1.heap.size (some ⟨w.heap.size, 0, none⟩) (List.replicate k 0) := by
  have h' := of_drew h
  have hb := bytes_const w (List.replicate k 0) 5 (0, 0)
  exact (Reads.below hb h').more h'.size
theorem endA {w w1 w3 : World} {o : Obj} (h1 : Below w.drew.heap.size w.drew w1) (h3 : Below (w1.alloc o).heap.size (w1.alloc o) w3) : Below w.heap.size w w3 :=
  ((of_drew h1).alloc (of_drew h1).size o).trans (h3.mono (by have := (of_drew h1).size; simp; omega))
theorem endB {w w1 w3 : World} {o : Obj} (h1 : Below (w.alloc o).drew.heap.size (w.alloc o).drew w1) (h3 : Below w1.heap.size w1 w3) : Below w.heap.size w w3 :=
  (of_made h1).trans (h3.mono (of_made h1).size)

set_option maxHeartbeats 1000000 in
theorem walk (a0 : Int) (a1 : Int) (w : World) (w0 : (Lit.int .u32 a0).wf = true) (w1 : (Lit.int .i64 a1).wf = true) :
    Calls Try.prog 9 #[.int .u32 a0, .int .i64 a1] w fun e w' => e = .returned (.bool true) ∧ Below w.heap.size w w' := by
  have d0 := wf_u32 w0
  have d1 := wf_i64 w1
  clear w0 w1
  obtain ⟨s, rfl⟩ : ∃ s : BitVec 32, a0 = U s := ⟨_, (U_of a0 d0.1 d0.2).symm⟩
  clear d0
  by_cases hv : 3000 < a1
  · go_enter Try.func9, Try.ntmps9
    go_wp2_with fail
    refine (works_any _).mono ?_
    rintro e w2 ⟨rfl, hb2⟩
    go_wp2_with fail
    go_ret
    exact ⟨rfl, hb2⟩
  · by_cases h0 : 0 ≤ a1
    · obtain ⟨k, rfl⟩ := Int.eq_ofNat_of_zero_le h0
      have hk : k ≤ 3000 := by omega
      have hmk := fun W : World => make_any W k (by omega)
      go_enter Try.func9, Try.ntmps9
      go_wp2_with fail
      go_region_with (first
        | (go_at_call 39; refine (turn_any s _ _ (by omega) (by omega)).mono ?_; rintro e w1 ⟨rfl, hb1⟩)
        | (go_at_call 38; refine (rmore_zero s _ k _ ?_ (by unfold maxLen; omega)).mono ?_; (first | exact bytes_const w1 (List.replicate k 0) 5 (0, 0) | exact made_first hb1); rintro e w2 ⟨rfl, rfl⟩)
        | (go_at_call 34; refine (works_any _).mono ?_; rintro e w3 ⟨rfl, hb3⟩))
      all_goals (go_wp2; go_ret; exact ⟨rfl, by first | exact endA hb1 hb3 | exact endB hb1 hb3⟩)
    · have hmk : ∀ W : World, (Instr.makeSlice 22 (.int .i64 0) (.int .i64 0)).run Try.prog W = .ok (.slice (some ⟨W.heap.size, 0, none⟩) 0 0) (W.alloc (.cells (bv (List.replicate 0 0)).toArray 5)) := fun W => make_any W 0 (by omega)
      have hn : a1.toNat = 0 := by omega
      have ht : ∀ W : World, Calls Try.prog 39 #[.int .u32 (U s), .int .i64 a1] W fun e w' => e = .returned (.int .u32 (U (~~~ Cm.steps (8 * 0) (~~~ s)))) ∧ Below W.heap.size W w' := fun W => by
        have := turn_any s a1 W (by omega) (by omega)
        rw [hn] at this
        exact this
      have HT := Lib.hid ht
      clear ht hn
      go_enter Try.func9, Try.ntmps9
      go_wp2_with fail
      go_region_with (first
        | (go_at_call 39; refine (HT.out _).mono ?_; rintro e w1 ⟨rfl, hb1⟩)
        | (go_at_call 38; refine (rmore_zero s _ 0 _ ?_ (by decide)).mono ?_; (first | exact bytes_const w1 (List.replicate 0 0) 5 (0, 0) | exact made_first (k := 0) hb1); rintro e w2 ⟨rfl, rfl⟩)
        | (go_at_call 34; refine (works_any _).mono ?_; rintro e w3 ⟨rfl, hb3⟩))
      all_goals (go_wp2; go_ret; exact ⟨rfl, by first | exact endA hb1 hb3 | exact endB hb1 hb3⟩)

set_option maxRecDepth 100000 in
theorem lifted (os : Os) (started : os.Started) (H : Type) (enc : TypeId × Value → H) :
    ReturnsInHanded {} Try.checked os 9 .any (Rows.crcNoughtsSpec.pre6 enc Try.prog Try.f9 Rows.crcNoughtsRow.domain false) (Rows.crcNoughtsSpec.post enc Try.prog Try.f9 false true false false) := by
  refine returnsInHanded_of_change (C := Try.checked) own started (by kernel_rfl) Try.func9
    (ChangeSpec.witness6 (enc := enc) (C := Try.checked) false ⟨#[], #[.int .u32 0, .int .i64 0], []⟩ 8 (by kernel_rfl) (by kernel_rfl) (by kernel_rfl) (by kernel_rfl)) ?_
  intro W base args ds gs before hval0 hW hcnd _
  have hval : ∀ (j : Nat) t v, Try.f9.params[j]? = some t → args[j]? = some v → Value.okWide Try.prog W .any base t v := hval0
  have hW' := hW
  obtain ⟨p, q, hA0, hV, rfl, hfz, hnd⟩ := hW
  have hA : DataW.TrodAll enc Try.prog W 0 (fun _ => true) true Try.f9.params.toList args.toList ds p := hA0
  rw [Try.params9] at hA hval
  obtain ⟨v0, vs0, d0, ds0, p0, q0, hargs, rfl, rfl, h0, r0⟩ := trodAll_cons hA
  obtain ⟨v1, vs1, d1, ds1, p1, q1, rfl, rfl, rfl, h1, r1⟩ := trodAll_cons r0
  obtain ⟨rfl, rfl, rfl⟩ := trodAll_nil r1
  obtain rfl : args = #[v0, v1] := by cases args; simp_all
  obtain ⟨rfl, rfl⟩ := trodVars_none hV
  obtain ⟨a0, rfl, rfl, rfl, w0⟩ := open_int Try.underlying51 (hval 0 51 v0 rfl rfl) h0
  obtain ⟨a1, rfl, rfl, rfl, w1⟩ := open_int Try.underlying3 (hval 1 3 v1 rfl rfl) h1
  clear hA0 hval0
  refine (walk a0 a1 W w0 w1).mono fun e W' ⟨he, bel⟩ => ?_
  subst he
  exact ⟨_, rfl, _, _, _, [], _, [], hW', trodAll_mk1 (shut_bool Try.underlying4 _), (trodAll_cons_mk (shut_int Try.underlying51 w0) (trodAll_cons_mk (shut_int Try.underlying3 w1) trodAll_mk0)), rfl, bel.frame _, fun h => by cases h⟩

theorem over : Rows.crcNoughtsRow.holds Try.pinned (OpenSpec.ofChange Rows.crcNoughtsSpec) :=
  OpenClaim.holds_of_wide 9 Try.f9 rfl rfl rfl rfl rfl rfl rfl ⟨rfl, rfl, rfl, rfl, rfl⟩ rfl rfl rfl rfl rfl (by kernel_rfl) Try.func9 (by kernel_rfl)
    (of_decide_eq_true (by kernel_rfl)) (by unfold Func.isWrapper; first | (rw [if_pos (by decide +kernel)]; kernel_rfl) | (rw [if_neg (by decide +kernel)]; exact ⟨rfl, rfl⟩))
    (fun os started H enc _ => lifted os started H enc)

theorem proved : Rows.CrcNoughtsSaid := over
#print axioms proved
end Go.Proofs.Ytbfdliogpheekaa.crcNoughts
