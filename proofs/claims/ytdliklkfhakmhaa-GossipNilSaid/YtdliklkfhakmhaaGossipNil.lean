/-
  For every number of a region, every vector and every slice of numbers: where there are no peers each call answers as the document's section on errors says, and the chapter's example holds; no further conditions.
-/
import Derived.Test.YtdliklkfhakmhaaRows
import Derived.WalkKit
import Derived.ProofKit
import Derived.OpenShut
import Derived.ShutString
import Derived.ChangeOld
import Derived.Below
import Derived.Test.YtdliklkfhakmhaaVecO
import Derived.Test.YtdliklkfhakmhaaNumO
import Derived.Test.YtdliklkfhakmhaaGosW
namespace Go.Proofs.Ytdliklkfhakmhaa.gossipNil
open Go.ChangeShapes Go.WideShapes Go.ChangeAt Go.RowKit
open Go.ChangeMaps (open_string shut_string)
set_option linter.unusedVariables false

theorem own : ownKnob Try.prog.godebug = none := by kernel_rfl
theorem laidOut : laidOutB Try.prog = true := by kernel_rfl

attribute [local go_sem ↓] exec_loadV exec_storeV exec_buildV Go.wp_at_zero Go.wp_at_succ
theorem meet_zero : ∀ (zs : List Int), meetV (zs.map (ofV none)) = Z6
  | [] => rfl
  | z :: zs => by
    show (zs.map (ofV none)).foldl (fun o n => List.zipWith (pick ltN) o n) Z6 = Z6
    induction zs with
    | nil => rfl
    | cons y zs ih => exact ih

set_option maxRecDepth 100000 in
set_option maxHeartbeats 4000000 in
theorem walk (a0 : Int) (L1 : List Nat) (A2 : Option Addr) (z2 : List Int) (c2 : Nat) (w : World) (w0 : (Lit.int .i64 a0).wf = true) (w1 : L1.length = 6) (u1 : ∀ x ∈ L1, x ≤ 18446744073709551615) (w2 : Nums w w.heap.size A2 z2) (u2 : ∀ z ∈ z2, (Lit.int .i64 z).wf = true) (g2 : z2.length ≤ c2) (m2 : c2 ≤ maxLen) :
    Calls Try.prog 9 #[.int .i64 a0, .agg (vecA L1), .slice A2 z2.length c2] w fun e w' => e = .returned (.bool true) ∧ Below w.heap.size w w' := by
  have W1 := Lib.hid w1
  clear w0 w1 u1 u2 g2 m2
  have q2 : ∀ W, (Op.equalIn 10000 24 (.agg (vecA Z6)) (.agg #[.int .u64 0, .int .u64 0, .int .u64 0, .int .u64 0, .int .u64 0, .int .u64 0])).run Try.prog W = .ok true W := vec_same (L := Z6) (M := Z6) rfl rfl
  obtain ⟨n, hn⟩ : ∃ n, Hid (n = z2.length) := ⟨_, Lib.hid rfl⟩
  have hzw : Calls Try.prog 9 #[.int .i64 a0, .agg (vecA L1), .slice A2 n c2] w fun e w' => e = .returned (.bool true) ∧ Below w.heap.size w w' := by
    by_cases h20 : 20 < n
    · have h20' : (20 : Int) < (n : Int) := by omega
      have hb := (Below.refl w.heap.size w).alloc (Nat.le_refl _) (.cells (vecA L1) 24)
      go_enter Try.func9, Try.ntmps9
      go_wp2_with fail
      refine (gworks_any _).mono ?_
      rintro e w2 ⟨rfl, hb2⟩
      have hbf := hb.trans (hb2.mono hb.size)
      go_wp2_with fail
      go_ret
      exact ⟨rfl, hbf⟩
    · have h20' : ¬ (20 : Int) < (n : Int) := by omega
      have l1 : ∀ W, Blk W w.heap.size 24 (vecA L1) → (loadV (.pointer (some ⟨w.heap.size, 0, none⟩))).run Try.prog W = .ok (.agg (vecA L1)) W := fun W h => run_loadV W1.out h
      have hB := Blk.new w 24 (vecA L1)
      have hb := (Below.refl w.heap.size w).alloc (Nat.le_refl _) (.cells (vecA L1) 24)
      have hN := w2
      have hle : z2.length ≤ 1099511627775 := by rw [← hn.out]; omega
      clear w2
      go_enter Try.func9, Try.ntmps9
      go_wp2_with fail
      refine (told_nil _ L1 _).mono ?_
      rintro e w3 ⟨rfl, hb3⟩
      have z3 := hb.trans (hb3.mono hb.size)
      clear hb hb3 hB
      go_wp2_with fail
      refine (of_nil _ _).mono ?_
      rintro e w4 ⟨rfl, hb4⟩
      have z4 := z3.trans (hb4.mono z3.size)
      clear z3 hb4
      go_wp2_with fail
      refine (least_any (p := none) (P := none) A2 n c2 z2 _ (.inl ⟨rfl, rfl⟩) ((hN.below z4).more z4.size) hn.out hle).mono ?_
      rintro e w5 ⟨rfl, hb5⟩
      rw [meet_zero]
      have z5 := z4.trans (hb5.mono z4.size)
      clear hN z4 hb5
      go_wp2_with fail
      refine (lacks_nil _ _ _ _).mono ?_
      rintro e w6 ⟨rfl, hb6⟩
      have z6 := z5.trans (hb6.mono z5.size)
      clear z5 hb6
      go_wp2_with fail
      refine (gworks_any _).mono ?_
      rintro e w7 ⟨rfl, hb7⟩
      have z7 := z6.trans (hb7.mono z6.size)
      clear z6 hb7
      go_wp2_with fail
      go_ret
      exact ⟨rfl, z7⟩
  rw [← hn.out]
  exact hzw

set_option maxRecDepth 100000 in
theorem lifted (os : Os) (started : os.Started) (H : Type) (enc : TypeId × Value → H) :
    ReturnsInHanded {} Try.checked os 9 .any (Rows.gossipNilSpec.pre6 enc Try.prog Try.f9 Rows.gossipNilRow.domain false) (Rows.gossipNilSpec.post enc Try.prog Try.f9 false true false false) := by
  refine returnsInHanded_of_change (C := Try.checked) own started (by kernel_rfl) Try.func9
    (ChangeSpec.witness6 (enc := enc) (C := Try.checked) false ⟨#[], #[.int .i64 0, .agg #[.int .u64 0, .int .u64 0, .int .u64 0, .int .u64 0, .int .u64 0, .int .u64 0], .slice none 0 0], []⟩ 8 (by kernel_rfl) (by kernel_rfl) (by kernel_rfl) (by kernel_rfl)) ?_
  intro W base args ds gs before hval0 hW hcnd _
  have hval : ∀ (j : Nat) t v, Try.f9.params[j]? = some t → args[j]? = some v → Value.okWide Try.prog W .any base t v := hval0
  have hW' := hW
  obtain ⟨p, q, hA0, hV, rfl, hfz, hnd⟩ := hW
  have hA : DataW.TrodAll enc Try.prog W 0 (fun _ => true) true Try.f9.params.toList args.toList ds p := hA0
  rw [Try.params9] at hA hval
  obtain ⟨v0, vs0, d0, ds0, p0, q0, hargs, rfl, rfl, h0, r0⟩ := trodAll_cons hA
  obtain ⟨v1, vs1, d1, ds1, p1, q1, rfl, rfl, rfl, h1, r1⟩ := trodAll_cons r0
  obtain ⟨v2, vs2, d2, ds2, p2, q2, rfl, rfl, rfl, h2, r2⟩ := trodAll_cons r1
  obtain ⟨rfl, rfl, rfl⟩ := trodAll_nil r2
  obtain rfl : args = #[v0, v1, v2] := by cases args; simp_all
  obtain ⟨rfl, rfl⟩ := trodVars_none hV
  obtain ⟨a0, rfl, rfl, rfl, w0⟩ := open_int Try.underlying3 (hval 0 3 v0 rfl rfl) h0
  have k1 := h1
  have lt1 : ∀ x ∈ p1, x.block < W.heap.size := by obtain ⟨m, hm⟩ := k1; exact DataW.trod_lt m _ _ _ hm
  obtain ⟨L1, rfl, w1, u1⟩ := open_vec (hval 1 24 v1 rfl rfl) h1
  obtain ⟨A2, n2, c2, rfl⟩ := okWide_slice Try.underlying47 (hval 2 47 v2 rfl rfl)
  have k2 := h2
  have lt2 : ∀ x ∈ p2, x.block < W.heap.size := by obtain ⟨m, hm⟩ := k2; exact DataW.trod_lt m _ _ _ hm
  obtain ⟨y2, x2⟩ : ∃ zs, IsRow .i64 W A2 n2 c2 zs := by
    obtain ⟨fuel, hf⟩ := h2
    rcases open_ints Try.underlying47 Try.underlying3 (by kernel_rfl) hf with ⟨hcs, _⟩ | ⟨x, l, c, zs, hcs, _, hl, hm, hz, _, hcell, hwz⟩
    · simp [Value.cells] at hcs
      obtain ⟨rfl, rfl, rfl⟩ := hcs
      exact ⟨[], .inl ⟨rfl, rfl, rfl, rfl⟩⟩
    · simp [Value.cells] at hcs
      obtain ⟨rfl, rfl, rfl⟩ := hcs
      exact ⟨zs, .inr ⟨_, rfl, hl, hm, by simpa using hz, hcell, hwz⟩⟩
  obtain ⟨z2, rfl, w2, u2, g2, m2⟩ := row_nums x2
  clear hA0 hval0
  refine (walk a0 L1 A2 z2 c2 W w0 w1 u1 w2 u2 g2 m2).mono fun e W' ⟨he, bel⟩ => ?_
  subst he
  exact ⟨_, rfl, _, _, _, [], _, [], hW', trodAll_mk1 (shut_bool Try.underlying4 _), (trodAll_cons_mk (shut_int Try.underlying3 w0) (trodAll_cons_mk (Below.trod laidOut (by kernel_rfl) (of_decide_eq_true (by kernel_rfl)) k1 bel lt1) (trodAll_cons_mk (Below.trod laidOut (by kernel_rfl) (of_decide_eq_true (by kernel_rfl)) k2 bel lt2) trodAll_mk0))), rfl, bel.frame _, fun h => by cases h⟩

theorem over : Rows.gossipNilRow.holds Try.pinned (OpenSpec.ofChange Rows.gossipNilSpec) :=
  OpenClaim.holds_of_wide 9 Try.f9 rfl rfl rfl rfl rfl rfl rfl ⟨rfl, rfl, rfl, rfl, rfl⟩ rfl rfl rfl rfl rfl (by kernel_rfl) Try.func9 (by kernel_rfl)
    (of_decide_eq_true (by kernel_rfl)) (by unfold Func.isWrapper; first | (rw [if_pos (by decide +kernel)]; kernel_rfl) | (rw [if_neg (by decide +kernel)]; exact ⟨rfl, rfl⟩))
    (fun os started H enc _ => lifted os started H enc)

theorem proved : Rows.GossipNilSaid := over
#print axioms proved
end Go.Proofs.Ytdliklkfhakmhaa.gossipNil
