/-
  OctetNumbers: any number in any size, and what stands at any place, are the document's; what is handed in stays. For every input, without a condition.
-/
import Derived.Test.YtbfdliogpheekaaRows
import Derived.WalkKit
import Derived.ProofKit
import Derived.OpenShut
import Derived.ShutString
import Derived.ChangeOld
import Derived.Below
import Derived.Test.YtbfdliogpheekaaOctI
namespace Go.Proofs.Ytbfdliogpheekaa.octetNumbers
open Go.ChangeShapes Go.WideShapes Go.ChangeAt Go.RowKit
open Go.ChangeMaps (open_string shut_string)
set_option linter.unusedVariables false

theorem own : ownKnob Try.prog.godebug = none := by kernel_rfl
theorem laidOut : laidOutB Try.prog = true := by kernel_rfl


set_option maxRecDepth 100000 in
set_option maxHeartbeats 4000000 in
theorem walk (A0 : Option Addr) (b0 : List UInt8) (c0 : Nat) (a1 : Int) (a2 : Int) (a3 : Int) (w : World) (w0 : Bytes w w.heap.size A0 b0) (l0 : b0.length ≤ c0) (m0 : c0 ≤ maxLen) (w1 : (Lit.int .u64 a1).wf = true) (w2 : (Lit.int .i64 a2).wf = true) (w3 : (Lit.int .i64 a3).wf = true) :
    Calls Try.prog 3 #[.slice A0 b0.length c0, .int .u64 a1, .int .i64 a2, .int .i64 a3] w fun e w' => e = .returned (.bool true) ∧ Below w.heap.size w w' := by
  have d1 := wf_u64 w1
  clear w1 w2 w3
  obtain ⟨n, rfl⟩ := Int.eq_ofNat_of_zero_le d1.1
  have hn : n ≤ 18446744073709551615 := by omega
  clear d1
  by_cases hv : 4096 < b0.length
  · have hv' : (4096 : Int) < (b0.length : Int) := by omega
    go_enter Try.func3, Try.ntmps3
    go_wp2_with fail
    refine (oworks_any _).mono ?_
    rintro e w2 ⟨rfl, hb2⟩
    go_wp2_with fail
    go_ret
    exact ⟨rfl, hb2⟩
  · have hv' : ¬ (4096 : Int) < (b0.length : Int) := by omega
    have hl : b0.length ≤ 1099511627776 := by omega
    obtain ⟨N, P, E, ht1, ht2⟩ := takes_same b0 a2 a3 hl
    have T1 := Lib.hid ht1
    have T2 := Lib.hid ht2
    clear ht1 ht2
    go_enter Try.func3, Try.ntmps3
    go_wp2_with fail
    refine (roomy_any A0 c0 b0 _ w0 hl).mono ?_
    rintro e w1 ⟨rfl, rfl⟩
    have hB := Blk.new w 5 (room b0)
    have hbel := (Below.refl w.heap.size w).alloc (Nat.le_refl _) (.cells (room b0) 5)
    generalize w.alloc (.cells (room b0) 5) = W1 at hB hbel ⊢
    have hs1 := hbel.size
    have hlt := hB.lt
    go_wp2_with fail
    refine (put_any _ _ _ b0 n a3 W1 (room_bytes W1 _ b0 hB) rfl hl hn).mono ?_
    rintro e w2 ⟨A1, n1, c1, rfl, hn1, x1, hb1⟩
    have N1 := Lib.hid hn1
    clear hn1
    have hB2 := hB.below hb1 hlt
    have hbel2 := hbel.trans (hb1.mono hs1)
    have hs2 := hbel2.size
    have y2 := Reads.more (Reads.below w0 hbel2) hs2
    go_wp2_with fail
    refine (rput_any A0 c0 b0 n a3 w2 y2 hl hn).mono ?_
    rintro e w3 ⟨A2, n2, c2, rfl, hn2, x2, hb2⟩
    have N2 := Lib.hid hn2
    clear hn2
    have hB3 := hB2.below hb2 hB2.lt
    have x1' := Reads.below x1 hb2
    have hbel3 := hbel2.trans (hb2.mono hs2)
    have hs3 := hbel3.size
    have y3 := Reads.more (Reads.below w0 hbel3) hs3
    go_wp2_with fail
    refine (T1.out _ _ _ w3 (room_bytes w3 _ b0 hB3) rfl (by omega)).mono ?_
    rintro e w4 ⟨rfl, rfl⟩
    go_wp2_with fail
    refine (T2.out A0 _ c0 w3 y3 rfl).mono ?_
    rintro e w4 ⟨rfl, rfl⟩
    go_wp2_with fail
    refine (kept_any w.heap.size A0 c0 b0 w3 hB3 y3 hl).mono ?_
    rintro e w4 ⟨rfl, rfl⟩
    have q1 := str_n w3 _ A1 n1 c1 _ x1' N1.out
    have q2 := str_n w3 _ A2 n2 c2 _ x2 N2.out
    generalize strB (putB b0 n a3) = X at q1 q2
    go_wp2_with fail
    refine (oworks_any _).mono ?_
    rintro e w5 ⟨rfl, hb5⟩
    go_wp2_with fail
    go_ret
    exact ⟨rfl, hbel3.trans (hb5.mono hs3)⟩

set_option maxRecDepth 100000 in
theorem lifted (os : Os) (started : os.Started) (H : Type) (enc : TypeId × Value → H) :
    ReturnsInHanded {} Try.checked os 3 .any (Rows.octetNumbersSpec.pre6 enc Try.prog Try.f3 Rows.octetNumbersRow.domain false) (Rows.octetNumbersSpec.post enc Try.prog Try.f3 false true false false) := by
  refine returnsInHanded_of_change (C := Try.checked) own started (by kernel_rfl) Try.func3
    (ChangeSpec.witness6 (enc := enc) (C := Try.checked) false ⟨#[], #[.slice none 0 0, .int .u64 0, .int .i64 0, .int .i64 0], []⟩ 8 (by kernel_rfl) (by kernel_rfl) (by kernel_rfl) (by kernel_rfl)) ?_
  intro W base args ds gs before hval0 hW hcnd _
  have hval : ∀ (j : Nat) t v, Try.f3.params[j]? = some t → args[j]? = some v → Value.okWide Try.prog W .any base t v := hval0
  have hW' := hW
  obtain ⟨p, q, hA0, hV, rfl, hfz, hnd⟩ := hW
  have hA : DataW.TrodAll enc Try.prog W 0 (fun _ => true) true Try.f3.params.toList args.toList ds p := hA0
  rw [Try.params3] at hA hval
  obtain ⟨v0, vs0, d0, ds0, p0, q0, hargs, rfl, rfl, h0, r0⟩ := trodAll_cons hA
  obtain ⟨v1, vs1, d1, ds1, p1, q1, rfl, rfl, rfl, h1, r1⟩ := trodAll_cons r0
  obtain ⟨v2, vs2, d2, ds2, p2, q2, rfl, rfl, rfl, h2, r2⟩ := trodAll_cons r1
  obtain ⟨v3, vs3, d3, ds3, p3, q3, rfl, rfl, rfl, h3, r3⟩ := trodAll_cons r2
  obtain ⟨rfl, rfl, rfl⟩ := trodAll_nil r3
  obtain rfl : args = #[v0, v1, v2, v3] := by cases args; simp_all
  obtain ⟨rfl, rfl⟩ := trodVars_none hV
  obtain ⟨A0, n0, c0, rfl⟩ := okWide_slice Try.underlying22 (hval 0 22 v0 rfl rfl)
  have k0 := h0
  have lt0 : ∀ x ∈ p0, x.block < W.heap.size := by obtain ⟨m, hm⟩ := k0; exact DataW.trod_lt m _ _ _ hm
  obtain ⟨z0, x0⟩ : ∃ zs, IsRow .u8 W A0 n0 c0 zs := by
    obtain ⟨fuel, hf⟩ := h0
    rcases open_ints Try.underlying22 Try.underlying5 (by kernel_rfl) hf with ⟨hcs, _⟩ | ⟨x, l, c, zs, hcs, _, hl, hm, hz, _, hcell, hwz⟩
    · simp [Value.cells] at hcs
      obtain ⟨rfl, rfl, rfl⟩ := hcs
      exact ⟨[], .inl ⟨rfl, rfl, rfl, rfl⟩⟩
    · simp [Value.cells] at hcs
      obtain ⟨rfl, rfl, rfl⟩ := hcs
      exact ⟨zs, .inr ⟨_, rfl, hl, hm, by simpa using hz, hcell, hwz⟩⟩
  obtain ⟨b0, rfl, w0, l0, m0⟩ := row_bytes x0
  obtain ⟨a1, rfl, rfl, rfl, w1⟩ := open_int Try.underlying23 (hval 1 23 v1 rfl rfl) h1
  obtain ⟨a2, rfl, rfl, rfl, w2⟩ := open_int Try.underlying3 (hval 2 3 v2 rfl rfl) h2
  obtain ⟨a3, rfl, rfl, rfl, w3⟩ := open_int Try.underlying3 (hval 3 3 v3 rfl rfl) h3
  clear hA0 hval0
  refine (walk A0 b0 c0 a1 a2 a3 W w0 l0 m0 w1 w2 w3).mono fun e W' ⟨he, bel⟩ => ?_
  subst he
  exact ⟨_, rfl, _, _, _, [], _, [], hW', trodAll_mk1 (shut_bool Try.underlying4 _), (trodAll_cons_mk (Below.trod laidOut (by kernel_rfl) (of_decide_eq_true (by kernel_rfl)) k0 bel lt0) (trodAll_cons_mk (shut_int Try.underlying23 w1) (trodAll_cons_mk (shut_int Try.underlying3 w2) (trodAll_cons_mk (shut_int Try.underlying3 w3) trodAll_mk0)))), rfl, bel.frame _, fun h => by cases h⟩

theorem over : Rows.octetNumbersRow.holds Try.pinned (OpenSpec.ofChange Rows.octetNumbersSpec) :=
  OpenClaim.holds_of_wide 3 Try.f3 rfl rfl rfl rfl rfl rfl rfl ⟨rfl, rfl, rfl, rfl, rfl⟩ rfl rfl rfl rfl rfl (by kernel_rfl) Try.func3 (by kernel_rfl)
    (of_decide_eq_true (by kernel_rfl)) (by unfold Func.isWrapper; first | (rw [if_pos (by decide +kernel)]; kernel_rfl) | (rw [if_neg (by decide +kernel)]; exact ⟨rfl, rfl⟩))
    (fun os started H enc _ => lifted os started H enc)

theorem proved : Rows.OctetNumbersSaid := over
#print axioms proved
end Go.Proofs.Ytbfdliogpheekaa.octetNumbers
