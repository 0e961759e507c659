/-
  FramePlays, up to a bulk of 1048576 of what comes in: any records as frames, and what stands at any place, are the document's; what is handed in stays, and is not kept. The bulk's bound is the only condition.
-/
import Derived.Test.YtnnhkanjneecjaaRows
import Derived.WalkKit
import Derived.ProofKit
import Derived.OpenShut
import Derived.ShutString
import Derived.ChangeOld
import Derived.Below
import Derived.JoinedCond
import Derived.Test.YtnnhkanjneecjaaFrH
namespace Go.Proofs.Ytnnhkanjneecjaa.framePlays
open Go.ChangeShapes Go.WideShapes Go.ChangeAt Go.RowKit
open Go.ChangeMaps (open_string shut_string)
set_option linter.unusedVariables false

theorem own : ownKnob Try.prog.godebug = none := by kernel_rfl
theorem laidOut : laidOutB Try.prog = true := by kernel_rfl


set_option maxRecDepth 100000 in
set_option maxHeartbeats 4000000 in
theorem walk (A0 : Option Addr) (b0 : List UInt8) (c0 : Nat) (A1 : Option Addr) (b1 : List (List UInt8)) (c1 : Nat) (a2 : Int) (w : World) (w0 : Bytes w w.heap.size A0 b0) (u0 : b0.length ≤ 1048576) (l0 : b0.length ≤ c0) (m0 : c0 ≤ maxLen) (w1 : Strs w w.heap.size A1 b1) (u1 : mass b1 ≤ 1048576) (l1 : b1.length ≤ c1) (m1 : c1 ≤ maxLen) (w2 : (Lit.int .i64 a2).wf = true) :
    Calls Try.prog 6 #[.slice A0 b0.length c0, .slice A1 b1.length c1, .int .i64 a2] w fun e w' => e = .returned (.bool true) ∧ Below w.heap.size w w' := by
  have d2 := wf_i64 w2
  clear w2
  have hml := mass_len b1
  by_cases hv : 8192 < b0.length
  · have hv' : (8192 : Int) < (b0.length : Int) := by omega
    go_enter Try.func6, Try.ntmps6
    go_wp2_with fail
    refine (fworks_any _).mono ?_
    rintro e W2 ⟨rfl, hb2⟩
    go_wp2_with fail
    go_ret
    exact ⟨rfl, hb2⟩
  have hv' : ¬ (8192 : Int) < (b0.length : Int) := by omega
  have hva := ovastq_any 16384 (by omega) A1 b1.length c1 b1 w w1 rfl u1
  by_cases hm : 16384 < mass b1
  · rw [decide_eq_true hm] at hva
    have HVA := Lib.hid hva
    clear hva
    go_enter Try.func6, Try.ntmps6
    go_wp2_with fail
    refine HVA.out.mono ?_
    rintro e W1 ⟨rfl, rfl⟩
    go_wp2_with fail
    refine (fworks_any _).mono ?_
    rintro e W2 ⟨rfl, hb2⟩
    go_wp2_with fail
    go_ret
    exact ⟨rfl, hb2⟩
  rw [decide_eq_false hm] at hva
  have HVA := Lib.hid hva
  clear hva
  obtain ⟨S, N, E, ht1, ht2⟩ := ftakes_same b0 a2 (by omega)
  have T1 := Lib.hid ht1
  have T2 := Lib.hid ht2
  have hel : (encF b1).length ≤ 200000 := by
    have : (encF b1).length ≤ 8 * mass b1 := encF_mass b1
    omega
  have hmk := make_cap w (b0.length + 64) (by omega)
  rw [Int.natCast_add] at hmk
  have hmk' : (Instr.makeSlice 22 (.int .i64 0) (.int .i64 ((b0.length : Int) + 64))).run Try.prog w = .ok (.slice (some ⟨w.heap.size, 0, none⟩) 0 (b0.length + 64)) (w.alloc (.cells (bv (List.replicate (b0.length + 64) 0)).toArray 5)) := hmk
  have hoc := own_cap w (b0.length + 64) (by omega)
  have hbo := (Below.refl w.heap.size w).alloc (Nat.le_refl _) (.cells (bv (List.replicate (b0.length + 64) 0)).toArray 5)
  have y0 := Reads.alloc w0 (Nat.le_refl _) (.cells (bv (List.replicate (b0.length + 64) 0)).toArray 5)
  have hsz0 : w.heap.size ≤ (w.alloc (.cells (bv (List.replicate (b0.length + 64) 0)).toArray 5)).heap.size := by simp
  generalize hW : w.alloc (.cells (bv (List.replicate (b0.length + 64) 0)).toArray 5) = W0 at hmk' hoc hbo y0 hsz0
  have P0 : Hid (([] : List UInt8) ++ b0 = b0) := rfl
  clear ht1 ht2 hmk hW
  go_enter Try.func6, Try.ntmps6
  go_wp2_with fail
  refine HVA.out.mono ?_
  rintro e W1 ⟨rfl, rfl⟩
  go_wp2_with (at_builtin; refine wpList_ap2 rfl _ _ rfl rfl w.heap.size (.slice (some ⟨w.heap.size, 0, none⟩) 0 (b0.length + 64)) [] b0 b0 w.heap.size A0 b0.length c0 rfl rfl rfl P0.out hoc y0 (by simp; omega) w hbo hsz0 ?_; intro A3 c3 n3 W3 e3 h3 hB3 hl3 hbel3 hs3 hg3; clear hg3 hl3 hmk' hoc hbo y0 hsz0)
  have x3 := hB3
  have hc3 := (own_open h3).2.1
  have hm3 := (own_open h3).2.2.1
  have z1 := (w1.below hbel3).more hs3
  clear hB3 h3
  refine (copy_any A1 b1.length c1 b1 W3 z1 rfl u1).mono ?_
  rintro e W4 ⟨A4, n4, c4, rfl, hn4, hS4, hb4⟩
  have N4 := Lib.hid hn4
  have hbw4 := hbel3.trans (hb4.mono hs3)
  have hs4 := hbw4.size
  have x4 := Reads.more (Reads.below x3 hb4) hb4.size
  have z4 := hS4.strs.1
  clear hn4 hS4 hb4 x3 z1
  go_wp2_with fail
  refine (fput_any A3 A4 n3 c3 n4 c4 b0 b1 W4 x4 e3.out z4 N4.out (by omega) (by omega)).mono ?_
  rintro e W5 ⟨A5, n5, c5, rfl, hn5, hown5, hb5⟩
  have N5 := Lib.hid hn5
  have hs45 := hb5.size
  have hbw5 := hbw4.trans (hb5.mono hs4)
  have hs5 := hbw5.size
  have y5 := Reads.more (Reads.below w0 hbw5) hs5
  have z5 := (w1.below hbw5).more hs5
  clear hn5
  go_wp2_with fail
  refine (rfput_any A0 A1 b0.length c0 b1.length c1 b0 b1 W5 y5 rfl z5 rfl (by omega) (by omega)).mono ?_
  rintro e W6 ⟨A6, n6, c6, rfl, hn6, hown6, hb6⟩
  have N6 := Lib.hid hn6
  have hb46 := hb5.trans (hb6.mono hs45)
  have hs46 := hb46.size
  have hown5b := own_below hown5 hb6
  have x6 := Reads.more (Reads.below x4 hb46) hs46
  clear hn6 y5 z5 hown5
  generalize putFE b1 = EF
  go_wp2_with fail
  refine (T1.out A3 n3 c3 W6 x6 e3.out hc3 hm3).mono ?_
  rintro e W7 ⟨A7, n7, c7, rfl, hn7, hown7, hb7⟩
  have N7 := Lib.hid hn7
  have hb47 := hb46.trans (hb7.mono hs46)
  have hs47 := hb47.size
  have hown5c := own_below hown5b hb7
  have hown6b := own_below hown6 hb7
  have hbw7 := hbw4.trans (hb47.mono hs4)
  have y7 := Reads.more (Reads.below w0 hbw7) hbw7.size
  clear hn7 x6 hown5b hown6
  go_wp2_with fail
  refine (T2.out A0 b0.length c0 W7 y7 rfl l0 m0).mono ?_
  rintro e W8 ⟨A8, n8, c8, rfl, hn8, hown8, hb8⟩
  have N8 := Lib.hid hn8
  have hb48 := hb47.trans (hb8.mono hs47)
  have hs48 := hb48.size
  have h5 := own_below hown5c hb8
  have h6 := own_below hown6b hb8
  have h7 := own_below hown7 hb8
  have q1 := str_n W8 _ A5 n5 c5 _ (own_open h5).1 N5.out
  have q2 := str_n W8 _ A6 n6 c6 _ (own_open h6).1 N6.out
  have q3 := str_n W8 _ A7 n7 c7 _ (own_open h7).1 N7.out
  have q4 := str_n W8 _ A8 n8 c8 _ (own_open hown8).1 N8.out
  have hS5 : Some8 W8 W4.heap.size A5 n5 c5 := ⟨_, N5.out, h5⟩
  have hS7 : Some8 W8 W4.heap.size A7 n7 c7 := ⟨_, N7.out, own_less h7 hs46⟩
  generalize strB (putFB b0 b1) = X1 at q1 q2
  generalize strB S = X2 at q3 q4
  clear hn8 hown5c hown6b hown7 hown8 h5 h6 h7 y7
  go_wp2_with fail
  clear q1 q2 q3 q4
  go_loopw [19] (fun i wr => ∃ k : Nat, k ≤ n7 ∧ i = .int .i64 (k : Int) ∧ Some8 wr W4.heap.size A7 n7 c7 ∧ Some8 wr W4.heap.size A5 n5 c5 ∧ Below W4.heap.size W4 wr) (fun i _ => n7 - (intOf i).toNat)
  case atStart => exact ⟨0, by omega, rfl, hS7, hS5, hb48⟩
  case round =>
    clear hS7 hS5 hb48 hs48 hb47 hs47 hbw7 hb46 hs46 hb5 hb6 hb7 hb8 hbw5 hs5 hs45
    obtain ⟨k, hk, rfl, hx, hy, hbw⟩ := hrel
    by_cases hlt : k < n7
    · obtain ⟨g0, b, rfl, hg0, hg0l, hcell, hfz, hnc, hcm⟩ := hx.at_ hlt
      have hcm' := hcm
      unfold maxLen at hcm'
      go_wp2_with fail
      go_roundw
      case rel => exact ⟨k + 1, by omega, by go_num, hx.set_ g0 k _ _ (val_one b), hy.set_ g0 k _ _ (val_one b), hbw.setCell hg0 _⟩
      case measure => simp [intOf]; omega
    · go_wp2_with fail
      clear hx hlt
      go_loopw [20] (fun i wr2 => ∃ j : Nat, j ≤ n5 ∧ i = .int .i64 (j : Int) ∧ Some8 wr2 W4.heap.size A5 n5 c5 ∧ Below W4.heap.size W4 wr2) (fun i _ => n5 - (intOf i).toNat)
      case atStart => exact ⟨0, by omega, rfl, hy, hbw⟩
      case round =>
        clear hy hbw
        obtain ⟨j, hj, rfl, hy, hbw⟩ := hrel
        by_cases hlt : j < n5
        · obtain ⟨g0, b, rfl, hg0, hg0l, hcell, hfz, hnc, hcm⟩ := hy.at_ hlt
          have hcm' := hcm
          unfold maxLen at hcm'
          go_wp2_with fail
          go_roundw
          case rel => exact ⟨j + 1, by omega, by go_num, hy.set_ g0 j _ _ (val_one b), hbw.setCell hg0 _⟩
          case measure => simp [intOf]; omega
        · have hsr := hbw.size
          have hb0r := hbw4.trans (hbw.mono hs4)
          have hsr0 := hb0r.size
          have xr := Reads.more (Reads.below x4 hbw) hsr
          have yr := Reads.more (Reads.below w0 hb0r) hsr0
          have zr := (z4.below hbw).more hsr
          have zl := (w1.below hb0r).more hsr0
          have q1b := str_n wr _ A3 n3 c3 _ xr e3.out
          have q2b := str_n wr _ A0 b0.length c0 _ yr rfl
          generalize strB b0 = X at q1b q2b
          have hb1m : b1.length ≤ maxLen := by unfold maxLen; omega
          clear hy
          go_wp2_with fail
          refine (same_yes A4 A1 n4 b1.length c4 c1 b1 wr zr zl N4.out rfl hb1m).mono ?_
          rintro e WA ⟨rfl, hbA⟩
          go_wp2_with fail
          refine (fworks_any _).mono ?_
          rintro e WB ⟨rfl, hbB⟩
          go_wp2_with fail
          go_ret
          have hbAA := hb0r.trans (hbA.mono hsr0)
          exact ⟨rfl, hbAA.trans (hbB.mono hbAA.size)⟩

set_option maxRecDepth 100000 in
theorem lifted (os : Os) (started : os.Started) (H : Type) (enc : TypeId × Value → H) (F : Stop.Interp) :
    ReturnsInHanded {} Try.checked os 6 .any ((Rows.OpenSpec.upto Rows.framePlaysSpec).pre6 enc Try.prog Try.f6 Rows.framePlaysUptoRow.domain false) (((Rows.OpenSpec.upto Rows.framePlaysSpec).at F).post enc Try.prog Try.f6 false true false false) := by
  refine returnsInHanded_of_cond (C := Try.checked) (s := Rows.OpenSpec.upto Rows.framePlaysSpec) (k := Rows.uptoSmall) rfl own started (by kernel_rfl) Try.func6
    (OpenSpec.witness (enc := enc) (C := Try.checked) (s := Rows.OpenSpec.upto Rows.framePlaysSpec) (k := Rows.uptoSmall) rfl false ⟨#[], #[.slice none 0 0, .slice none 0 0, .int .i64 0], []⟩ 8 (by kernel_rfl) (by kernel_rfl) (by kernel_rfl)
      (x := ([.nil, .nil, .lit (.int .i64 0)], [], [])) (by kernel_rfl) rfl (by kernel_rfl)) ?_
  intro W base args ds gs before hval0 hW hcnd hk _
  have hval : ∀ (j : Nat) t v, Try.f6.params[j]? = some t → args[j]? = some v → Value.okWide Try.prog W .any base t v := hval0
  have hW' : DataW.Whole enc Try.prog Try.f6.params.toList Rows.framePlaysSpec.vars false W args.toList ds gs before := hW
  show Calls Try.prog 6 args W fun e W' => ∃ v, e = .returned v ∧ Rows.framePlaysSpec.post enc Try.prog Try.f6 false true false false W args v W'
  obtain ⟨p, q, hA0, hV, rfl, hfz, hnd⟩ := hW
  have hA : DataW.TrodAll enc Try.prog W 0 (fun _ => true) true Try.f6.params.toList args.toList ds p := hA0
  rw [Try.params6] at hA hval
  obtain ⟨v0, vs0, d0, ds0, p0, q0, hargs, rfl, rfl, h0, r0⟩ := trodAll_cons hA
  obtain ⟨v1, vs1, d1, ds1, p1, q1, rfl, rfl, rfl, h1, r1⟩ := trodAll_cons r0
  obtain ⟨v2, vs2, d2, ds2, p2, q2, rfl, rfl, rfl, h2, r2⟩ := trodAll_cons r1
  obtain ⟨rfl, rfl, rfl⟩ := trodAll_nil r2
  obtain rfl : args = #[v0, v1, v2] := by cases args; simp_all
  obtain ⟨rfl, rfl⟩ := trodVars_none hV
  have hk' : Rows.uptoSmall H ([d0, d1, d2] ++ []) = true := hk
  obtain ⟨A0, n0, c0, rfl⟩ := okWide_slice Try.underlying22 (hval 0 22 v0 rfl rfl)
  have k0 := h0
  have lt0 : ∀ x ∈ p0, x.block < W.heap.size := by obtain ⟨m, hm⟩ := k0; exact DataW.trod_lt m _ _ _ hm
  obtain ⟨z0, x0, u0⟩ : ∃ zs, IsRow .u8 W A0 n0 c0 zs ∧ n0 ≤ 1048576 := by
    obtain ⟨fuel, hf⟩ := h0
    rcases open_ints Try.underlying22 Try.underlying5 (by kernel_rfl) hf with ⟨hcs, _⟩ | ⟨x, l, c, zs, hcs, _, hl, hm, hz, hdx, hcell, hwz⟩
    · simp [Value.cells] at hcs
      obtain ⟨rfl, rfl, rfl⟩ := hcs
      exact ⟨[], .inl ⟨rfl, rfl, rfl, rfl⟩, by omega⟩
    · simp [Value.cells] at hcs
      obtain ⟨rfl, rfl, rfl⟩ := hcs
      obtain ⟨hd, _⟩ := Prod.mk.inj hdx
      have hz' : zs.length = c0 := by simpa using hz
      exact ⟨zs, .inr ⟨_, rfl, hl, hm, hz', hcell, hwz⟩, bytes_bulk hk' (j := 0) (congrArg some hd) (by omega)⟩
  obtain ⟨b0, rfl, w0, l0, m0⟩ := row_bytes x0
  obtain ⟨A1, n1, c1, rfl⟩ := okWide_slice Try.underlying33 (hval 1 33 v1 rfl rfl)
  have k1 := h1
  have lt1 : ∀ x ∈ p1, x.block < W.heap.size := by obtain ⟨m, hm⟩ := k1; exact DataW.trod_lt m _ _ _ hm
  obtain ⟨b1, rfl, w1, u1, l1, m1⟩ : ∃ l : List (List UInt8), n1 = l.length ∧ Strs W W.heap.size A1 l ∧ mass l ≤ 1048576 ∧ n1 ≤ c1 ∧ c1 ≤ maxLen := by
    obtain ⟨fuel, hf⟩ := h1
    rcases Deep.open_int_rows Try.underlying33 Try.underlying22 Try.underlying5 (by kernel_rfl) (by kernel_rfl) hf with ⟨hcs, _⟩ | ⟨a, len, cap, A, L, C, Z, hcs, _, hl, hm, hdx, hcell⟩
    · simp [Value.cells] at hcs
      obtain ⟨rfl, rfl, rfl⟩ := hcs
      exact ⟨[], rfl, Strs.none_, by decide, Nat.le_refl _, by decide⟩
    · simp [Value.cells] at hcs
      obtain ⟨rfl, rfl, rfl⟩ := hcs
      obtain ⟨hd, _⟩ := Prod.mk.inj hdx
      obtain ⟨l, h1, h2⟩ := strs_of hl (fun r hr => by
        obtain ⟨x1, x2, x3, x4, x5, x6, x7⟩ := hcell r hr
        exact ⟨x1, x2, x3, x4, x5, x6, fun a' ha => (x7 a' ha).2⟩)
      refine ⟨l, h1, h2, ?_, hl, hm⟩
      rw [h1] at hd hl
      exact rows_bulk hk' (j := 1) (congrArg some hd) h2 (fun r hr => by
        obtain ⟨x1, x2, _, x4, _, x6, _⟩ := hcell r (by omega)
        exact ⟨x1, x2, x4, x6⟩)
  obtain ⟨a2, rfl, rfl, rfl, w2⟩ := open_int Try.underlying3 (hval 2 3 v2 rfl rfl) h2
  clear hA0 hval0
  refine (walk A0 b0 c0 A1 b1 c1 a2 W w0 u0 l0 m0 w1 u1 l1 m1 w2).mono fun e W' ⟨he, bel⟩ => ?_
  subst he
  exact ⟨_, rfl, _, _, _, [], _, [], hW', trodAll_mk1 (shut_bool Try.underlying4 _), (trodAll_cons_mk (Below.trod laidOut (by kernel_rfl) (of_decide_eq_true (by kernel_rfl)) k0 bel lt0) (trodAll_cons_mk (Below.trod laidOut (by kernel_rfl) (of_decide_eq_true (by kernel_rfl)) k1 bel lt1) (trodAll_cons_mk (shut_int Try.underlying3 w2) trodAll_mk0))), rfl, bel.frame _, fun h => by cases h⟩

theorem proved : Rows.FramePlaysUptoSaid :=
  OpenClaim.holds_of_cond 6 Try.f6 rfl rfl rfl rfl rfl rfl rfl ⟨rfl, rfl, rfl, rfl, rfl⟩ rfl rfl rfl rfl rfl (by kernel_rfl) Try.func6 (by kernel_rfl)
    (of_decide_eq_true (by kernel_rfl)) (by unfold Func.isWrapper; first | (rw [if_pos (by decide +kernel)]; kernel_rfl) | (rw [if_neg (by decide +kernel)]; exact ⟨rfl, rfl⟩))
    (fun os started H enc _ F => lifted os started H enc F)
#print axioms proved
end Go.Proofs.Ytnnhkanjneecjaa.framePlays
