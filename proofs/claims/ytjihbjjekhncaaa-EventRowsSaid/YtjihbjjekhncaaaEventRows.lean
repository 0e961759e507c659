/-
  For every slice of events and every number: of events that may be, one behind the other as bytes, and cut anywhere, just those are told that stand whole, if it was cut where one ends, and none else; no further conditions.
-/
import Derived.Test.YtjihbjjekhncaaaRows
import Derived.WalkKit
import Derived.ProofKit
import Derived.OpenShut
import Derived.ShutString
import Derived.ChangeOld
import Derived.Below
import Derived.Test.YtjihbjjekhncaaaEvR
import Derived.Deep.DeepCutAuto
namespace Go.Proofs.Ytjihbjjekhncaaa.eventRows
open Go.ChangeShapes Go.WideShapes Go.ChangeAt Go.RowKit
open Go.ChangeMaps (open_string shut_string)
set_option linter.unusedVariables false

theorem own : ownKnob Try.prog.godebug = none := by kernel_rfl
theorem laidOut : laidOutB Try.prog = true := by kernel_rfl

attribute [local go_sem ↓] exec_loadE exec_storeE exec_allocE exec_buildE exec_buildSlE

set_option maxRecDepth 100000 in
set_option maxHeartbeats 4000000 in
theorem walk (A0 : Option Addr) (l0 : List Ev) (c0 : Nat) (a1 : Int) (w : World) (w0 : Evs w w.heap.size A0 l0) (u0 : ∀ p ∈ l0, p.ok) (g0 : l0.length ≤ c0) (m0 : c0 ≤ maxLen) (w1 : (Lit.int .u16 a1).wf = true) :
    Calls Try.prog 7 #[.slice A0 l0.length c0, .int .u16 a1] w fun e w' => e = .returned (.bool true) ∧ Below w.heap.size w w' := by
  obtain ⟨n0, hn0⟩ : ∃ n, Hid (n = l0.length) := ⟨_, Lib.hid rfl⟩
  have D0 := Lib.hid w0
  have K0 := Lib.hid u0
  obtain ⟨x1, x2⟩ := wf_u16 w1
  obtain ⟨q, rfl⟩ : ∃ q : Nat, a1 = (q : Int) := ⟨a1.toNat, by omega⟩
  have GC : Hid (n0 ≤ c0 ∧ c0 ≤ maxLen) := by show _ ∧ _; rw [hn0.out]; exact ⟨g0, m0⟩
  have hzw : Calls Try.prog 7 #[.slice A0 n0 c0, .int .u16 (q : Int)] w fun e w' => e = .returned (.bool true) ∧ Below w.heap.size w w' := by
    clear w0 u0 g0 m0 w1
    by_cases h30 : 30 < n0
    · have h1 : (30 : Int) < (n0 : Int) := by omega
      go_enter Try.func7, Try.ntmps7
      go_wp2_with fail
      refine (evworks_any _).mono ?_
      rintro _ w2 ⟨rfl, hb⟩
      go_wp2_with fail
      go_ret
      exact ⟨rfl, hb⟩
    have h1 : ¬ (30 : Int) < (n0 : Int) := by omega
    go_enter Try.func7, Try.ntmps7
    go_wp2_with fail
    go_loopw [5, 6] (fun v x wr => ∃ (i : Nat) (A' : Option Addr) (n' c' : Nat), i ≤ n0 ∧ x = .int .i64 (i : Int) ∧ v = .slice A' n' c' ∧ OwnB wr w.heap.size 5 (.slice A' n' c') ((l0.take i).flatMap evB) ∧ n' = 91 * i ∧ (∀ e ∈ l0.take i, mayE e = true) ∧ Below w.heap.size w wr) (fun _ x _ => n0 - (intOf x).toNat)
    case atStart => exact ⟨0, none, 0, 0, by omega, rfl, rfl, OwnB.nil_ _ _ _, rfl, (fun e he => by simp at he), Below.refl _ _⟩
    case round =>
      obtain ⟨i, A', n', c', hi, rfl, rfl, hown, hn', hall, hbw⟩ := hrel
      have OWN := Lib.hid hown
      have ALL := Lib.hid hall
      have HBW := Lib.hid hbw
      have HN0 := Lib.hid hn'
      clear hown hall hbw hn'
      by_cases hlt : i < n0
      · have hil : i < l0.length := by rw [← hn0.out]; exact hlt
        have hle0 : (i : Int) < (n0 : Int) := by omega
        have hi0 : (0 : Int) ≤ (i : Int) := by omega
        obtain ⟨b, off, rfl, hB, hr⟩ := D0.out.at_ hil
        have hok := K0.out _ (List.getElem_mem hil)
        have FL : Hid ((l0.take i).flatMap evB ++ evB l0[i] = (l0.take (i + 1)).flatMap evB) := by show _ = _; rw [List.take_succ_eq_append_getElem hil, List.flatMap_append]; simp
        have AL : Hid (mayE l0[i] = true → ∀ e ∈ l0.take (i + 1), mayE e = true) := fun hm e he => by
          rw [List.take_succ_eq_append_getElem hil] at he
          rcases List.mem_append.1 he with h | h
          · exact ALL.out e h
          · rw [List.mem_singleton.1 h]; exact hm
        have PL : Hid (((l0.take i).flatMap evB).length = 91 * i) := by show _ = _; rw [flat_len _ (fun e he => K0.out e (List.mem_of_mem_take he)), List.length_take, Nat.min_eq_left (by omega)]
        generalize l0[i] = x at hr hok FL AL
        generalize (l0.take i).flatMap evB = pre at OWN FL PL
        have RX : Hid (∀ W, Below w.heap.size w W → (loadE (.pointer (some ⟨b, off + i * 14, none⟩))).run Try.prog W = .ok (.agg (evA x)) W) := fun W hb => run_loadE_mid hok.d6 (rg_below hr hb hB)
        have lx := RX.out wr HBW.out
        have MX := Lib.hid (emay_any x hok)
        have KX := Lib.hid hok
        clear hr hok hil
        cases hm : mayE x
        case false =>
          rw [hm] at MX
          clear hm
          go_wp2_with fail
          refine (MX.out _).mono ?_
          rintro _ w2 ⟨rfl, hb⟩
          have H2 := Lib.hid (HBW.out.trans (hb.mono HBW.out.size))
          clear hb
          go_wp2_with fail
          refine (evworks_any _).mono ?_
          rintro _ w3 ⟨rfl, hb⟩
          have VF := H2.out.trans (hb.mono H2.out.size)
          clear hb
          go_wp2_with fail
          go_ret
          exact ⟨rfl, VF⟩
        case true =>
          rw [hm] at MX
          have PX := Lib.hid (eput_yes x KX.out hm)
          have ALX := Lib.hid (AL.out hm)
          clear hm AL
          go_wp2_with fail
          refine (MX.out _).mono ?_
          rintro _ w2 ⟨rfl, hb⟩
          have H2 := Lib.hid (HBW.out.trans (hb.mono HBW.out.size))
          have l2 := RX.out w2 H2.out
          have O2 := Lib.hid (own_below OWN.out hb)
          clear hb lx
          go_wp2_with fail
          refine (PX.out _).mono ?_
          rintro _ w3 ⟨A3, n3, c3, rfl, hn3, ho3, hb⟩
          have H3 := Lib.hid (H2.out.trans (hb.mono H2.out.size))
          have O3 := Lib.hid (own_below O2.out hb)
          have B3 := own_bytes' ho3
          have L3 := evB_len KX.out.d6
          have HN3 := Lib.hid hn3
          have ZZ : Hid (pre ++ evB x = pre ++ evB x) := rfl
          have SM : Hid (pre.length + (evB x).length ≤ 140737488355328) := by show _ ≤ _; rw [PL.out, L3]; omega
          clear hb ho3 l2 hn3
          go_wp2_with (at_builtin; refine wpList_ap2 rfl _ _ rfl rfl w.heap.size (.slice A' n' c') pre (evB x) _ w3.heap.size A3 n3 c3 rfl rfl HN3.out FL.out O3.out B3 SM.out w H3.out H3.out.size ?_; intro A4 c4 n4 w4 e4 h4 hB4 hl4 hbel4 hs4 hg4; clear hB4 hg4 hl4)
          go_roundw
          case rel =>
            refine ⟨i + 1, A4, n4, c4, by omega, by go_num, rfl, h4, ?_, ALX.out, hbel4⟩
            rw [e4.out, ← FL.out, List.length_append, PL.out, L3]; omega
          case measure => simp [intOf]; omega
      · obtain rfl : i = n0 := by omega
        have hall0 : l0.take i = l0 := List.take_of_length_le (by rw [← hn0.out]; omega)
        rw [hall0] at OWN ALL
        have hn' := HN0.out
        clear HN0
        subst hn'
        have AK : Hid (∀ e ∈ l0, e.ok ∧ mayE e = true) := fun e he => ⟨K0.out e he, ALL.out e he⟩
        have CP := Lib.hid (own_cap OWN.out)
        have BY := Lib.hid (own_bytes' OWN.out)
        have FLN : Hid ((l0.flatMap evB).length = 91 * i) := by show _ = _; rw [flat_len _ K0.out, ← hn0.out]
        have hq1 : ((((91 * i : Nat) : Int)) != 91 * (i : Int)) = false := by
          rw [bne_eq_false_iff_eq]; omega
        have hm1 : q % (91 * i + 1) ≤ 91 * i := by have := Nat.mod_lt q (show 0 < 91 * i + 1 by omega); omega
        have hm2 : (q : Int) % (((91 * i : Nat) : Int) + 1) = ((q % (91 * i + 1) : Nat) : Int) := by rw [Int.natCast_emod]; rfl
        have hq0 : (0 : Int) ≤ (q : Int) := by omega
        have hqx : (q : Int) ≤ 65535 := by omega
        have hp0 : (0 : Int) < ((91 * i : Nat) : Int) + 1 := by omega
        generalize q % (91 * i + 1) = k at hm1 hm2
        obtain ⟨n', hn'⟩ : ∃ n', n' = 91 * i := ⟨_, rfl⟩
        have w91 : IntKind.i64.wrap (91 * (i : Int)) = 91 * (i : Int) := by rw [IntKind.wrap_i64]; omega
        have hkc : (k : Int) ≤ (c' : Int) := by have := CP.out.1; omega
        have hk0 : (0 : Int) ≤ (k : Int) := by omega
        have hkn := hm1
        rw [← hn'] at hq1 hm2 hp0 FLN hm1 CP OWN ⊢
        have hnx : (n' : Int) ≤ 100000 := by omega
        have BK : Hid (Bytes wr wr.heap.size A' ((l0.flatMap evB).take k)) := bytes_take BY.out k (by rw [FLN.out]; exact hm1)
        have LK : Hid (k = ((l0.flatMap evB).take k).length) := by show _ = _; rw [List.length_take, FLN.out]; omega
        have EA := Lib.hid (eall_any A' k c' _ wr BK.out LK.out (by have := CP.out.1; omega) CP.out.2 (by omega))
        obtain ⟨r, hr9⟩ : ∃ r, k % 91 = r := ⟨_, rfl⟩
        obtain ⟨j, hj9⟩ : ∃ j, k / 91 = j := ⟨_, rfl⟩
        have hk91 : (k : Int) % 91 = (r : Int) := by omega
        have hd91 : (k : Int) / 91 = (j : Int) := by omega
        have HM1 := Lib.hid hkn
        have HR9 := Lib.hid hr9
        have HJ9 := Lib.hid hj9
        clear OWN CP BK hkn hm1 ALL hr9 hj9
        by_cases h9 : r = 0
        case neg =>
          have CUT : Hid (allE ((l0.flatMap evB).take k) = none) := allE_cut l0 AK.out k (by rw [← hn0.out]; exact HM1.out) (by rw [HR9.out]; exact h9)
          have hk9 : ((r : Int) != 0) = true := by
            have : ¬ (r : Int) = 0 := by omega
            simpa using this
          have E1 : Hid (errA ((l0.flatMap evB).take k) = 5) := by show _ = _; unfold errA; rw [CUT.out]; rfl
          have E2 : Hid (evsA ((l0.flatMap evB).take k) = []) := by show _ = _; unfold evsA; rw [CUT.out]; rfl
          rw [E1.out, E2.out] at EA
          clear hn' h9
          go_wp2_with fail
          refine EA.out.mono ?_
          rintro _ w5 ⟨A5, n5, c5, rfl, hn5, _, _, _, hb⟩
          have H5 := Lib.hid (HBW.out.trans (hb.mono HBW.out.size))
          simp only [List.length_nil] at hn5
          subst hn5
          clear hb EA
          go_wp2_with fail
          refine (evworks_any _).mono ?_
          rintro _ w6 ⟨rfl, hb⟩
          have VF := H5.out.trans (hb.mono H5.out.size)
          clear hb
          go_wp2_with fail
          go_ret
          exact ⟨rfl, VF⟩
        case pos =>
          have ALE : Hid (allE ((l0.flatMap evB).take k) = some (l0.take j)) := by
            show _ = _
            rw [show k = 91 * j by have := HR9.out; have := HJ9.out; omega, flat_take l0 _ K0.out]
            exact allE_flat _ (fun e he => AK.out e (List.mem_of_mem_take he))
          have E1 : Hid (errA ((l0.flatMap evB).take k) = 0) := by show _ = _; unfold errA; rw [ALE.out]; simp
          have E2 : Hid (evsA ((l0.flatMap evB).take k) = l0.take j) := by show _ = _; unfold evsA; rw [ALE.out]; rfl
          subst h9
          rw [E1.out, E2.out] at EA
          have hki : j ≤ i := by have := HM1.out; have := HJ9.out; omega
          have hj0 : (0 : Int) ≤ (j : Int) := by omega
          have hjc : (j : Int) ≤ (c0 : Int) := by have := GC.out.1; omega
          have LJ : Hid (j = (l0.take j).length) := by show _ = _; rw [List.length_take, ← hn0.out]; omega
          clear hn'
          go_wp2_with fail
          refine EA.out.mono ?_
          rintro _ w5 ⟨A5, n5, c5, rfl, hn5, hev, hnc, hcm, hb⟩
          have H5 := Lib.hid (HBW.out.trans (hb.mono HBW.out.size))
          have D5 := Lib.hid ((evs_take (D0.out.below H5.out) j).more H5.out.size)
          have KJ : Hid (∀ e ∈ l0.take j, e.ok) := fun e he => K0.out e (List.mem_of_mem_take he)
          have SM := Lib.hid (esame_any A5 A0 n5 j c5 c0 (l0.take j) (l0.take j) w5 hev D5.out KJ.out KJ.out hn5 LJ.out (by rw [hn5, ← LJ.out]; omega) true (by simp))
          clear hb EA hev hnc hcm hn5
          go_wp2_with fail
          refine SM.out.mono ?_
          rintro _ w6 ⟨rfl, hb⟩
          have H6 := Lib.hid (H5.out.trans (hb.mono H5.out.size))
          clear hb SM
          go_wp2_with fail
          refine (evworks_any _).mono ?_
          rintro _ w7 ⟨rfl, hb⟩
          have VF := H6.out.trans (hb.mono H6.out.size)
          clear hb
          go_wp2_with fail
          go_ret
          exact ⟨rfl, VF⟩
  rw [← hn0.out]
  exact hzw

set_option maxRecDepth 100000 in
theorem lifted (os : Os) (started : os.Started) (H : Type) (enc : TypeId × Value → H) :
    ReturnsInHanded {} Try.checked os 7 .any (Rows.eventRowsSpec.pre6 enc Try.prog Try.f7 Rows.eventRowsRow.domain false) (Rows.eventRowsSpec.post enc Try.prog Try.f7 false true false false) := by
  refine returnsInHanded_of_change (C := Try.checked) own started (by kernel_rfl) Try.func7
    (ChangeSpec.witness6 (enc := enc) (C := Try.checked) false ⟨#[], #[.slice none 0 0, .int .u16 0], []⟩ 8 (by kernel_rfl) (by kernel_rfl) (by kernel_rfl) (by kernel_rfl)) ?_
  intro W base args ds gs before hval0 hW hcnd _
  have hval : ∀ (j : Nat) t v, Try.f7.params[j]? = some t → args[j]? = some v → Value.okWide Try.prog W .any base t v := hval0
  have hW' := hW
  obtain ⟨p, q, hA0, hV, rfl, hfz, hnd⟩ := hW
  have hA : DataW.TrodAll enc Try.prog W 0 (fun _ => true) true Try.f7.params.toList args.toList ds p := hA0
  rw [Try.params7] at hA hval
  obtain ⟨v0, vs0, d0, ds0, p0, q0, hargs, rfl, rfl, h0, r0⟩ := trodAll_cons hA
  obtain ⟨v1, vs1, d1, ds1, p1, q1, rfl, rfl, rfl, h1, r1⟩ := trodAll_cons r0
  obtain ⟨rfl, rfl, rfl⟩ := trodAll_nil r1
  obtain rfl : args = #[v0, v1] := by cases args; simp_all
  obtain ⟨rfl, rfl⟩ := trodVars_none hV
  obtain ⟨A0, n0, c0, rfl⟩ := okWide_slice Try.underlying32 (hval 0 32 v0 rfl rfl)
  have k0 := h0
  have lt0 : ∀ x ∈ p0, x.block < W.heap.size := by obtain ⟨m, hm⟩ := k0; exact DataW.trod_lt m _ _ _ hm
  obtain ⟨g0, m0, l0, rfl, w0, u0⟩ := open_evs h0
  obtain ⟨a1, rfl, rfl, rfl, w1⟩ := open_int Try.underlying40 (hval 1 40 v1 rfl rfl) h1
  clear hA0 hval0
  refine (walk A0 l0 c0 a1 W w0 u0 g0 m0 w1).mono fun e W' ⟨he, bel⟩ => ?_
  subst he
  exact ⟨_, rfl, _, _, _, [], _, [], hW', trodAll_mk1 (shut_bool Try.underlying4 _), (trodAll_cons_mk (Below.trod laidOut (by kernel_rfl) (of_decide_eq_true (by kernel_rfl)) k0 bel lt0) (trodAll_cons_mk (shut_int Try.underlying40 w1) trodAll_mk0)), rfl, bel.frame _, fun h => by cases h⟩

theorem over : Rows.eventRowsRow.holds Try.pinned (OpenSpec.ofChange Rows.eventRowsSpec) :=
  OpenClaim.holds_of_wide 7 Try.f7 rfl rfl rfl rfl rfl rfl rfl ⟨rfl, rfl, rfl, rfl, rfl⟩ rfl rfl rfl rfl rfl (by kernel_rfl) Try.func7 (by kernel_rfl)
    (of_decide_eq_true (by kernel_rfl)) (by unfold Func.isWrapper; first | (rw [if_pos (by decide +kernel)]; kernel_rfl) | (rw [if_neg (by decide +kernel)]; exact ⟨rfl, rfl⟩))
    (fun os started H enc _ => lifted os started H enc)

theorem proved : Rows.EventRowsSaid := over
#print axioms proved
end Go.Proofs.Ytjihbjjekhncaaa.eventRows
