/-
  For every slice of events, all bytes ahead and behind, and every number: what was put is taken, whatever stands ahead and behind, and all of it, one behind the other; cut it is none; what is taken is put as it stood; no further conditions.
-/
import Derived.Test.YtjihbjjekhncaaaRows
import Derived.WalkKit
import Derived.ProofKit
import Derived.OpenShut
import Derived.ShutString
import Derived.ChangeOld
import Derived.Below
import Derived.Test.YtjihbjjekhncaaaEvBk
import Derived.Deep.DeepCutAuto
namespace Go.Proofs.Ytjihbjjekhncaaa.eventBack
open Go.ChangeShapes Go.WideShapes Go.ChangeAt Go.RowKit
open Go.ChangeMaps (open_string shut_string)
set_option linter.unusedVariables false

theorem own : ownKnob Try.prog.godebug = none := by kernel_rfl
theorem laidOut : laidOutB Try.prog = true := by kernel_rfl

attribute [local go_sem ↓] exec_loadE exec_storeE exec_allocE exec_buildE exec_buildSlE

set_option maxRecDepth 100000 in
set_option maxHeartbeats 4000000 in
theorem walk (A0 : Option Addr) (l0 : List Ev) (c0 : Nat) (A1 : Option Addr) (b1 : List UInt8) (c1 : Nat) (A2 : Option Addr) (b2 : List UInt8) (c2 : Nat) (a3 : Int) (w : World) (w0 : Evs w w.heap.size A0 l0) (u0 : ∀ p ∈ l0, p.ok) (g0 : l0.length ≤ c0) (m0 : c0 ≤ maxLen) (w1 : Bytes w w.heap.size A1 b1) (l1 : b1.length ≤ c1) (m1 : c1 ≤ maxLen) (w2 : Bytes w w.heap.size A2 b2) (l2 : b2.length ≤ c2) (m2 : c2 ≤ maxLen) (w3 : (Lit.int .u16 a3).wf = true) :
    Calls Try.prog 4 #[.slice A0 l0.length c0, .slice A1 b1.length c1, .slice A2 b2.length c2, .int .u16 a3] w fun e w' => e = .returned (.bool true) ∧ Below w.heap.size w w' := by
  obtain ⟨n0, hn0⟩ : ∃ n, Hid (n = l0.length) := ⟨_, Lib.hid rfl⟩
  obtain ⟨n1, hn1⟩ : ∃ n, Hid (n = b1.length) := ⟨_, Lib.hid rfl⟩
  obtain ⟨n2, hn2⟩ : ∃ n, Hid (n = b2.length) := ⟨_, Lib.hid rfl⟩
  have D0 := Lib.hid w0
  have K0 := Lib.hid u0
  have D1 := Lib.hid w1
  have D2 := Lib.hid w2
  obtain ⟨x1, x2⟩ := wf_u16 w3
  obtain ⟨q, rfl⟩ : ∃ q : Nat, a3 = (q : Int) := ⟨a3.toNat, by omega⟩
  have G2 : Hid (n2 ≤ c2 ∧ c2 ≤ maxLen) := by show _ ∧ _; rw [hn2.out]; exact ⟨l2, m2⟩
  have hzw : Calls Try.prog 4 #[.slice A0 n0 c0, .slice A1 n1 c1, .slice A2 n2 c2, .int .u16 (q : Int)] w fun e w' => e = .returned (.bool true) ∧ Below w.heap.size w w' := by
    clear w0 u0 w1 w2 w3 g0 m0 l1 m1 l2 m2
    by_cases h20 : 20 < n0
    case pos =>
      have h1 : (20 : Int) < (n0 : Int) := by omega
      go_enter Try.func4, Try.ntmps4
      go_wp2_with fail
      refine (evworks_any _).mono ?_
      rintro _ w2 ⟨rfl, hb⟩
      go_wp2_with fail
      go_ret
      exact ⟨rfl, hb⟩
    have h1 : ¬ (20 : Int) < (n0 : Int) := by omega
    by_cases h300 : 300 < n1
    case pos =>
      have h2 : (300 : Int) < (n1 : Int) := by omega
      go_enter Try.func4, Try.ntmps4
      go_wp2_with fail
      refine (evworks_any _).mono ?_
      rintro _ w2 ⟨rfl, hb⟩
      go_wp2_with fail
      go_ret
      exact ⟨rfl, hb⟩
    have h2 : ¬ (300 : Int) < (n1 : Int) := by omega
    by_cases h3000 : 3000 < n2
    case pos =>
      have h3 : (3000 : Int) < (n2 : Int) := by omega
      go_enter Try.func4, Try.ntmps4
      go_wp2_with fail
      refine (evworks_any _).mono ?_
      rintro _ w2 ⟨rfl, hb⟩
      go_wp2_with fail
      go_ret
      exact ⟨rfl, hb⟩
    have h3 : ¬ (3000 : Int) < (n2 : Int) := by omega
    have aE := run_allocE
    have b1' : ∀ (e : Ev) (W : World), e.d.length = 6 → (buildSlE #[(0, .agg (evA e))]).run Try.prog W = .ok (.slice (some ⟨W.heap.size, 0, none⟩) 1 1) (W.alloc (.cells (evA e) 26)) := fun e W h => run_buildSlE1 h
    have B1 := Lib.hid b1'
    have hk91 : q % 91 < 91 := Nat.mod_lt _ (by omega)
    have hqk : (q : Int) % 91 = ((q % 91 : Nat) : Int) := by omega
    have hq0 : (0 : Int) ≤ (q : Int) := by omega
    have hqx : (q : Int) ≤ 65535 := by omega
    generalize q % 91 = k at hk91 hqk
    have hk0 : (0 : Int) ≤ (k : Int) := by omega
    have HK := Lib.hid hk91
    clear b1' hk91
    go_enter Try.func4, Try.ntmps4
    go_wp2_with fail
    go_loopw [9, 10, 11] (fun va vs x wr => ∃ (i : Nat) (A : Option Addr) (n c : Nat) (A' : Option Addr) (n' c' : Nat), i ≤ n0 ∧ x = .int .i64 (i : Int) ∧ va = .slice A n c ∧ vs = .slice A' n' c' ∧ OwnB wr w.heap.size 5 (.slice A n c) ((mays (l0.take i)).flatMap evB) ∧ OwnE wr w.heap.size (.slice A' n' c') (mays (l0.take i)) ∧ n = ((mays (l0.take i)).flatMap evB).length ∧ n' = (mays (l0.take i)).length ∧ Apart (.slice A n c) (.slice A' n' c') ∧ Below w.heap.size w wr) (fun _ _ x _ => n0 - (intOf x).toNat)
    case atStart => exact ⟨0, none, 0, 0, none, 0, 0, by omega, rfl, rfl, rfl, OwnB.nil_ _ _ _, OwnE.nil_ _ _, rfl, rfl, (fun k hk => by cases hk), Below.refl _ _⟩
    case round =>
      obtain ⟨i, A, n, c, A', n', c', hi, rfl, rfl, rfl, hown, howe, hn, hn', hap, hbw⟩ := hrel
      have OWN := Lib.hid hown
      have OWE := Lib.hid howe
      have HN := Lib.hid hn
      have HN' := Lib.hid hn'
      have AP := Lib.hid hap
      have HBW := Lib.hid hbw
      clear hown howe hn hn' hap hbw
      by_cases hlt : i < n0
      · have hil : i < l0.length := by rw [← hn0.out]; exact hlt
        have hle0 : (i : Int) < (n0 : Int) := by omega
        have hi0 : (0 : Int) ≤ (i : Int) := by omega
        obtain ⟨b, off, rfl, hB, hr⟩ := D0.out.at_ hil
        have hok := K0.out _ (List.getElem_mem hil)
        have YES : Hid (mayE l0[i] = true → mays (l0.take (i + 1)) = mays (l0.take i) ++ [l0[i]]) := mays_yes hil
        have NO : Hid (mayE l0[i] = false → mays (l0.take (i + 1)) = mays (l0.take i)) := mays_no hil
        have MK : Hid (∀ e ∈ mays (l0.take i), e.ok ∧ mayE e = true) := mays_ok (fun e he => K0.out e (List.mem_of_mem_take he))
        have ML : Hid ((mays (l0.take i)).length ≤ 20) := by
          show _ ≤ _
          have h1 := mays_len (l0.take i)
          rw [List.length_take] at h1
          omega
        generalize l0[i] = x at hr hok YES NO
        generalize hM : mays (l0.take i) = M at OWN OWE HN HN' YES NO MK ML
        clear hM
        have RX3 : Hid (∀ W, Below w.heap.size w W → W.rangeAt b (off + i * 14) (evL x)) := fun W hb => rg_below hr hb hB
        have RX : Hid (∀ W, Below w.heap.size w W → (loadE (.pointer (some ⟨b, off + i * 14, none⟩))).run Try.prog W = .ok (.agg (evA x)) W) := fun W hb => run_loadE_mid hok.d6 (rg_below hr hb hB)
        have lx := RX.out wr HBW.out
        have MX := Lib.hid (emay_any x hok)
        have KX := Lib.hid hok
        clear hr hok hil
        cases hm : mayE x
        case false =>
          rw [hm] at MX
          have PN := Lib.hid (eput_no x KX.out hm)
          have NOX := Lib.hid (NO.out hm)
          clear hm YES NO
          go_wp2_with fail
          refine (PN.out _).mono ?_
          rintro _ v2 ⟨rfl, hb⟩
          have H2 := Lib.hid (HBW.out.trans (hb.mono HBW.out.size))
          have O2 := Lib.hid (own_below OWN.out hb)
          have E2 := Lib.hid (OWE.out.below hb)
          have l2 := RX.out v2 H2.out
          clear hb lx
          go_wp2_with fail
          refine (MX.out _).mono ?_
          rintro _ v3 ⟨rfl, hb⟩
          have H3 := Lib.hid (H2.out.trans (hb.mono H2.out.size))
          have O3 := Lib.hid (own_below O2.out hb)
          have E3 := Lib.hid (E2.out.below hb)
          clear hb l2
          go_wp2_with fail
          go_roundw
          case rel =>
            refine ⟨i + 1, A, n, c, A', n', c', by omega, by go_num, rfl, rfl, ?_⟩
            rw [NOX.out]
            exact ⟨O3.out, E3.out, HN.out, HN'.out, AP.out, H3.out⟩
          case measure => simp [intOf]; omega
        case true =>
          rw [hm] at MX
          have PX := Lib.hid (eput_yes x KX.out hm)
          have YX := Lib.hid (YES.out hm)
          have TM : Hid (takeE ((b1 ++ evB x) ++ b2) (n1 : Int) = (x, (n1 : Int) + 91, 0)) := by show _ = _; rw [hn1.out]; exact takeE_mid KX.out hm b1 b2
          have BL := Lib.hid (evB_len KX.out.d6)
          clear hm YES NO
          go_wp2_with fail
          refine (PX.out _).mono ?_
          rintro _ v2 ⟨A3, n3, c3, rfl, hn3, ho3, hb⟩
          obtain ⟨g, rfl, hg, hrow⟩ := own_row ho3 (by rw [BL.out]; omega)
          rw [BL.out] at hn3
          subst hn3
          have CP3 := Lib.hid (own_cap ho3)
          have H2 := Lib.hid (HBW.out.trans (hb.mono HBW.out.size))
          have O2 := Lib.hid (own_below OWN.out hb)
          have E2 := Lib.hid (OWE.out.below hb)
          have Y2 := Lib.hid (own_bytes' ho3)
          have l2 := RX.out v2 H2.out
          clear hb lx ho3 hg hrow
          go_wp2_with fail
          refine (MX.out _).mono ?_
          rintro _ v3 ⟨rfl, hb⟩
          have H3 := Lib.hid (H2.out.trans (hb.mono H2.out.size))
          have O3 := Lib.hid (own_below O2.out hb)
          have E3 := Lib.hid (E2.out.below hb)
          have Y3 := Lib.hid ((Y2.out.below hb).more hb.size)
          have Z1 := Lib.hid ((D1.out.below H3.out).more H3.out.size)
          have Z2 := Lib.hid ((D2.out.below H3.out).more H3.out.size)
          have P1 : Hid (([] : List UInt8) ++ b1 = b1) := rfl
          have S1 : Hid (b1.length ≤ 300) := by show _ ≤ _; rw [← hn1.out]; omega
          have S2 : Hid (b2.length ≤ 3000) := by show _ ≤ _; rw [← hn2.out]; omega
          clear hb l2 Y2 O2 E2
          go_wp2_with (first
            | (at_builtin; refine wpList_ap2 rfl _ _ rfl rfl v3.heap.size (.slice (some ⟨v3.heap.size, 0, none⟩) 0 0) [] b1 b1 v3.heap.size A1 n1 c1 rfl rfl hn1.out P1.out (OwnB.made v3 _ 5 (Nat.le_refl _)) (Reads.alloc Z1.out (Nat.le_refl _) _) (by have := S1.out; simp; omega) v3 ((Below.refl _ _).alloc (Nat.le_refl _) _) (by simp) ?_; intro A4 c4 n4 W4 e4 h4 hB4 hl4 hbel4 hs4 hg4; clear hB4 hl4 hg4)
            | (at_builtin; refine wpList_ap2 rfl _ _ rfl rfl v3.heap.size (.slice A4 n4 c4) b1 (evB x) (b1 ++ evB x) v3.heap.size (some ⟨g, 0, none⟩) 91 c3 rfl rfl BL.out.symm rfl h4 (Y3.out.below hbel4) (by have := S1.out; have := BL.out; omega) v3 hbel4 hs4 ?_; intro A5 c5 n5 W5 e5 h5 hB5 hl5 hbel5 hs5 hg5; clear hB5 hl5 hg5)
            | (at_builtin; refine wpList_ap2 rfl _ _ rfl rfl v3.heap.size (.slice A5 n5 c5) (b1 ++ evB x) b2 ((b1 ++ evB x) ++ b2) v3.heap.size A2 n2 c2 rfl rfl hn2.out rfl h5 (Z2.out.below hbel5) (by have := S1.out; have := S2.out; have := BL.out; rw [List.length_append]; omega) v3 hbel5 hs5 ?_; intro A6 c6 n6 W6 e6 h6 hB6 hl6 hbel6 hs6 hg6; clear hl6 hg6))
          have TK := Lib.hid (etake_any A6 n6 c6 ((b1 ++ evB x) ++ b2) (n1 : Int) W6 hB6 e6.out (own_cap h6).1 (own_cap h6).2)
          rw [TM.out] at TK
          have BEL6 := Lib.hid hbel6
          clear h4 h5 h6 hbel4 hbel5 hbel6 hs4 hs5 hs6 hB6
          refine TK.out.mono ?_
          rintro _ v7 ⟨rfl, hb⟩
          have BEL7 := Lib.hid (BEL6.out.trans (hb.mono BEL6.out.size))
          have V8 : Hid (Es v3 (v7.alloc (.cells (evA x) 26)) [(v7.heap.size, x)]) := ⟨fun p hp => by rw [List.mem_singleton.1 hp]; exact EB.new v7 KX.out.d6, BEL7.out.alloc BEL7.out.size _⟩
          have s7 := run_storeE_new KX.out.d6 v7
          have hkc : (k : Int) ≤ (c3 : Int) := by have := CP3.out.1; have := HK.out; omega
          have Y8 : Hid (Bytes (v7.alloc (.cells (evA x) 26)) (v7.alloc (.cells (evA x) 26)).heap.size (some ⟨g, 0, none⟩) ((evB x).take k)) := bytes_take ((Y3.out.below V8.out.bel).more V8.out.bel.size) k (by rw [BL.out]; have := HK.out; omega)
          have LK : Hid (k = ((evB x).take k).length) := by show _ = _; rw [List.length_take, BL.out]; have := HK.out; omega
          have TK2 := Lib.hid (etake_any (some ⟨g, 0, none⟩) k c3 ((evB x).take k) 0 (v7.alloc (.cells (evA x) 26)) Y8.out LK.out (by have := CP3.out.1; have := HK.out; omega) CP3.out.2)
          rw [show takeE ((evB x).take k) 0 = (E0, 0, 5) from takeE_short (a := 0) (by omega) (by rw [← LK.out]; have := HK.out; omega)] at TK2
          clear hb TK
          go_wp2_with fail
          refine TK2.out.mono ?_
          rintro _ v9 ⟨rfl, hb⟩
          have V9 : Es v3 (v9.alloc (.cells (evA E0) 26)) [(v7.heap.size, x)] := (V8.out.next hb).alloc _
          have s9 := run_storeE_new E0_ok.d6 v9
          have hw1 : IntKind.i64.wrap ((n1 : Int) + 91) = (n1 : Int) + 91 := by rw [IntKind.wrap_i64]; omega
          have qe : ∀ W, (Op.equalIn 10000 26 (.agg (evA x)) (.agg (evA x))).run Try.prog W = .ok true W := ev_same KX.out
          have V9H := Lib.hid V9
          clear hb TK2 s7 V8 Y8
          go_wp2_with fail
          refine wp_region_plan (fun W => Es v3 W [(v7.heap.size, x)]) Grows [IsV (.agg (evA x)), IsV (.slice (some ⟨b, off, none⟩) n0 c0), IsV (.int .i64 (i : Int)), IsV (.pointer (some ⟨b, off + i * 14, none⟩)), IsV (.agg (evA x)), IsV (.bool false), IsV (.bool false), IsV (.int .i64 ((n1 : Int) + 91)), IsV (.slice A1 n1 c1), IsV (.int .i64 (n1 : Int)), IsV (.slice (some ⟨g, 0, none⟩) 91 c3), IsV (.int .i64 91), IsV (.int .i64 ((n1 : Int) + 91)), IsV (.bool false), IsV (.bool false), IsV (.bool false), IsV (.int .i64 0), IsV (.bool false), IsV (.bool false), IsV (.bool false), IsV (.int .i64 5), IsV (.bool false), IsV (.bool false)] ([(0, .slice (some ⟨b, off, none⟩) n0 c0), (1, .slice A1 n1 c1), (11, .int .i64 (i : Int)), (12, .slice (some ⟨g, 0, none⟩) 91 c3), (13, .pointer (some ⟨v7.heap.size, 0, none⟩)), (14, .int .i64 ((n1 : Int) + 91)), (15, .int .i64 0), (18, .int .i64 5)] : List (Nat × Value)) (⟨rfl, rfl, rfl, rfl, rfl, rfl, rfl, rfl, trivial⟩) (n := 183) (by kernel_rfl) rfl (by kernel_rfl) V9H.out.drew Grows.refl (StabAll.get ?_) ?_ ?_
          · repeat (first | exact trivial | refine ⟨stab_c _, ?_⟩ | refine ⟨stab_two _ _, ?_⟩ | refine ⟨fun _ _ _ _ _ _ _ => trivial, ?_⟩)
          · refine ⟨?_, ⟨?_, ⟨?_, ⟨?_, ⟨?_, ⟨?_, ⟨?_, ⟨?_, ⟨?_, ⟨?_, ⟨?_, ⟨?_, ⟨?_, ⟨?_, ⟨?_, ⟨?_, ⟨?_, ⟨?_, ⟨?_, ⟨?_, ⟨?_, ⟨?_, ⟨?_, trivial⟩⟩⟩⟩⟩⟩⟩⟩⟩⟩⟩⟩⟩⟩⟩⟩⟩⟩⟩⟩⟩⟩⟩
            · intro a W hS hE hD
              obtain ⟨_, _, _, _, x13, _, _, _, _⟩ := hE
              have e13 := x13 (by kernel_rfl)
              refine plan_free rfl ?_
              have k13 := e13
              refine plan_value (ex_loadE k13 KX.out.d6 (hS.nth 0 rfl).rg) ⟨_, rfl, hS, Grows.refl _, rfl⟩
            · intro a W hS hE hD
              obtain ⟨x0, _, _, _, _, _, _, _, _⟩ := hE
              have e0 := x0 (by kernel_rfl)
              refine plan_free rfl ?_
              refine plan_value ex_move ⟨_, rfl, hS, Grows.refl _, ?_⟩
              exact e0
            · intro a W hS hE hD
              obtain ⟨_, _, x11, _, _, _, _, _, _⟩ := hE
              have e11 := x11 (by kernel_rfl)
              refine plan_free rfl ?_
              refine plan_value ex_move ⟨_, rfl, hS, Grows.refl _, ?_⟩
              exact e11
            · intro a W hS hE hD
              have k90 : a.tmps.getD 90 undef = .slice (some ⟨b, off, none⟩) n0 c0 := hD 1 90 (by kernel_rfl)
              have k91 : a.tmps.getD 91 undef = .int .i64 (i : Int) := hD 2 91 (by kernel_rfl)
              refine plan_free rfl ?_
              refine plan_value (v := .pointer (some ⟨b, off + i * 14, none⟩)) (w' := W) (by go_simp) ⟨_, rfl, hS, Grows.refl _, rfl⟩
            · intro a W hS hE hD
              have k92 : a.tmps.getD 92 undef = .pointer (some ⟨b, off + i * 14, none⟩) := hD 3 92 (by kernel_rfl)
              refine plan_free rfl ?_
              refine plan_value (ex_loadE k92 KX.out.d6 (RX3.out W (H3.out.trans (hS.bel.mono H3.out.size)))) ⟨_, rfl, hS, Grows.refl _, rfl⟩
            · intro a W hS hE hD
              have k89 : a.tmps.getD 89 undef = .agg (evA x) := hD 0 89 (by kernel_rfl)
              have k93 : a.tmps.getD 93 undef = .agg (evA x) := hD 4 93 (by kernel_rfl)
              refine plan_free rfl ?_
              refine plan_value (v := .bool false) (w' := W) (by go_simp) ⟨_, rfl, hS, Grows.refl _, rfl⟩
            · intro a W hS hE hD
              have k94 : a.tmps.getD 94 undef = .bool false := hD 5 94 (by kernel_rfl)
              refine plan_free rfl ?_
              refine plan_value ex_move ⟨_, rfl, hS, Grows.refl _, ?_⟩
              exact k94
            · intro a W hS hE hD
              obtain ⟨_, _, _, _, _, x14, _, _, _⟩ := hE
              have e14 := x14 (by kernel_rfl)
              have k95 : a.tmps.getD 95 undef = .bool false := hD 6 95 (by kernel_rfl)
              refine plan_want rfl (by kernel_rfl) k95 ?_
              refine plan_value ex_move ⟨_, rfl, hS, Grows.refl _, ?_⟩
              exact e14
            · intro a W hS hE hD
              obtain ⟨_, x1, _, _, _, _, _, _, _⟩ := hE
              have e1 := x1 (by kernel_rfl)
              have k95 : a.tmps.getD 95 undef = .bool false := hD 6 95 (by kernel_rfl)
              refine plan_want rfl (by kernel_rfl) k95 ?_
              refine plan_value ex_move ⟨_, rfl, hS, Grows.refl _, ?_⟩
              exact e1
            · intro a W hS hE hD
              have k95 : a.tmps.getD 95 undef = .bool false := hD 6 95 (by kernel_rfl)
              have k97 : a.tmps.getD 97 undef = .slice A1 n1 c1 := hD 8 97 (by kernel_rfl)
              refine plan_want rfl (by kernel_rfl) k95 ?_
              refine plan_value (v := .int .i64 (n1 : Int)) (w' := W) (by go_simp) ⟨_, rfl, hS, Grows.refl _, rfl⟩
            · intro a W hS hE hD
              obtain ⟨_, _, _, x12, _, _, _, _, _⟩ := hE
              have e12 := x12 (by kernel_rfl)
              have k95 : a.tmps.getD 95 undef = .bool false := hD 6 95 (by kernel_rfl)
              refine plan_want rfl (by kernel_rfl) k95 ?_
              refine plan_value ex_move ⟨_, rfl, hS, Grows.refl _, ?_⟩
              exact e12
            · intro a W hS hE hD
              have k95 : a.tmps.getD 95 undef = .bool false := hD 6 95 (by kernel_rfl)
              have k99 : a.tmps.getD 99 undef = .slice (some ⟨g, 0, none⟩) 91 c3 := hD 10 99 (by kernel_rfl)
              refine plan_want rfl (by kernel_rfl) k95 ?_
              refine plan_value (v := .int .i64 91) (w' := W) (by go_simp) ⟨_, rfl, hS, Grows.refl _, rfl⟩
            · intro a W hS hE hD
              have k95 : a.tmps.getD 95 undef = .bool false := hD 6 95 (by kernel_rfl)
              have k98 : a.tmps.getD 98 undef = .int .i64 (n1 : Int) := hD 9 98 (by kernel_rfl)
              have k100 : a.tmps.getD 100 undef = .int .i64 91 := hD 11 100 (by kernel_rfl)
              refine plan_want rfl (by kernel_rfl) k95 ?_
              refine plan_value (v := .int .i64 ((n1 : Int) + 91)) (w' := W) (by go_simp) ⟨_, rfl, hS, Grows.refl _, rfl⟩
            · intro a W hS hE hD
              have k95 : a.tmps.getD 95 undef = .bool false := hD 6 95 (by kernel_rfl)
              have k96 : a.tmps.getD 96 undef = .int .i64 ((n1 : Int) + 91) := hD 7 96 (by kernel_rfl)
              have k101 : a.tmps.getD 101 undef = .int .i64 ((n1 : Int) + 91) := hD 12 101 (by kernel_rfl)
              refine plan_want rfl (by kernel_rfl) k95 ?_
              refine plan_value (v := .bool false) (w' := W) (by go_simp) ⟨_, rfl, hS, Grows.refl _, rfl⟩
            · intro a W hS hE hD
              have k95 : a.tmps.getD 95 undef = .bool false := hD 6 95 (by kernel_rfl)
              have k102 : a.tmps.getD 102 undef = .bool false := hD 13 102 (by kernel_rfl)
              refine plan_free rfl ?_
              refine plan_value (v := .bool false) (w' := W) (by go_simp) ⟨_, rfl, hS, Grows.refl _, rfl⟩
            · intro a W hS hE hD
              have k103 : a.tmps.getD 103 undef = .bool false := hD 14 103 (by kernel_rfl)
              refine plan_free rfl ?_
              refine plan_value ex_move ⟨_, rfl, hS, Grows.refl _, ?_⟩
              exact k103
            · intro a W hS hE hD
              obtain ⟨_, _, _, _, _, _, x15, _, _⟩ := hE
              have e15 := x15 (by kernel_rfl)
              have k104 : a.tmps.getD 104 undef = .bool false := hD 15 104 (by kernel_rfl)
              refine plan_want rfl (by kernel_rfl) k104 ?_
              refine plan_value ex_move ⟨_, rfl, hS, Grows.refl _, ?_⟩
              exact e15
            · intro a W hS hE hD
              have k104 : a.tmps.getD 104 undef = .bool false := hD 15 104 (by kernel_rfl)
              have k105 : a.tmps.getD 105 undef = .int .i64 0 := hD 16 105 (by kernel_rfl)
              refine plan_want rfl (by kernel_rfl) k104 ?_
              refine plan_value (v := .bool false) (w' := W) (by go_simp) ⟨_, rfl, hS, Grows.refl _, rfl⟩
            · intro a W hS hE hD
              have k104 : a.tmps.getD 104 undef = .bool false := hD 15 104 (by kernel_rfl)
              have k106 : a.tmps.getD 106 undef = .bool false := hD 17 106 (by kernel_rfl)
              refine plan_free rfl ?_
              refine plan_value (v := .bool false) (w' := W) (by go_simp) ⟨_, rfl, hS, Grows.refl _, rfl⟩
            · intro a W hS hE hD
              have k107 : a.tmps.getD 107 undef = .bool false := hD 18 107 (by kernel_rfl)
              refine plan_free rfl ?_
              refine plan_value ex_move ⟨_, rfl, hS, Grows.refl _, ?_⟩
              exact k107
            · intro a W hS hE hD
              obtain ⟨_, _, _, _, _, _, _, x18, _⟩ := hE
              have e18 := x18 (by kernel_rfl)
              have k108 : a.tmps.getD 108 undef = .bool false := hD 19 108 (by kernel_rfl)
              refine plan_want rfl (by kernel_rfl) k108 ?_
              refine plan_value ex_move ⟨_, rfl, hS, Grows.refl _, ?_⟩
              exact e18
            · intro a W hS hE hD
              have k108 : a.tmps.getD 108 undef = .bool false := hD 19 108 (by kernel_rfl)
              have k109 : a.tmps.getD 109 undef = .int .i64 5 := hD 20 109 (by kernel_rfl)
              refine plan_want rfl (by kernel_rfl) k108 ?_
              refine plan_value (v := .bool false) (w' := W) (by go_simp) ⟨_, rfl, hS, Grows.refl _, rfl⟩
            · intro a W hS hE hD
              have k108 : a.tmps.getD 108 undef = .bool false := hD 19 108 (by kernel_rfl)
              have k110 : a.tmps.getD 110 undef = .bool false := hD 21 110 (by kernel_rfl)
              refine plan_free rfl ?_
              refine plan_value (v := .bool false) (w' := W) (by go_simp) ⟨_, rfl, hS, Grows.refl _, rfl⟩
          · intro f v10 V10 hE
            have f111 : f 111 = .bool false := Ends.get hE 22 _ rfl 111 rfl
            clear hE
            simp only [setAll, List.setIfInBounds_toArray, List.set_cons_zero, List.set_cons_succ]
            rw [f111]; clear f111
            have V10H := Lib.hid V10
            have H10 := Lib.hid (H3.out.trans (V10.bel.mono H3.out.size))
            have O10 := Lib.hid (own_below O3.out V10.bel)
            have E10 := Lib.hid (E3.out.below V10.bel)
            have Y10 := Lib.hid ((Y3.out.below V10.bel).more V10.bel.size)
            have FL : Hid (M.flatMap evB ++ evB x = (M ++ [x]).flatMap evB) := by show _ = _; rw [List.flatMap_append]; simp
            have SM : Hid ((M.flatMap evB).length + (evB x).length ≤ 140737488355328) := by show _ ≤ _; rw [flat_len M (fun e he => (MK.out e he).1), BL.out]; have := ML.out; omega
            have bS := fun W => B1.out x W KX.out.d6
            have M6 : Hid (∀ u ∈ M, u.d.length = 6) := fun u hu => (MK.out u hu).1.d6
            have ML2 : Hid (M.length + 1 ≤ 1099511627776) := by show _ ≤ _; have := ML.out; omega
            have RL := RX.out
            clear V9 V9H V10 V10H s9 qe hw1
            go_wp2_with (first
              | (at_builtin; refine wpList_ap3 rfl _ _ rfl rfl w.heap.size (.slice A n c) (M.flatMap evB) (evB x) _ v10.heap.size (some ⟨g, 0, none⟩) 91 c3 rfl rfl BL.out.symm FL.out O10.out Y10.out SM.out w H10.out H10.out.size ?_; intro A11 c11 n11 W11 e11 h11 hbel11 hs11 hg11 ho11; have l11 := RL W11 hbel11; have bS11 := bS W11; have HO11 := Lib.hid h11; have E11 := Lib.hid (OwnE.kept E10.out hg11 AP.out.ne); have AP11 := Lib.hid (AP.out.grow ho11 (fun k hk => (World.ownsRow.lt E10.out k hk).2)); have HB11 := Lib.hid hbel11; clear h11 hg11 ho11 hbel11)
              | (at_builtin; refine wpList_appE3 rfl _ _ rfl w.heap.size (.slice A' n' c') M x KX.out.d6 W11.heap.size 1 rfl rfl (Blk.new W11 _ _) (E11.out.below ((Below.refl _ _).alloc (Nat.le_refl _) _)) M6.out ML2.out w (HB11.out.alloc HB11.out.size _) (by have := HB11.out.size; simp; omega) ?_; intro A12 c12 n12 W12 e12 h12 hbel12 hs12 hg12 ho12; have O12 := Lib.hid (own_kept (own_below HO11.out ((Below.refl _ _).alloc (Nat.le_refl _) (.cells (evA x) 26))) hg12 AP11.out.symm.ne); have AP12 := Lib.hid ((AP11.out.symm.grow ho12 (fun k hk => (World.ownsRow.lt (own_below HO11.out ((Below.refl _ _).alloc (Nat.le_refl _) (.cells (evA x) 26))) k hk).2)).symm); have E12 := Lib.hid h12; have HB12 := Lib.hid hbel12; clear h12 hg12 ho12 hbel12))
            go_roundw
            case rel =>
              refine ⟨i + 1, A11, n11, c11, A12, n12, c12, by omega, by go_num, rfl, rfl, ?_⟩
              rw [YX.out]
              exact ⟨O12.out, E12.out, e11.out, by rw [e12.out, List.length_append]; rfl, AP12.out, HB12.out⟩
            case measure => simp [intOf]; omega
      · obtain rfl : i = n0 := by omega
        have hall0 : l0.take i = l0 := List.take_of_length_le (by rw [← hn0.out]; omega)
        rw [hall0] at OWN OWE HN HN'
        have MK : Hid (∀ e ∈ mays l0, e.ok ∧ mayE e = true) := mays_ok K0.out
        have ML : Hid ((mays l0).length ≤ 20) := by show _ ≤ _; have h1 := mays_len l0; have := hn0.out; omega
        generalize mays l0 = M at OWN OWE HN HN' MK ML
        have FLN := Lib.hid (flat_len M (fun e he => (MK.out e he).1))
        have HNL : Hid (n ≤ 2000) := by show _ ≤ _; rw [HN.out, FLN.out]; have := ML.out; omega
        have EA := Lib.hid (eall_any A n c (M.flatMap evB) wr (own_bytes' OWN.out) HN.out (own_cap OWN.out).1 (own_cap OWN.out).2 (by have := HNL.out; omega))
        have ALE := Lib.hid (allE_flat M MK.out)
        rw [show errA (M.flatMap evB) = 0 by unfold errA; rw [ALE.out]; simp, show evsA (M.flatMap evB) = M by unfold evsA; rw [ALE.out]; rfl] at EA
        clear hall0
        go_wp2_with fail
        refine EA.out.mono ?_
        rintro _ v2 ⟨A5, n5, c5, rfl, hn5, hev5, hnc5, hcm5, hb⟩
        have H2 := Lib.hid (HBW.out.trans (hb.mono HBW.out.size))
        have O2 := Lib.hid (own_below OWN.out hb)
        have E2 := Lib.hid (OWE.out.below hb)
        have Y2 := Lib.hid (own_bytes' O2.out)
        have P1 : Hid (([] : List UInt8) ++ M.flatMap evB = M.flatMap evB) := rfl
        have V5 := Lib.hid hev5
        have N5 := Lib.hid hn5
        clear hb EA hev5 hn5 hnc5 hcm5
        go_wp2_with (first
          | (at_builtin; refine wpList_ap2 rfl _ _ rfl rfl v2.heap.size (.slice (some ⟨v2.heap.size, 0, none⟩) 0 0) [] (M.flatMap evB) (M.flatMap evB) v2.heap.size A n c rfl rfl HN.out P1.out (OwnB.made v2 _ 5 (Nat.le_refl _)) (Reads.alloc Y2.out (Nat.le_refl _) _) (by have := HNL.out; have := HN.out; simp only [List.length_nil]; omega) v2 ((Below.refl _ _).alloc (Nat.le_refl _) _) (by simp) ?_; intro A6 c6 n6 W6 e6 h6 hB6 hl6 hbel6 hs6 hg6; clear hB6 hl6 hg6)
          | (at_builtin; refine wpList_ap2 rfl _ _ rfl rfl v2.heap.size (.slice A6 n6 c6) (M.flatMap evB) [1] (M.flatMap evB ++ [1]) (W6.alloc (.cells (bv [1]).toArray 5)).heap.size (some ⟨W6.heap.size, 0, none⟩) 1 1 rfl rfl rfl rfl (World.ownsRow.alloc h6 _) (bytes_const W6 [1] 5 (0, 0)) (by have := HNL.out; have := HN.out; simp only [List.length_singleton]; omega) v2 (Below.alloc hbel6 hs6 _) (by simp; omega) ?_; intro A7 c7 n7 W7 e7 h7 hB7 hl7 hbel7 hs7 hg7; clear hl7 hg7))
        have EA2 := Lib.hid (eall_any A7 n7 c7 (M.flatMap evB ++ [1]) W7 hB7 e7.out (own_cap h7).1 (own_cap h7).2 (by rw [e7.out, List.length_append]; have := HNL.out; have := HN.out; simp only [List.length_singleton]; omega))
        rw [show errA (M.flatMap evB ++ [1]) = 5 by unfold errA; rw [allE_len (by rw [List.length_append, FLN.out]; simp only [List.length_singleton]; omega)]; rfl] at EA2
        have BEL7 := Lib.hid hbel7
        clear h6 h7 hbel6 hbel7 hs6 hs7 hB7
        refine EA2.out.mono ?_
        rintro _ v8 ⟨A8, n8, c8, rfl, _, _, _, _, hb⟩
        have B8 := Lib.hid (BEL7.out.trans (hb.mono BEL7.out.size))
        have H8 := Lib.hid (H2.out.trans (B8.out.mono H2.out.size))
        have EV8 : Hid (Evs v8 v8.heap.size A' M) := by
          obtain ⟨A9, c9, hv, hev, _, _⟩ := (E2.out.below B8.out).open_ (fun u hu => (MK.out u hu).1.d6)
          injection hv with hv1 _ _
          subst hv1
          exact hev
        have SM := Lib.hid (esame_any A5 A' n5 n' c5 c' M M v8 ((V5.out.below B8.out).more B8.out.size) EV8.out (fun e he => (MK.out e he).1) (fun e he => (MK.out e he).1) N5.out HN'.out (by rw [N5.out]; have := ML.out; omega) true (by simp))
        clear hb EA2
        go_wp2_with fail
        refine SM.out.mono ?_
        rintro _ v9 ⟨rfl, hb⟩
        have H9 := Lib.hid (H8.out.trans (hb.mono H8.out.size))
        have Z9 := Lib.hid ((D2.out.below H9.out).more H9.out.size)
        have TK := Lib.hid (etake_any A2 n2 c2 b2 0 v9 Z9.out hn2.out G2.out.1 G2.out.2)
        have CASES : takeE b2 0 = (E0, 0, 5) ∨ ∃ e : Ev, e.ok ∧ mayE e = true ∧ takeE b2 0 = (e, 91, 0) ∧ 91 ≤ n2 ∧ evB e = b2.take 91 := by
          by_cases h91 : 91 ≤ n2
          · have hl : (b2.take 91).length = 91 := by rw [List.length_take, ← hn2.out]; omega
            cases hm : mayE (ofB (b2.take 91))
            · exact .inl (takeE_no (bs := b2) (a := 0) (by rw [← hn2.out]; omega) (by simpa using hm))
            · refine .inr ⟨_, ofB_ok _ hl, hm, ?_, h91, evB_ofB _ hl hm⟩
              have := takeE_ok (bs := b2) (a := 0) (by rw [← hn2.out]; omega) (by simpa using hm)
              simpa using this
          · exact .inl (takeE_short (bs := b2) (a := 0) (by omega) (by rw [← hn2.out]; omega))
        clear hb SM
        rcases CASES with hE | ⟨e, hok, hme, hE, h91, hbk⟩
        · rw [hE] at TK
          clear hE
          go_wp2_with fail
          refine TK.out.mono ?_
          rintro _ v10 ⟨rfl, hb⟩
          have H10 := Lib.hid ((H9.out.trans (hb.mono H9.out.size)).alloc (Nat.le_trans H9.out.size hb.size) (.cells (evA E0) 26))
          have s10 := run_storeE_new E0_ok.d6 v10
          clear hb TK
          go_wp2_with fail
          refine (evworks_any _).mono ?_
          rintro _ v11 ⟨rfl, hb⟩
          have VF := H10.out.trans (hb.mono H10.out.size)
          clear hb
          go_wp2_with fail
          go_ret
          exact ⟨rfl, VF⟩
        · rw [hE] at TK
          have PUE : Hid (∀ W, Calls Try.prog 23 #[.agg (evA e)] W fun x w' => ∃ A n c, x = .returned (.slice A n c) ∧ n = (b2.take 91).length ∧ OwnB w' W.heap.size 5 (.slice A n c) (b2.take 91) ∧ Below W.heap.size W w') := by
            intro W; have := eput_yes e hok hme W; rwa [hbk] at this
          have MYE := Lib.hid (emay_any e hok)
          rw [hme] at MYE
          have KE := Lib.hid hok
          have L91 : Hid (91 = (b2.take 91).length) := by show _ = _; rw [List.length_take, ← hn2.out]; omega
          have h91i : (91 : Int) ≤ (n2 : Int) := by omega
          have h91c : (91 : Int) ≤ (c2 : Int) := by have := G2.out.1; omega
          obtain ⟨b, off, rfl, hy1, hy2⟩ := Bytes.at_ Z9.out (k := 0) (by rw [← hn2.out]; omega)
          clear hy1 hy2
          have T91 : Hid (∀ W, Bytes W W.heap.size (some ⟨b, off, none⟩) b2 → Bytes W W.heap.size (some ⟨b, off, none⟩) (b2.take 91)) := fun W h => bytes_take h 91 (by rw [← hn2.out]; omega)
          clear hE hok hme hbk h91
          go_wp2_with fail
          refine TK.out.mono ?_
          rintro _ v10 ⟨rfl, hb⟩
          have s10 := run_storeE_new KE.out.d6 v10
          have V11 : Hid (Eb w (v10.alloc (.cells (evA e) 26)) [(v10.heap.size, e)] (some ⟨b, off, none⟩) b2) := by
            have h10 := H9.out.trans (hb.mono H9.out.size)
            refine ⟨⟨fun p hp => by rw [List.mem_singleton.1 hp]; exact EB.new v10 KE.out.d6, h10.alloc h10.size _⟩, Bytes.new' (Bytes.next' Z9.out hb) _⟩
          clear hb TK
          go_wp2_with fail
          refine wp_region_plan (fun W => Eb w W [(v10.heap.size, e)] (some ⟨b, off, none⟩) b2) Grows [IsV (.agg (evA e)), IsV (.bool true), IsV (.bool true), IsV (.int .i64 91), IsV (.slice (some ⟨b, off, none⟩) n2 c2), IsV (.int .i64 (n2 : Int)), IsV (.bool true), IsV (.bool true), IsV (.bool true), IsV (.agg (evA e)), SlB (b2.take 91), IsV (.string (strB (b2.take 91))), IsV (.slice (some ⟨b, off, none⟩) n2 c2), IsV (.int .i64 91), IsV (.int .i64 91), IsV (.slice (some ⟨b, off, none⟩) 91 c2), IsV (.string (strB (b2.take 91))), IsV (.bool true), IsV (.bool true), IsV (.bool true), IsV (.bool true), IsV (.bool true), IsV (.bool true)] ([(2, .slice (some ⟨b, off, none⟩) n2 c2), (23, .pointer (some ⟨v10.heap.size, 0, none⟩)), (24, .int .i64 91)] : List (Nat × Value)) (⟨rfl, rfl, rfl, trivial⟩) (n := 183) (by kernel_rfl) rfl (by kernel_rfl) V11.out.drew Grows.refl (StabAll.get ?_) ?_ ?_
          · repeat (first | exact trivial | refine ⟨stab_c _, ?_⟩ | refine ⟨stab_two _ _, ?_⟩ | refine ⟨stab_slb _, ?_⟩ | refine ⟨fun _ _ _ _ _ _ _ => trivial, ?_⟩)
          · refine ⟨?_, ⟨?_, ⟨?_, ⟨?_, ⟨?_, ⟨?_, ⟨?_, ⟨?_, ⟨?_, ⟨?_, ⟨?_, ⟨?_, ⟨?_, ⟨?_, ⟨?_, ⟨?_, ⟨?_, ⟨?_, ⟨?_, ⟨?_, ⟨?_, ⟨?_, ⟨?_, trivial⟩⟩⟩⟩⟩⟩⟩⟩⟩⟩⟩⟩⟩⟩⟩⟩⟩⟩⟩⟩⟩⟩⟩
            · intro a W hS hE hD
              obtain ⟨_, x23, _, _⟩ := hE
              have e23 := x23 (by kernel_rfl)
              refine plan_free rfl ?_
              have k23 := e23
              refine plan_value (ex_loadE k23 KE.out.d6 (hS.es.nth 0 rfl).rg) ⟨_, rfl, hS, Grows.refl _, rfl⟩
            · intro a W hS hE hD
              have k161 : a.tmps.getD 161 undef = .agg (evA e) := hD 0 161 (by kernel_rfl)
              refine plan_free rfl ?_
              refine plan_call (f := 21) (args := #[a.tmps.getD 161 undef]) (by kernel_rfl) ?_
              rw [k161]
              refine (MYE.out W).mono ?_
              rintro e W2 ⟨rfl, hb⟩
              refine ⟨_, rfl, _, rfl, hS.next hb, hb, ?_⟩
              exact rfl
            · intro a W hS hE hD
              have k162 : a.tmps.getD 162 undef = .bool true := hD 1 162 (by kernel_rfl)
              refine plan_free rfl ?_
              refine plan_value ex_move ⟨_, rfl, hS, Grows.refl _, ?_⟩
              exact k162
            · intro a W hS hE hD
              obtain ⟨_, _, x24, _⟩ := hE
              have e24 := x24 (by kernel_rfl)
              have k163 : a.tmps.getD 163 undef = .bool true := hD 2 163 (by kernel_rfl)
              refine plan_want rfl (by kernel_rfl) k163 ?_
              refine plan_value ex_move ⟨_, rfl, hS, Grows.refl _, ?_⟩
              exact e24
            · intro a W hS hE hD
              obtain ⟨x2, _, _, _⟩ := hE
              have e2 := x2 (by kernel_rfl)
              have k163 : a.tmps.getD 163 undef = .bool true := hD 2 163 (by kernel_rfl)
              refine plan_want rfl (by kernel_rfl) k163 ?_
              refine plan_value ex_move ⟨_, rfl, hS, Grows.refl _, ?_⟩
              exact e2
            · intro a W hS hE hD
              have k163 : a.tmps.getD 163 undef = .bool true := hD 2 163 (by kernel_rfl)
              have k165 : a.tmps.getD 165 undef = .slice (some ⟨b, off, none⟩) n2 c2 := hD 4 165 (by kernel_rfl)
              refine plan_want rfl (by kernel_rfl) k163 ?_
              refine plan_value (v := .int .i64 (n2 : Int)) (w' := W) (by go_simp) ⟨_, rfl, hS, Grows.refl _, rfl⟩
            · intro a W hS hE hD
              have k163 : a.tmps.getD 163 undef = .bool true := hD 2 163 (by kernel_rfl)
              have k164 : a.tmps.getD 164 undef = .int .i64 91 := hD 3 164 (by kernel_rfl)
              have k166 : a.tmps.getD 166 undef = .int .i64 (n2 : Int) := hD 5 166 (by kernel_rfl)
              refine plan_want rfl (by kernel_rfl) k163 ?_
              refine plan_value (v := .bool true) (w' := W) (by go_simp) ⟨_, rfl, hS, Grows.refl _, rfl⟩
            · intro a W hS hE hD
              have k163 : a.tmps.getD 163 undef = .bool true := hD 2 163 (by kernel_rfl)
              have k167 : a.tmps.getD 167 undef = .bool true := hD 6 167 (by kernel_rfl)
              refine plan_free rfl ?_
              refine plan_value (v := .bool true) (w' := W) (by go_simp) ⟨_, rfl, hS, Grows.refl _, rfl⟩
            · intro a W hS hE hD
              have k168 : a.tmps.getD 168 undef = .bool true := hD 7 168 (by kernel_rfl)
              refine plan_free rfl ?_
              refine plan_value ex_move ⟨_, rfl, hS, Grows.refl _, ?_⟩
              exact k168
            · intro a W hS hE hD
              obtain ⟨_, x23, _, _⟩ := hE
              have e23 := x23 (by kernel_rfl)
              have k169 : a.tmps.getD 169 undef = .bool true := hD 8 169 (by kernel_rfl)
              refine plan_want rfl (by kernel_rfl) k169 ?_
              have k23 := e23
              refine plan_value (ex_loadE k23 KE.out.d6 (hS.es.nth 0 rfl).rg) ⟨_, rfl, hS, Grows.refl _, rfl⟩
            · intro a W hS hE hD
              have k169 : a.tmps.getD 169 undef = .bool true := hD 8 169 (by kernel_rfl)
              have k170 : a.tmps.getD 170 undef = .agg (evA e) := hD 9 170 (by kernel_rfl)
              refine plan_want rfl (by kernel_rfl) k169 ?_
              refine plan_call (f := 23) (args := #[a.tmps.getD 170 undef]) (by kernel_rfl) ?_
              rw [k170]
              refine (PUE.out W).mono ?_
              rintro e W2 ⟨A, n, c, rfl, hl, ho, hb⟩
              exact ⟨_, rfl, _, rfl, hS.next hb, hb, ⟨A, n, c, rfl, hl, own_bytes ho⟩⟩
            · intro a W hS hE hD
              have k169 : a.tmps.getD 169 undef = .bool true := hD 8 169 (by kernel_rfl)
              obtain ⟨A171, n171, c171, k171, l171, b171⟩ : SlB (b2.take 91) (a.tmps.getD 171 undef) W := hD 10 171 (by kernel_rfl)
              refine plan_want rfl (by kernel_rfl) k169 ?_
              refine plan_value (ex_str k171 l171 b171) ⟨_, rfl, hS, Grows.refl _, rfl⟩
            · intro a W hS hE hD
              obtain ⟨x2, _, _, _⟩ := hE
              have e2 := x2 (by kernel_rfl)
              have k169 : a.tmps.getD 169 undef = .bool true := hD 8 169 (by kernel_rfl)
              refine plan_want rfl (by kernel_rfl) k169 ?_
              refine plan_value ex_move ⟨_, rfl, hS, Grows.refl _, ?_⟩
              exact e2
            · intro a W hS hE hD
              obtain ⟨_, _, x24, _⟩ := hE
              have e24 := x24 (by kernel_rfl)
              have k169 : a.tmps.getD 169 undef = .bool true := hD 8 169 (by kernel_rfl)
              refine plan_want rfl (by kernel_rfl) k169 ?_
              refine plan_value ex_move ⟨_, rfl, hS, Grows.refl _, ?_⟩
              exact e24
            · intro a W hS hE hD
              have k169 : a.tmps.getD 169 undef = .bool true := hD 8 169 (by kernel_rfl)
              have k174 : a.tmps.getD 174 undef = .int .i64 91 := hD 13 174 (by kernel_rfl)
              refine plan_want rfl (by kernel_rfl) k169 ?_
              refine plan_value (v := .int .i64 91) (w' := W) (by go_simp) ⟨_, rfl, hS, Grows.refl _, rfl⟩
            · intro a W hS hE hD
              have k169 : a.tmps.getD 169 undef = .bool true := hD 8 169 (by kernel_rfl)
              have k173 : a.tmps.getD 173 undef = .slice (some ⟨b, off, none⟩) n2 c2 := hD 12 173 (by kernel_rfl)
              have k175 : a.tmps.getD 175 undef = .int .i64 91 := hD 14 175 (by kernel_rfl)
              refine plan_want rfl (by kernel_rfl) k169 ?_
              refine plan_value (v := .slice (some ⟨b, off, none⟩) 91 c2) (w' := W) (by go_simp) ⟨_, rfl, hS, Grows.refl _, rfl⟩
            · intro a W hS hE hD
              have k169 : a.tmps.getD 169 undef = .bool true := hD 8 169 (by kernel_rfl)
              have k176 : a.tmps.getD 176 undef = .slice (some ⟨b, off, none⟩) 91 c2 := hD 15 176 (by kernel_rfl)
              refine plan_want rfl (by kernel_rfl) k169 ?_
              refine plan_value (ex_str k176 L91.out (T91.out W hS.b)) ⟨_, rfl, hS, Grows.refl _, rfl⟩
            · intro a W hS hE hD
              have k169 : a.tmps.getD 169 undef = .bool true := hD 8 169 (by kernel_rfl)
              have k172 : a.tmps.getD 172 undef = .string (strB (b2.take 91)) := hD 11 172 (by kernel_rfl)
              have k177 : a.tmps.getD 177 undef = .string (strB (b2.take 91)) := hD 16 177 (by kernel_rfl)
              refine plan_want rfl (by kernel_rfl) k169 ?_
              refine plan_value (v := .bool true) (w' := W) (by go_simp) ⟨_, rfl, hS, Grows.refl _, rfl⟩
            · intro a W hS hE hD
              have k169 : a.tmps.getD 169 undef = .bool true := hD 8 169 (by kernel_rfl)
              have k178 : a.tmps.getD 178 undef = .bool true := hD 17 178 (by kernel_rfl)
              refine plan_free rfl ?_
              refine plan_value (v := .bool true) (w' := W) (by go_simp) ⟨_, rfl, hS, Grows.refl _, rfl⟩
            · intro a W hS hE hD
              have k179 : a.tmps.getD 179 undef = .bool true := hD 18 179 (by kernel_rfl)
              refine plan_free rfl ?_
              refine plan_value ex_move ⟨_, rfl, hS, Grows.refl _, ?_⟩
              exact k179
            · intro a W hS hE hD
              have k180 : a.tmps.getD 180 undef = .bool true := hD 19 180 (by kernel_rfl)
              refine plan_want rfl (by kernel_rfl) k180 ?_
              refine plan_call (f := 15) (args := #[]) (by kernel_rfl) ?_
              refine (evworks_any W).mono ?_
              rintro e W2 ⟨rfl, hb⟩
              refine ⟨_, rfl, _, rfl, hS.next hb, hb, ?_⟩
              exact rfl
            · intro a W hS hE hD
              have k180 : a.tmps.getD 180 undef = .bool true := hD 19 180 (by kernel_rfl)
              have k181 : a.tmps.getD 181 undef = .bool true := hD 20 181 (by kernel_rfl)
              refine plan_free rfl ?_
              refine plan_value (v := .bool true) (w' := W) (by go_simp) ⟨_, rfl, hS, Grows.refl _, rfl⟩
            · intro a W hS hE hD
              have k182 : a.tmps.getD 182 undef = .bool true := hD 21 182 (by kernel_rfl)
              refine plan_free rfl ?_
              refine plan_value ex_assign ⟨_, rfl, hS, Grows.refl _, ?_⟩
              exact k182
          · intro f v12 V12 hE
            have f182 : f 182 = .bool true := Ends.get hE 21 _ rfl 182 rfl
            have f8 : f 8 = .bool true := Ends.get hE 22 _ rfl 8 rfl
            clear hE
            simp only [setAll, List.setIfInBounds_toArray, List.set_cons_zero, List.set_cons_succ]
            rw [f182]; clear f182
            rw [f8]; clear f8
            have VF := V12.es.bel
            clear V12 V11
            go_wp2_with fail
            go_ret
            exact ⟨rfl, VF⟩
  rw [← hn0.out, ← hn1.out, ← hn2.out]
  exact hzw

set_option maxRecDepth 100000 in
theorem lifted (os : Os) (started : os.Started) (H : Type) (enc : TypeId × Value → H) :
    ReturnsInHanded {} Try.checked os 4 .any (Rows.eventBackSpec.pre6 enc Try.prog Try.f4 Rows.eventBackRow.domain false) (Rows.eventBackSpec.post enc Try.prog Try.f4 false true false false) := by
  refine returnsInHanded_of_change (C := Try.checked) own started (by kernel_rfl) Try.func4
    (ChangeSpec.witness6 (enc := enc) (C := Try.checked) false ⟨#[], #[.slice none 0 0, .slice none 0 0, .slice none 0 0, .int .u16 0], []⟩ 8 (by kernel_rfl) (by kernel_rfl) (by kernel_rfl) (by kernel_rfl)) ?_
  intro W base args ds gs before hval0 hW hcnd _
  have hval : ∀ (j : Nat) t v, Try.f4.params[j]? = some t → args[j]? = some v → Value.okWide Try.prog W .any base t v := hval0
  have hW' := hW
  obtain ⟨p, q, hA0, hV, rfl, hfz, hnd⟩ := hW
  have hA : DataW.TrodAll enc Try.prog W 0 (fun _ => true) true Try.f4.params.toList args.toList ds p := hA0
  rw [Try.params4] at hA hval
  obtain ⟨v0, vs0, d0, ds0, p0, q0, hargs, rfl, rfl, h0, r0⟩ := trodAll_cons hA
  obtain ⟨v1, vs1, d1, ds1, p1, q1, rfl, rfl, rfl, h1, r1⟩ := trodAll_cons r0
  obtain ⟨v2, vs2, d2, ds2, p2, q2, rfl, rfl, rfl, h2, r2⟩ := trodAll_cons r1
  obtain ⟨v3, vs3, d3, ds3, p3, q3, rfl, rfl, rfl, h3, r3⟩ := trodAll_cons r2
  obtain ⟨rfl, rfl, rfl⟩ := trodAll_nil r3
  obtain rfl : args = #[v0, v1, v2, v3] := by cases args; simp_all
  obtain ⟨rfl, rfl⟩ := trodVars_none hV
  obtain ⟨A0, n0, c0, rfl⟩ := okWide_slice Try.underlying32 (hval 0 32 v0 rfl rfl)
  have k0 := h0
  have lt0 : ∀ x ∈ p0, x.block < W.heap.size := by obtain ⟨m, hm⟩ := k0; exact DataW.trod_lt m _ _ _ hm
  obtain ⟨g0, m0, l0, rfl, w0, u0⟩ := open_evs h0
  obtain ⟨A1, n1, c1, rfl⟩ := okWide_slice Try.underlying27 (hval 1 27 v1 rfl rfl)
  have k1 := h1
  have lt1 : ∀ x ∈ p1, x.block < W.heap.size := by obtain ⟨m, hm⟩ := k1; exact DataW.trod_lt m _ _ _ hm
  obtain ⟨z1, x1⟩ : ∃ zs, IsRow .u8 W A1 n1 c1 zs := by
    obtain ⟨fuel, hf⟩ := h1
    rcases open_ints Try.underlying27 Try.underlying5 (by kernel_rfl) hf with ⟨hcs, _⟩ | ⟨x, l, c, zs, hcs, _, hl, hm, hz, _, hcell, hwz⟩
    · simp [Value.cells] at hcs
      obtain ⟨rfl, rfl, rfl⟩ := hcs
      exact ⟨[], .inl ⟨rfl, rfl, rfl, rfl⟩⟩
    · simp [Value.cells] at hcs
      obtain ⟨rfl, rfl, rfl⟩ := hcs
      exact ⟨zs, .inr ⟨_, rfl, hl, hm, by simpa using hz, hcell, hwz⟩⟩
  obtain ⟨b1, rfl, w1, l1, m1⟩ := row_bytes x1
  obtain ⟨A2, n2, c2, rfl⟩ := okWide_slice Try.underlying27 (hval 2 27 v2 rfl rfl)
  have k2 := h2
  have lt2 : ∀ x ∈ p2, x.block < W.heap.size := by obtain ⟨m, hm⟩ := k2; exact DataW.trod_lt m _ _ _ hm
  obtain ⟨z2, x2⟩ : ∃ zs, IsRow .u8 W A2 n2 c2 zs := by
    obtain ⟨fuel, hf⟩ := h2
    rcases open_ints Try.underlying27 Try.underlying5 (by kernel_rfl) hf with ⟨hcs, _⟩ | ⟨x, l, c, zs, hcs, _, hl, hm, hz, _, hcell, hwz⟩
    · simp [Value.cells] at hcs
      obtain ⟨rfl, rfl, rfl⟩ := hcs
      exact ⟨[], .inl ⟨rfl, rfl, rfl, rfl⟩⟩
    · simp [Value.cells] at hcs
      obtain ⟨rfl, rfl, rfl⟩ := hcs
      exact ⟨zs, .inr ⟨_, rfl, hl, hm, by simpa using hz, hcell, hwz⟩⟩
  obtain ⟨b2, rfl, w2, l2, m2⟩ := row_bytes x2
  obtain ⟨a3, rfl, rfl, rfl, w3⟩ := open_int Try.underlying40 (hval 3 40 v3 rfl rfl) h3
  clear hA0 hval0
  refine (walk A0 l0 c0 A1 b1 c1 A2 b2 c2 a3 W w0 u0 g0 m0 w1 l1 m1 w2 l2 m2 w3).mono fun e W' ⟨he, bel⟩ => ?_
  subst he
  exact ⟨_, rfl, _, _, _, [], _, [], hW', trodAll_mk1 (shut_bool Try.underlying4 _), (trodAll_cons_mk (Below.trod laidOut (by kernel_rfl) (of_decide_eq_true (by kernel_rfl)) k0 bel lt0) (trodAll_cons_mk (Below.trod laidOut (by kernel_rfl) (of_decide_eq_true (by kernel_rfl)) k1 bel lt1) (trodAll_cons_mk (Below.trod laidOut (by kernel_rfl) (of_decide_eq_true (by kernel_rfl)) k2 bel lt2) (trodAll_cons_mk (shut_int Try.underlying40 w3) trodAll_mk0)))), rfl, bel.frame _, fun h => by cases h⟩

theorem over : Rows.eventBackRow.holds Try.pinned (OpenSpec.ofChange Rows.eventBackSpec) :=
  OpenClaim.holds_of_wide 4 Try.f4 rfl rfl rfl rfl rfl rfl rfl ⟨rfl, rfl, rfl, rfl, rfl⟩ rfl rfl rfl rfl rfl (by kernel_rfl) Try.func4 (by kernel_rfl)
    (of_decide_eq_true (by kernel_rfl)) (by unfold Func.isWrapper; first | (rw [if_pos (by decide +kernel)]; kernel_rfl) | (rw [if_neg (by decide +kernel)]; exact ⟨rfl, rfl⟩))
    (fun os started H enc _ => lifted os started H enc)

theorem proved : Rows.EventBackSaid := over
#print axioms proved
end Go.Proofs.Ytjihbjjekhncaaa.eventBack
