/-
  For every event, every place and every byte: of an event that may be, with a byte of its bytes turned, there is no event, or another one, whose bytes just those are; no further conditions.
-/
import Derived.Test.YtjihbjjekhncaaaRows
import Derived.WalkKit
import Derived.ProofKit
import Derived.OpenShut
import Derived.ShutString
import Derived.ChangeOld
import Derived.Below
import Derived.Test.YtjihbjjekhncaaaEvTu
import Derived.Deep.DeepCutAuto
namespace Go.Proofs.Ytjihbjjekhncaaa.eventTurned
open Go.ChangeShapes Go.WideShapes Go.ChangeAt Go.RowKit
open Go.ChangeMaps (open_string shut_string)
set_option linter.unusedVariables false

theorem own : ownKnob Try.prog.godebug = none := by kernel_rfl
theorem laidOut : laidOutB Try.prog = true := by kernel_rfl

attribute [local go_sem ↓] exec_loadE exec_storeE exec_allocE exec_buildE

set_option maxRecDepth 100000 in
set_option maxHeartbeats 4000000 in
theorem walk (e0 : Ev) (a1 : Int) (a2 : Int) (w : World) (w0 : e0.ok) (w1 : (Lit.int .u8 a1).wf = true) (w2 : (Lit.int .u8 a2).wf = true) :
    Calls Try.prog 6 #[.agg (evA e0), .int .u8 a1, .int .u8 a2] w fun e w' => e = .returned (.bool true) ∧ Below w.heap.size w w' := by
  have V1 : Es w (w.alloc (.cells (evA e0) 26)) [(w.heap.size, e0)] := (Es.nil w).new w0.d6 w.heap.size rfl
  have l0 := V1.load 0 rfl
  have M0 := Lib.hid (emay_any e0 w0)
  have W0 := Lib.hid w0
  have HV := Lib.hid V1
  clear V1
  cases hm0 : mayE e0
  case false =>
    rw [hm0] at M0
    have PN := Lib.hid (eput_no e0 w0 hm0)
    clear hm0 w0 w1 w2
    go_enter Try.func6, Try.ntmps6
    go_wp2_with fail
    refine (PN.out _).mono ?_
    rintro _ v2 ⟨rfl, hb⟩
    have V2 := HV.out.next hb
    have l1 := V2.load 0 rfl
    have HV2 := Lib.hid V2
    clear hb V2 l0
    go_wp2_with fail
    refine (M0.out _).mono ?_
    rintro _ v3 ⟨rfl, hb⟩
    have HV3 := Lib.hid (HV2.out.next hb)
    clear hb l1
    go_wp2_with fail
    refine (evworks_any _).mono ?_
    rintro _ v4 ⟨rfl, hb⟩
    have VF := (HV3.out.next hb).bel
    clear hb
    go_wp2_with fail
    go_ret
    exact ⟨rfl, VF⟩
  case true =>
    obtain ⟨x1, x2⟩ := wf_u8 w1
    obtain ⟨y1, y2⟩ := wf_u8 w2
    obtain ⟨q, rfl⟩ : ∃ q : Nat, a1 = (q : Int) := ⟨a1.toNat, by omega⟩
    obtain ⟨d, rfl⟩ : ∃ d : UInt8, a2 = (d.toNat : Int) := ⟨UInt8.ofNat a2.toNat, by simp; omega⟩
    have BL := Lib.hid (evB_len w0.d6)
    have hk91 : q % 91 < 91 := Nat.mod_lt _ (by omega)
    have hqk : (q : Int) % 91 = ((q % 91 : Nat) : Int) := by omega
    have hq0 : (0 : Int) ≤ (q : Int) := by omega
    have hq2 : (q : Int) ≤ 255 := by omega
    generalize q % 91 = k at hk91 hqk
    have hkb : k < (evB e0).length := by rw [BL.out]; exact hk91
    obtain ⟨bs2, hbs2⟩ : ∃ b, Hid ((evB e0).set k ((evB e0)[k] ^^^ d) = b) := ⟨_, Lib.hid rfl⟩
    have L2 : Hid (bs2.length = 91) := by show _ = _; rw [← hbs2.out, List.length_set]; exact BL.out
    have OK2 := Lib.hid (ofB_ok bs2 L2.out)
    have ZERO : Hid (d = 0 → bs2 = evB e0) := fun h => by rw [← hbs2.out, h, UInt8.xor_zero, List.set_getElem_self]
    have SAME : Hid (bs2 = evB e0 → d = 0) := fun h => by
      rcases Classical.em (d = 0) with hd | hd
      · exact hd
      · exfalso
        have h2 : bs2[k]? = (evB e0)[k]? := by rw [h]
        rw [← hbs2.out, List.getElem?_set_self hkb, List.getElem?_eq_getElem hkb] at h2
        injection h2 with h2
        exact xor_ne _ _ hd h2
    have BACK := Lib.hid (ofB_evB w0 hm0)
    have MAYE := Lib.hid hm0
    have PU := Lib.hid (eput_yes e0 w0 hm0)
    rw [hm0] at M0
    have hk0 : (0 : Int) ≤ (k : Int) := by omega
    have hk1 : (k : Int) < 91 := by omega
    have VX := Lib.hid (val_xor (evB e0)[k] d)
    have zb : Hid (((d.toNat : Nat) : Int) = 0 ↔ d = 0) := ⟨fun h => by apply UInt8.toNat_inj.1; simpa using h, fun h => by rw [h]; rfl⟩
    clear hm0 w0 w1 w2 x1 x2 y1 y2
    go_enter Try.func6, Try.ntmps6
    go_wp2_with fail
    refine (PU.out _).mono ?_
    rintro _ v2 ⟨A, n, c, rfl, hn, ho, hb⟩
    obtain ⟨g, rfl, hg, hrow⟩ := own_row ho (by rw [BL.out]; omega)
    rw [BL.out] at hn
    subst hn
    have hcp := own_cap ho
    have V2 := HV.out.next hb
    have hgw : w.heap.size + 1 ≤ g := by have : (w.alloc (.cells (evA e0) 26)).heap.size ≤ g := hg; simpa using this
    have l1 := V2.load 0 rfl
    have HV2 := Lib.hid V2
    have HR := Lib.hid hrow
    have HCP := Lib.hid hcp
    have HG := Lib.hid hgw
    clear hb V2 l0 ho hcp hrow hg hgw
    go_wp2_with fail
    refine (M0.out _).mono ?_
    rintro _ v3 ⟨rfl, hb⟩
    have HV3 := Lib.hid (HV2.out.next hb)
    have hr3 := HR.out.below hb HR.out.lt
    have c1 := hr3.cell hkb
    have f1 := hr3.frozen k
    have HR3 := Lib.hid hr3
    clear hb l1 hr3
    generalize (evB e0)[k] = cb at *
    go_wp2_with fail
    go_region
    have ST0 : Eb w (v3.setCell ⟨g, k, none⟩ (.int .u8 (bits .xor .u8 (cb.toNat : Int) (d.toNat : Int)))) [(w.heap.size, e0)] (some ⟨g, 0, none⟩) bs2 := by
      have h1 := HR3.out.set_ (k := k) (by rw [BL.out]; exact hk91) (cb ^^^ d) (.int .u8 (bits .xor .u8 (cb.toNat : Int) (d.toNat : Int))) VX.out
      rw [hbs2.out] at h1
      refine ⟨⟨fun p hp => ?_, HV3.out.bel.setCell (p := ⟨g, k, none⟩) (show w.heap.size ≤ g from by have := HG.out; omega) _⟩, h1.bytes⟩
      rw [List.mem_singleton.1 hp]
      exact (HV3.out.nth 0 rfl).far (show w.heap.size ≠ g from by have := HG.out; omega) _
    have ST := Lib.hid ST0.drew
    clear ST0 c1 f1 VX
    generalize (v3.setCell ⟨g, k, none⟩ (.int .u8 (bits .xor .u8 (cb.toNat : Int) (d.toNat : Int)))).drew = v4 at ST ⊢
    have TK := Lib.hid (etake_any (some ⟨g, 0, none⟩) 91 c bs2 0 v4 ST.out.b L2.out.symm HCP.out.1 HCP.out.2)
    rw [takeE_91 L2.out] at TK
    obtain ⟨f, hf⟩ : ∃ f, Hid (ofB bs2 = f) := ⟨_, Lib.hid rfl⟩
    have FB : Hid (mayE f = true → evB f = bs2) := fun h => by rw [← hf.out] at h ⊢; exact evB_ofB bs2 L2.out h
    rw [hf.out] at TK OK2
    cases hmf : mayE f
    case false =>
      have DN : Hid ((((d.toNat : Nat) : Int) != 0) = true) := by
        have : ¬ d = 0 := fun h => by
          have := ZERO.out h
          rw [← hf.out, this, BACK.out, MAYE.out] at hmf; cases hmf
        have h2 : ¬ ((d.toNat : Nat) : Int) = 0 := fun h => this (zb.out.1 h)
        show _ = _; simpa using h2
      rw [hmf, if_neg (by simp)] at TK
      clear hmf
      go_wp2_with fail
      refine TK.out.mono ?_
      rintro _ v5 ⟨rfl, hb⟩
      have V6 := Lib.hid ((ST.out.next hb).new E0_ok.d6 _ rfl)
      have aE := run_allocE
      have s6 := run_storeE_new E0_ok.d6 v5
      have l6 := V6.out.es.load 1 rfl
      have bE := run_buildE0
      have qe : ∀ W, (Op.equalIn 10000 26 (.agg (evA E0)) (.agg (evA E0))).run Try.prog W = .ok true W := ev_same E0_ok
      have dn := DN.out
      clear hb
      go_wp2_with fail
      refine (evworks_any _).mono ?_
      rintro _ v7 ⟨rfl, hb⟩
      have VF := (V6.out.es.next hb).bel
      clear hb
      go_wp2_with fail
      go_ret
      exact ⟨rfl, VF⟩
    case true =>
      have PUF : Hid (∀ W, Calls Try.prog 23 #[.agg (evA f)] W fun x w' => ∃ A n c, x = .returned (.slice A n c) ∧ n = bs2.length ∧ OwnB w' W.heap.size 5 (.slice A n c) bs2 ∧ Below W.heap.size W w') := by
        intro W; have := eput_yes f OK2.out hmf W; rwa [FB.out hmf] at this
      have MF := Lib.hid (emay_any f OK2.out)
      rw [hmf] at MF
      rw [hmf, if_pos rfl] at TK
      have FE : Hid (f = e0 ↔ d = 0) := ⟨fun h => SAME.out (by rw [← FB.out hmf, h]), fun h => by rw [← hf.out, ZERO.out h, BACK.out]⟩
      clear hmf
      go_wp2_with fail
      refine TK.out.mono ?_
      rintro _ v5 ⟨rfl, hb⟩
      have V6 : Eb w (v5.alloc (.cells (evA f) 26)) [(w.heap.size, e0), (v5.heap.size, f)] (some ⟨g, 0, none⟩) bs2 := (ST.out.next hb).new OK2.out.d6 _ rfl
      have HV6 := Lib.hid V6
      have aE := run_allocE
      have s6 := run_storeE_new OK2.out.d6 v5
      clear hb V6
      by_cases hd : d = 0
      case pos =>
        have qd : ∀ W, (Op.equalIn 10000 26 (.agg (evA f)) (.agg (evA e0))).run Try.prog W = .ok true W := by rw [FE.out.2 hd]; exact ev_same W0.out
        have qz : (((d.toNat : Nat) : Int) == 0) = true := by simpa using zb.out.2 hd
        clear hd
        go_wp2_with fail
        refine wp_region_plan (fun W => Eb w W [(w.heap.size, e0), (v5.heap.size, f)] (some ⟨g, 0, none⟩) bs2) Grows [IsV (.int .i64 91), IsV (.bool true), IsV (.bool true), IsV (.agg (evA f)), IsV (.bool true), IsV (.bool true), IsV (.bool true), IsV (.agg (evA f)), SlB (bs2), IsV (.string (strB (bs2))), IsV (.slice (some ⟨g, 0, none⟩) 91 c), IsV (.string (strB (bs2))), IsV (.bool true), IsV (.bool true), IsV (.bool true), IsV (.agg (evA f)), IsV (.agg (evA e0)), IsV (.bool true), IsV (.int .u8 ((d.toNat : Nat) : Int)), IsV (.bool true), IsV (.bool true), IsV (.bool true), IsV (.bool true), IsV (.bool true), IsV (.bool true), IsV (.bool true)] ([(2, .int .u8 ((d.toNat : Nat) : Int)), (3, .pointer (some ⟨w.heap.size, 0, none⟩)), (7, .slice (some ⟨g, 0, none⟩) 91 c), (8, .pointer (some ⟨v5.heap.size, 0, none⟩)), (9, .int .i64 91)] : List (Nat × Value)) (⟨rfl, rfl, rfl, rfl, rfl, trivial⟩) (n := 93) (by kernel_rfl) rfl (by kernel_rfl) HV6.out.drew Grows.refl (StabAll.get ?_) ?_ ?_
        · repeat (first | exact trivial | refine ⟨stab_c _, ?_⟩ | refine ⟨stab_two _ _, ?_⟩ | refine ⟨stab_slb _, ?_⟩ | refine ⟨fun _ _ _ _ _ _ _ => trivial, ?_⟩)
        · refine ⟨?_, ⟨?_, ⟨?_, ⟨?_, ⟨?_, ⟨?_, ⟨?_, ⟨?_, ⟨?_, ⟨?_, ⟨?_, ⟨?_, ⟨?_, ⟨?_, ⟨?_, ⟨?_, ⟨?_, ⟨?_, ⟨?_, ⟨?_, ⟨?_, ⟨?_, ⟨?_, ⟨?_, ⟨?_, ⟨?_, trivial⟩⟩⟩⟩⟩⟩⟩⟩⟩⟩⟩⟩⟩⟩⟩⟩⟩⟩⟩⟩⟩⟩⟩⟩⟩⟩
          · intro a W hS hE hD
            obtain ⟨_, _, _, _, x9, _⟩ := hE
            have e9 := x9 (by kernel_rfl)
            refine plan_free rfl ?_
            refine plan_value ex_move ⟨_, rfl, hS, Grows.refl _, ?_⟩
            exact e9
          · intro a W hS hE hD
            have k68 : a.tmps.getD 68 undef = .int .i64 91 := hD 0 68 (by kernel_rfl)
            refine plan_free rfl ?_
            refine plan_value (v := .bool true) (w' := W) (by go_simp) ⟨_, rfl, hS, Grows.refl _, rfl⟩
          · intro a W hS hE hD
            have k69 : a.tmps.getD 69 undef = .bool true := hD 1 69 (by kernel_rfl)
            refine plan_free rfl ?_
            refine plan_value ex_move ⟨_, rfl, hS, Grows.refl _, ?_⟩
            exact k69
          · intro a W hS hE hD
            obtain ⟨_, _, _, x8, _, _⟩ := hE
            have e8 := x8 (by kernel_rfl)
            have k70 : a.tmps.getD 70 undef = .bool true := hD 2 70 (by kernel_rfl)
            refine plan_want rfl (by kernel_rfl) k70 ?_
            have k8 := e8
            refine plan_value (ex_loadE k8 (hS.es.nth 1 rfl).d6 (hS.es.nth 1 rfl).rg) ⟨_, rfl, hS, Grows.refl _, rfl⟩
          · intro a W hS hE hD
            have k70 : a.tmps.getD 70 undef = .bool true := hD 2 70 (by kernel_rfl)
            have k71 : a.tmps.getD 71 undef = .agg (evA f) := hD 3 71 (by kernel_rfl)
            refine plan_want rfl (by kernel_rfl) k70 ?_
            refine plan_call (f := 21) (args := #[a.tmps.getD 71 undef]) (by kernel_rfl) ?_
            rw [k71]
            refine (MF.out W).mono ?_
            rintro e W2 ⟨rfl, hb⟩
            refine ⟨_, rfl, _, rfl, hS.next hb, hb, ?_⟩
            exact rfl
          · intro a W hS hE hD
            have k70 : a.tmps.getD 70 undef = .bool true := hD 2 70 (by kernel_rfl)
            have k72 : a.tmps.getD 72 undef = .bool true := hD 4 72 (by kernel_rfl)
            refine plan_free rfl ?_
            refine plan_value (v := .bool true) (w' := W) (by go_simp) ⟨_, rfl, hS, Grows.refl _, rfl⟩
          · intro a W hS hE hD
            have k73 : a.tmps.getD 73 undef = .bool true := hD 5 73 (by kernel_rfl)
            refine plan_free rfl ?_
            refine plan_value ex_move ⟨_, rfl, hS, Grows.refl _, ?_⟩
            exact k73
          · intro a W hS hE hD
            obtain ⟨_, _, _, x8, _, _⟩ := hE
            have e8 := x8 (by kernel_rfl)
            have k74 : a.tmps.getD 74 undef = .bool true := hD 6 74 (by kernel_rfl)
            refine plan_want rfl (by kernel_rfl) k74 ?_
            have k8 := e8
            refine plan_value (ex_loadE k8 (hS.es.nth 1 rfl).d6 (hS.es.nth 1 rfl).rg) ⟨_, rfl, hS, Grows.refl _, rfl⟩
          · intro a W hS hE hD
            have k74 : a.tmps.getD 74 undef = .bool true := hD 6 74 (by kernel_rfl)
            have k75 : a.tmps.getD 75 undef = .agg (evA f) := hD 7 75 (by kernel_rfl)
            refine plan_want rfl (by kernel_rfl) k74 ?_
            refine plan_call (f := 23) (args := #[a.tmps.getD 75 undef]) (by kernel_rfl) ?_
            rw [k75]
            refine (PUF.out W).mono ?_
            rintro e W2 ⟨A, n, c, rfl, hl, ho, hb⟩
            exact ⟨_, rfl, _, rfl, hS.next hb, hb, ⟨A, n, c, rfl, hl, own_bytes ho⟩⟩
          · intro a W hS hE hD
            have k74 : a.tmps.getD 74 undef = .bool true := hD 6 74 (by kernel_rfl)
            obtain ⟨A76, n76, c76, k76, l76, b76⟩ : SlB (bs2) (a.tmps.getD 76 undef) W := hD 8 76 (by kernel_rfl)
            refine plan_want rfl (by kernel_rfl) k74 ?_
            refine plan_value (ex_str k76 l76 b76) ⟨_, rfl, hS, Grows.refl _, rfl⟩
          · intro a W hS hE hD
            obtain ⟨_, _, x7, _, _, _⟩ := hE
            have e7 := x7 (by kernel_rfl)
            have k74 : a.tmps.getD 74 undef = .bool true := hD 6 74 (by kernel_rfl)
            refine plan_want rfl (by kernel_rfl) k74 ?_
            refine plan_value ex_move ⟨_, rfl, hS, Grows.refl _, ?_⟩
            exact e7
          · intro a W hS hE hD
            have k74 : a.tmps.getD 74 undef = .bool true := hD 6 74 (by kernel_rfl)
            have k78 : a.tmps.getD 78 undef = .slice (some ⟨g, 0, none⟩) 91 c := hD 10 78 (by kernel_rfl)
            refine plan_want rfl (by kernel_rfl) k74 ?_
            refine plan_value (ex_str k78 L2.out.symm (hS.b)) ⟨_, rfl, hS, Grows.refl _, rfl⟩
          · intro a W hS hE hD
            have k74 : a.tmps.getD 74 undef = .bool true := hD 6 74 (by kernel_rfl)
            have k77 : a.tmps.getD 77 undef = .string (strB (bs2)) := hD 9 77 (by kernel_rfl)
            have k79 : a.tmps.getD 79 undef = .string (strB (bs2)) := hD 11 79 (by kernel_rfl)
            refine plan_want rfl (by kernel_rfl) k74 ?_
            refine plan_value (v := .bool true) (w' := W) (by go_simp) ⟨_, rfl, hS, Grows.refl _, rfl⟩
          · intro a W hS hE hD
            have k74 : a.tmps.getD 74 undef = .bool true := hD 6 74 (by kernel_rfl)
            have k80 : a.tmps.getD 80 undef = .bool true := hD 12 80 (by kernel_rfl)
            refine plan_free rfl ?_
            refine plan_value (v := .bool true) (w' := W) (by go_simp) ⟨_, rfl, hS, Grows.refl _, rfl⟩
          · intro a W hS hE hD
            have k81 : a.tmps.getD 81 undef = .bool true := hD 13 81 (by kernel_rfl)
            refine plan_free rfl ?_
            refine plan_value ex_move ⟨_, rfl, hS, Grows.refl _, ?_⟩
            exact k81
          · intro a W hS hE hD
            obtain ⟨_, _, _, x8, _, _⟩ := hE
            have e8 := x8 (by kernel_rfl)
            have k82 : a.tmps.getD 82 undef = .bool true := hD 14 82 (by kernel_rfl)
            refine plan_want rfl (by kernel_rfl) k82 ?_
            have k8 := e8
            refine plan_value (ex_loadE k8 (hS.es.nth 1 rfl).d6 (hS.es.nth 1 rfl).rg) ⟨_, rfl, hS, Grows.refl _, rfl⟩
          · intro a W hS hE hD
            obtain ⟨_, x3, _, _, _, _⟩ := hE
            have e3 := x3 (by kernel_rfl)
            have k82 : a.tmps.getD 82 undef = .bool true := hD 14 82 (by kernel_rfl)
            refine plan_want rfl (by kernel_rfl) k82 ?_
            have k3 := e3
            refine plan_value (ex_loadE k3 (hS.es.nth 0 rfl).d6 (hS.es.nth 0 rfl).rg) ⟨_, rfl, hS, Grows.refl _, rfl⟩
          · intro a W hS hE hD
            have k82 : a.tmps.getD 82 undef = .bool true := hD 14 82 (by kernel_rfl)
            have k83 : a.tmps.getD 83 undef = .agg (evA f) := hD 15 83 (by kernel_rfl)
            have k84 : a.tmps.getD 84 undef = .agg (evA e0) := hD 16 84 (by kernel_rfl)
            refine plan_want rfl (by kernel_rfl) k82 ?_
            refine plan_value (v := .bool true) (w' := W) (by go_simp) ⟨_, rfl, hS, Grows.refl _, rfl⟩
          · intro a W hS hE hD
            obtain ⟨x2, _, _, _, _, _⟩ := hE
            have e2 := x2 (by kernel_rfl)
            have k82 : a.tmps.getD 82 undef = .bool true := hD 14 82 (by kernel_rfl)
            refine plan_want rfl (by kernel_rfl) k82 ?_
            refine plan_value ex_move ⟨_, rfl, hS, Grows.refl _, ?_⟩
            exact e2
          · intro a W hS hE hD
            have k82 : a.tmps.getD 82 undef = .bool true := hD 14 82 (by kernel_rfl)
            have k86 : a.tmps.getD 86 undef = .int .u8 ((d.toNat : Nat) : Int) := hD 18 86 (by kernel_rfl)
            refine plan_want rfl (by kernel_rfl) k82 ?_
            refine plan_value (v := .bool true) (w' := W) (by go_simp) ⟨_, rfl, hS, Grows.refl _, rfl⟩
          · intro a W hS hE hD
            have k82 : a.tmps.getD 82 undef = .bool true := hD 14 82 (by kernel_rfl)
            have k85 : a.tmps.getD 85 undef = .bool true := hD 17 85 (by kernel_rfl)
            have k87 : a.tmps.getD 87 undef = .bool true := hD 19 87 (by kernel_rfl)
            refine plan_want rfl (by kernel_rfl) k82 ?_
            refine plan_value (v := .bool true) (w' := W) (by go_simp) ⟨_, rfl, hS, Grows.refl _, rfl⟩
          · intro a W hS hE hD
            have k82 : a.tmps.getD 82 undef = .bool true := hD 14 82 (by kernel_rfl)
            have k88 : a.tmps.getD 88 undef = .bool true := hD 20 88 (by kernel_rfl)
            refine plan_free rfl ?_
            refine plan_value (v := .bool true) (w' := W) (by go_simp) ⟨_, rfl, hS, Grows.refl _, rfl⟩
          · intro a W hS hE hD
            have k89 : a.tmps.getD 89 undef = .bool true := hD 21 89 (by kernel_rfl)
            refine plan_free rfl ?_
            refine plan_value ex_move ⟨_, rfl, hS, Grows.refl _, ?_⟩
            exact k89
          · intro a W hS hE hD
            have k90 : a.tmps.getD 90 undef = .bool true := hD 22 90 (by kernel_rfl)
            refine plan_want rfl (by kernel_rfl) k90 ?_
            refine plan_call (f := 15) (args := #[]) (by kernel_rfl) ?_
            refine (evworks_any W).mono ?_
            rintro e W2 ⟨rfl, hb⟩
            refine ⟨_, rfl, _, rfl, hS.next hb, hb, ?_⟩
            exact rfl
          · intro a W hS hE hD
            have k90 : a.tmps.getD 90 undef = .bool true := hD 22 90 (by kernel_rfl)
            have k91 : a.tmps.getD 91 undef = .bool true := hD 23 91 (by kernel_rfl)
            refine plan_free rfl ?_
            refine plan_value (v := .bool true) (w' := W) (by go_simp) ⟨_, rfl, hS, Grows.refl _, rfl⟩
          · intro a W hS hE hD
            have k92 : a.tmps.getD 92 undef = .bool true := hD 24 92 (by kernel_rfl)
            refine plan_free rfl ?_
            refine plan_value ex_assign ⟨_, rfl, hS, Grows.refl _, ?_⟩
            exact k92
        · intro f w9 V9 hE
          have f92 : f 92 = .bool true := Ends.get hE 24 _ rfl 92 rfl
          have f6 : f 6 = .bool true := Ends.get hE 25 _ rfl 6 rfl
          clear hE
          simp only [setAll, List.setIfInBounds_toArray, List.set_cons_zero, List.set_cons_succ]
          rw [f92]; clear f92
          rw [f6]; clear f6
          have VF := V9.es.bel
          clear V9
          go_wp2_with fail
          go_ret
          exact ⟨rfl, VF⟩
      case neg =>
        have qd : ∀ W, (Op.equalIn 10000 26 (.agg (evA f)) (.agg (evA e0))).run Try.prog W = .ok false W := ev_diff OK2.out W0.out (fun x => hd (FE.out.1 x))
        have qz : (((d.toNat : Nat) : Int) == 0) = false := by have h2 : ¬ ((d.toNat : Nat) : Int) = 0 := fun h => hd (zb.out.1 h); simpa using h2
        clear hd
        go_wp2_with fail
        refine wp_region_plan (fun W => Eb w W [(w.heap.size, e0), (v5.heap.size, f)] (some ⟨g, 0, none⟩) bs2) Grows [IsV (.int .i64 91), IsV (.bool true), IsV (.bool true), IsV (.agg (evA f)), IsV (.bool true), IsV (.bool true), IsV (.bool true), IsV (.agg (evA f)), SlB (bs2), IsV (.string (strB (bs2))), IsV (.slice (some ⟨g, 0, none⟩) 91 c), IsV (.string (strB (bs2))), IsV (.bool true), IsV (.bool true), IsV (.bool true), IsV (.agg (evA f)), IsV (.agg (evA e0)), IsV (.bool false), IsV (.int .u8 ((d.toNat : Nat) : Int)), IsV (.bool false), IsV (.bool true), IsV (.bool true), IsV (.bool true), IsV (.bool true), IsV (.bool true), IsV (.bool true)] ([(2, .int .u8 ((d.toNat : Nat) : Int)), (3, .pointer (some ⟨w.heap.size, 0, none⟩)), (7, .slice (some ⟨g, 0, none⟩) 91 c), (8, .pointer (some ⟨v5.heap.size, 0, none⟩)), (9, .int .i64 91)] : List (Nat × Value)) (⟨rfl, rfl, rfl, rfl, rfl, trivial⟩) (n := 93) (by kernel_rfl) rfl (by kernel_rfl) HV6.out.drew Grows.refl (StabAll.get ?_) ?_ ?_
        · repeat (first | exact trivial | refine ⟨stab_c _, ?_⟩ | refine ⟨stab_two _ _, ?_⟩ | refine ⟨stab_slb _, ?_⟩ | refine ⟨fun _ _ _ _ _ _ _ => trivial, ?_⟩)
        · refine ⟨?_, ⟨?_, ⟨?_, ⟨?_, ⟨?_, ⟨?_, ⟨?_, ⟨?_, ⟨?_, ⟨?_, ⟨?_, ⟨?_, ⟨?_, ⟨?_, ⟨?_, ⟨?_, ⟨?_, ⟨?_, ⟨?_, ⟨?_, ⟨?_, ⟨?_, ⟨?_, ⟨?_, ⟨?_, ⟨?_, trivial⟩⟩⟩⟩⟩⟩⟩⟩⟩⟩⟩⟩⟩⟩⟩⟩⟩⟩⟩⟩⟩⟩⟩⟩⟩⟩
          · intro a W hS hE hD
            obtain ⟨_, _, _, _, x9, _⟩ := hE
            have e9 := x9 (by kernel_rfl)
            refine plan_free rfl ?_
            refine plan_value ex_move ⟨_, rfl, hS, Grows.refl _, ?_⟩
            exact e9
          · intro a W hS hE hD
            have k68 : a.tmps.getD 68 undef = .int .i64 91 := hD 0 68 (by kernel_rfl)
            refine plan_free rfl ?_
            refine plan_value (v := .bool true) (w' := W) (by go_simp) ⟨_, rfl, hS, Grows.refl _, rfl⟩
          · intro a W hS hE hD
            have k69 : a.tmps.getD 69 undef = .bool true := hD 1 69 (by kernel_rfl)
            refine plan_free rfl ?_
            refine plan_value ex_move ⟨_, rfl, hS, Grows.refl _, ?_⟩
            exact k69
          · intro a W hS hE hD
            obtain ⟨_, _, _, x8, _, _⟩ := hE
            have e8 := x8 (by kernel_rfl)
            have k70 : a.tmps.getD 70 undef = .bool true := hD 2 70 (by kernel_rfl)
            refine plan_want rfl (by kernel_rfl) k70 ?_
            have k8 := e8
            refine plan_value (ex_loadE k8 (hS.es.nth 1 rfl).d6 (hS.es.nth 1 rfl).rg) ⟨_, rfl, hS, Grows.refl _, rfl⟩
          · intro a W hS hE hD
            have k70 : a.tmps.getD 70 undef = .bool true := hD 2 70 (by kernel_rfl)
            have k71 : a.tmps.getD 71 undef = .agg (evA f) := hD 3 71 (by kernel_rfl)
            refine plan_want rfl (by kernel_rfl) k70 ?_
            refine plan_call (f := 21) (args := #[a.tmps.getD 71 undef]) (by kernel_rfl) ?_
            rw [k71]
            refine (MF.out W).mono ?_
            rintro e W2 ⟨rfl, hb⟩
            refine ⟨_, rfl, _, rfl, hS.next hb, hb, ?_⟩
            exact rfl
          · intro a W hS hE hD
            have k70 : a.tmps.getD 70 undef = .bool true := hD 2 70 (by kernel_rfl)
            have k72 : a.tmps.getD 72 undef = .bool true := hD 4 72 (by kernel_rfl)
            refine plan_free rfl ?_
            refine plan_value (v := .bool true) (w' := W) (by go_simp) ⟨_, rfl, hS, Grows.refl _, rfl⟩
          · intro a W hS hE hD
            have k73 : a.tmps.getD 73 undef = .bool true := hD 5 73 (by kernel_rfl)
            refine plan_free rfl ?_
            refine plan_value ex_move ⟨_, rfl, hS, Grows.refl _, ?_⟩
            exact k73
          · intro a W hS hE hD
            obtain ⟨_, _, _, x8, _, _⟩ := hE
            have e8 := x8 (by kernel_rfl)
            have k74 : a.tmps.getD 74 undef = .bool true := hD 6 74 (by kernel_rfl)
            refine plan_want rfl (by kernel_rfl) k74 ?_
            have k8 := e8
            refine plan_value (ex_loadE k8 (hS.es.nth 1 rfl).d6 (hS.es.nth 1 rfl).rg) ⟨_, rfl, hS, Grows.refl _, rfl⟩
          · intro a W hS hE hD
            have k74 : a.tmps.getD 74 undef = .bool true := hD 6 74 (by kernel_rfl)
            have k75 : a.tmps.getD 75 undef = .agg (evA f) := hD 7 75 (by kernel_rfl)
            refine plan_want rfl (by kernel_rfl) k74 ?_
            refine plan_call (f := 23) (args := #[a.tmps.getD 75 undef]) (by kernel_rfl) ?_
            rw [k75]
            refine (PUF.out W).mono ?_
            rintro e W2 ⟨A, n, c, rfl, hl, ho, hb⟩
            exact ⟨_, rfl, _, rfl, hS.next hb, hb, ⟨A, n, c, rfl, hl, own_bytes ho⟩⟩
          · intro a W hS hE hD
            have k74 : a.tmps.getD 74 undef = .bool true := hD 6 74 (by kernel_rfl)
            obtain ⟨A76, n76, c76, k76, l76, b76⟩ : SlB (bs2) (a.tmps.getD 76 undef) W := hD 8 76 (by kernel_rfl)
            refine plan_want rfl (by kernel_rfl) k74 ?_
            refine plan_value (ex_str k76 l76 b76) ⟨_, rfl, hS, Grows.refl _, rfl⟩
          · intro a W hS hE hD
            obtain ⟨_, _, x7, _, _, _⟩ := hE
            have e7 := x7 (by kernel_rfl)
            have k74 : a.tmps.getD 74 undef = .bool true := hD 6 74 (by kernel_rfl)
            refine plan_want rfl (by kernel_rfl) k74 ?_
            refine plan_value ex_move ⟨_, rfl, hS, Grows.refl _, ?_⟩
            exact e7
          · intro a W hS hE hD
            have k74 : a.tmps.getD 74 undef = .bool true := hD 6 74 (by kernel_rfl)
            have k78 : a.tmps.getD 78 undef = .slice (some ⟨g, 0, none⟩) 91 c := hD 10 78 (by kernel_rfl)
            refine plan_want rfl (by kernel_rfl) k74 ?_
            refine plan_value (ex_str k78 L2.out.symm (hS.b)) ⟨_, rfl, hS, Grows.refl _, rfl⟩
          · intro a W hS hE hD
            have k74 : a.tmps.getD 74 undef = .bool true := hD 6 74 (by kernel_rfl)
            have k77 : a.tmps.getD 77 undef = .string (strB (bs2)) := hD 9 77 (by kernel_rfl)
            have k79 : a.tmps.getD 79 undef = .string (strB (bs2)) := hD 11 79 (by kernel_rfl)
            refine plan_want rfl (by kernel_rfl) k74 ?_
            refine plan_value (v := .bool true) (w' := W) (by go_simp) ⟨_, rfl, hS, Grows.refl _, rfl⟩
          · intro a W hS hE hD
            have k74 : a.tmps.getD 74 undef = .bool true := hD 6 74 (by kernel_rfl)
            have k80 : a.tmps.getD 80 undef = .bool true := hD 12 80 (by kernel_rfl)
            refine plan_free rfl ?_
            refine plan_value (v := .bool true) (w' := W) (by go_simp) ⟨_, rfl, hS, Grows.refl _, rfl⟩
          · intro a W hS hE hD
            have k81 : a.tmps.getD 81 undef = .bool true := hD 13 81 (by kernel_rfl)
            refine plan_free rfl ?_
            refine plan_value ex_move ⟨_, rfl, hS, Grows.refl _, ?_⟩
            exact k81
          · intro a W hS hE hD
            obtain ⟨_, _, _, x8, _, _⟩ := hE
            have e8 := x8 (by kernel_rfl)
            have k82 : a.tmps.getD 82 undef = .bool true := hD 14 82 (by kernel_rfl)
            refine plan_want rfl (by kernel_rfl) k82 ?_
            have k8 := e8
            refine plan_value (ex_loadE k8 (hS.es.nth 1 rfl).d6 (hS.es.nth 1 rfl).rg) ⟨_, rfl, hS, Grows.refl _, rfl⟩
          · intro a W hS hE hD
            obtain ⟨_, x3, _, _, _, _⟩ := hE
            have e3 := x3 (by kernel_rfl)
            have k82 : a.tmps.getD 82 undef = .bool true := hD 14 82 (by kernel_rfl)
            refine plan_want rfl (by kernel_rfl) k82 ?_
            have k3 := e3
            refine plan_value (ex_loadE k3 (hS.es.nth 0 rfl).d6 (hS.es.nth 0 rfl).rg) ⟨_, rfl, hS, Grows.refl _, rfl⟩
          · intro a W hS hE hD
            have k82 : a.tmps.getD 82 undef = .bool true := hD 14 82 (by kernel_rfl)
            have k83 : a.tmps.getD 83 undef = .agg (evA f) := hD 15 83 (by kernel_rfl)
            have k84 : a.tmps.getD 84 undef = .agg (evA e0) := hD 16 84 (by kernel_rfl)
            refine plan_want rfl (by kernel_rfl) k82 ?_
            refine plan_value (v := .bool false) (w' := W) (by go_simp) ⟨_, rfl, hS, Grows.refl _, rfl⟩
          · intro a W hS hE hD
            obtain ⟨x2, _, _, _, _, _⟩ := hE
            have e2 := x2 (by kernel_rfl)
            have k82 : a.tmps.getD 82 undef = .bool true := hD 14 82 (by kernel_rfl)
            refine plan_want rfl (by kernel_rfl) k82 ?_
            refine plan_value ex_move ⟨_, rfl, hS, Grows.refl _, ?_⟩
            exact e2
          · intro a W hS hE hD
            have k82 : a.tmps.getD 82 undef = .bool true := hD 14 82 (by kernel_rfl)
            have k86 : a.tmps.getD 86 undef = .int .u8 ((d.toNat : Nat) : Int) := hD 18 86 (by kernel_rfl)
            refine plan_want rfl (by kernel_rfl) k82 ?_
            refine plan_value (v := .bool false) (w' := W) (by go_simp) ⟨_, rfl, hS, Grows.refl _, rfl⟩
          · intro a W hS hE hD
            have k82 : a.tmps.getD 82 undef = .bool true := hD 14 82 (by kernel_rfl)
            have k85 : a.tmps.getD 85 undef = .bool false := hD 17 85 (by kernel_rfl)
            have k87 : a.tmps.getD 87 undef = .bool false := hD 19 87 (by kernel_rfl)
            refine plan_want rfl (by kernel_rfl) k82 ?_
            refine plan_value (v := .bool true) (w' := W) (by go_simp) ⟨_, rfl, hS, Grows.refl _, rfl⟩
          · intro a W hS hE hD
            have k82 : a.tmps.getD 82 undef = .bool true := hD 14 82 (by kernel_rfl)
            have k88 : a.tmps.getD 88 undef = .bool true := hD 20 88 (by kernel_rfl)
            refine plan_free rfl ?_
            refine plan_value (v := .bool true) (w' := W) (by go_simp) ⟨_, rfl, hS, Grows.refl _, rfl⟩
          · intro a W hS hE hD
            have k89 : a.tmps.getD 89 undef = .bool true := hD 21 89 (by kernel_rfl)
            refine plan_free rfl ?_
            refine plan_value ex_move ⟨_, rfl, hS, Grows.refl _, ?_⟩
            exact k89
          · intro a W hS hE hD
            have k90 : a.tmps.getD 90 undef = .bool true := hD 22 90 (by kernel_rfl)
            refine plan_want rfl (by kernel_rfl) k90 ?_
            refine plan_call (f := 15) (args := #[]) (by kernel_rfl) ?_
            refine (evworks_any W).mono ?_
            rintro e W2 ⟨rfl, hb⟩
            refine ⟨_, rfl, _, rfl, hS.next hb, hb, ?_⟩
            exact rfl
          · intro a W hS hE hD
            have k90 : a.tmps.getD 90 undef = .bool true := hD 22 90 (by kernel_rfl)
            have k91 : a.tmps.getD 91 undef = .bool true := hD 23 91 (by kernel_rfl)
            refine plan_free rfl ?_
            refine plan_value (v := .bool true) (w' := W) (by go_simp) ⟨_, rfl, hS, Grows.refl _, rfl⟩
          · intro a W hS hE hD
            have k92 : a.tmps.getD 92 undef = .bool true := hD 24 92 (by kernel_rfl)
            refine plan_free rfl ?_
            refine plan_value ex_assign ⟨_, rfl, hS, Grows.refl _, ?_⟩
            exact k92
        · intro f w9 V9 hE
          have f92 : f 92 = .bool true := Ends.get hE 24 _ rfl 92 rfl
          have f6 : f 6 = .bool true := Ends.get hE 25 _ rfl 6 rfl
          clear hE
          simp only [setAll, List.setIfInBounds_toArray, List.set_cons_zero, List.set_cons_succ]
          rw [f92]; clear f92
          rw [f6]; clear f6
          have VF := V9.es.bel
          clear V9
          go_wp2_with fail
          go_ret
          exact ⟨rfl, VF⟩

set_option maxRecDepth 100000 in
theorem lifted (os : Os) (started : os.Started) (H : Type) (enc : TypeId × Value → H) :
    ReturnsInHanded {} Try.checked os 6 .any (Rows.eventTurnedSpec.pre6 enc Try.prog Try.f6 Rows.eventTurnedRow.domain false) (Rows.eventTurnedSpec.post enc Try.prog Try.f6 false true false false) := by
  refine returnsInHanded_of_change (C := Try.checked) own started (by kernel_rfl) Try.func6
    (ChangeSpec.witness6 (enc := enc) (C := Try.checked) false ⟨#[], #[.agg #[.int .i64 0, .int .u64 0, .int .u64 0, .int .u64 0, .int .u64 0, .int .u64 0, .int .u64 0, .int .u64 0, .int .u8 0, .int .u64 0, .int .i64 0, .int .i64 0, .int .u64 0, .int .u64 0], .int .u8 0, .int .u8 0], []⟩ 8 (by kernel_rfl) (by kernel_rfl) (by kernel_rfl) (by kernel_rfl)) ?_
  intro W base args ds gs before hval0 hW hcnd _
  have hval : ∀ (j : Nat) t v, Try.f6.params[j]? = some t → args[j]? = some v → Value.okWide Try.prog W .any base t v := hval0
  have hW' := hW
  obtain ⟨p, q, hA0, hV, rfl, hfz, hnd⟩ := hW
  have hA : DataW.TrodAll enc Try.prog W 0 (fun _ => true) true Try.f6.params.toList args.toList ds p := hA0
  rw [Try.params6] at hA hval
  obtain ⟨v0, vs0, d0, ds0, p0, q0, hargs, rfl, rfl, h0, r0⟩ := trodAll_cons hA
  obtain ⟨v1, vs1, d1, ds1, p1, q1, rfl, rfl, rfl, h1, r1⟩ := trodAll_cons r0
  obtain ⟨v2, vs2, d2, ds2, p2, q2, rfl, rfl, rfl, h2, r2⟩ := trodAll_cons r1
  obtain ⟨rfl, rfl, rfl⟩ := trodAll_nil r2
  obtain rfl : args = #[v0, v1, v2] := by cases args; simp_all
  obtain ⟨rfl, rfl⟩ := trodVars_none hV
  have k0 := h0
  have lt0 : ∀ x ∈ p0, x.block < W.heap.size := by obtain ⟨m, hm⟩ := k0; exact DataW.trod_lt m _ _ _ hm
  obtain ⟨e0, rfl, w0⟩ := open_ev (hval 0 26 v0 rfl rfl) h0
  obtain ⟨a1, rfl, rfl, rfl, w1⟩ := open_int Try.underlying5 (hval 1 5 v1 rfl rfl) h1
  obtain ⟨a2, rfl, rfl, rfl, w2⟩ := open_int Try.underlying5 (hval 2 5 v2 rfl rfl) h2
  clear hA0 hval0
  refine (walk e0 a1 a2 W w0 w1 w2).mono fun e W' ⟨he, bel⟩ => ?_
  subst he
  exact ⟨_, rfl, _, _, _, [], _, [], hW', trodAll_mk1 (shut_bool Try.underlying4 _), (trodAll_cons_mk (Below.trod laidOut (by kernel_rfl) (of_decide_eq_true (by kernel_rfl)) k0 bel lt0) (trodAll_cons_mk (shut_int Try.underlying5 w1) (trodAll_cons_mk (shut_int Try.underlying5 w2) trodAll_mk0))), rfl, bel.frame _, fun h => by cases h⟩

theorem over : Rows.eventTurnedRow.holds Try.pinned (OpenSpec.ofChange Rows.eventTurnedSpec) :=
  OpenClaim.holds_of_wide 6 Try.f6 rfl rfl rfl rfl rfl rfl rfl ⟨rfl, rfl, rfl, rfl, rfl⟩ rfl rfl rfl rfl rfl (by kernel_rfl) Try.func6 (by kernel_rfl)
    (of_decide_eq_true (by kernel_rfl)) (by unfold Func.isWrapper; first | (rw [if_pos (by decide +kernel)]; kernel_rfl) | (rw [if_neg (by decide +kernel)]; exact ⟨rfl, rfl⟩))
    (fun os started H enc _ => lifted os started H enc)

theorem proved : Rows.EventTurnedSaid := over
#print axioms proved
end Go.Proofs.Ytjihbjjekhncaaa.eventTurned
