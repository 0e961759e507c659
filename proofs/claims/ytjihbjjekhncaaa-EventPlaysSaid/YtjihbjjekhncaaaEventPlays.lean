/-
  For every event, all bytes and every place: what is taken, all of it, what may be, an event's bytes and its id are the document's, and no byte is changed; no further conditions.
-/
import Derived.Test.YtjihbjjekhncaaaRows
import Derived.WalkKit
import Derived.ProofKit
import Derived.OpenShut
import Derived.ShutString
import Derived.ChangeOld
import Derived.Below
import Derived.Test.YtjihbjjekhncaaaEvRh
import Derived.Test.YtjihbjjekhncaaaEvS
import Derived.Test.YtjihbjjekhncaaaEvR
import Derived.Deep.DeepCutAuto
namespace Go.Proofs.Ytjihbjjekhncaaa.eventPlays
open Go.ChangeShapes Go.WideShapes Go.ChangeAt Go.RowKit
open Go.ChangeMaps (open_string shut_string)
set_option linter.unusedVariables false

theorem own : ownKnob Try.prog.godebug = none := by kernel_rfl
theorem laidOut : laidOutB Try.prog = true := by kernel_rfl

attribute [local go_sem ↓] exec_loadE exec_storeE exec_allocE exec_buildE exec_buildSlE
theorem takeE_fst (bs : List UInt8) (z : Int) : (takeE bs z).1.ok := by
  unfold takeE
  split
  · exact E0_ok
  · split
    · exact E0_ok
    · split
      · exact ofB_ok _ (by rw [List.length_take, List.length_drop]; omega)
      · exact E0_ok
theorem evsA_len (bs : List UInt8) (n : Nat) (h : bs.length ≤ n) : (evsA bs).length ≤ n := by
  unfold evsA
  cases hA : allE bs with
  | none => simp
  | some l =>
    obtain ⟨h1, h2⟩ := allE_ok bs.length bs l (Nat.le_refl _) hA
    have h3 := flat_len l (fun e he => (h1 e he).1)
    rw [← h2] at h3
    simp; omega

set_option maxRecDepth 100000 in
set_option maxHeartbeats 4000000 in
theorem walk (e0 : Ev) (A1 : Option Addr) (b1 : List UInt8) (c1 : Nat) (a2 : Int) (w : World) (w0 : e0.ok) (w1 : Bytes w w.heap.size A1 b1) (l1 : b1.length ≤ c1) (m1 : c1 ≤ maxLen) (w2 : (Lit.int .i64 a2).wf = true) :
    Calls Try.prog 3 #[.agg (evA e0), .slice A1 b1.length c1, .int .i64 a2] w fun e w' => e = .returned (.bool true) ∧ Below w.heap.size w w' := by
  obtain ⟨n1, hn1⟩ : ∃ n, Hid (n = b1.length) := ⟨_, Lib.hid rfl⟩
  have D1 := Lib.hid w1
  have K0 := Lib.hid w0
  have G1 : Hid (n1 ≤ c1 ∧ c1 ≤ maxLen) := by show _ ∧ _; rw [hn1.out]; exact ⟨l1, m1⟩
  have hzw : Calls Try.prog 3 #[.agg (evA e0), .slice A1 n1 c1, .int .i64 a2] w fun e w' => e = .returned (.bool true) ∧ Below w.heap.size w w' := by
    clear w0 w1 w2 l1 m1
    by_cases h3000 : 3000 < n1
    case pos =>
      have h1 : (3000 : Int) < (n1 : Int) := by omega
      have hba := (Below.refl w.heap.size w).alloc (Nat.le_refl _) (.cells (evA e0) 26)
      go_enter Try.func3, Try.ntmps3
      go_wp2_with fail
      refine (evworks_any _).mono ?_
      rintro _ w2 ⟨rfl, hb⟩
      have VF := hba.trans (hb.mono hba.size)
      go_wp2_with fail
      go_ret
      exact ⟨rfl, VF⟩
    have h1 : ¬ (3000 : Int) < (n1 : Int) := by omega
    have V1 : Hid (Es w (w.alloc (.cells (evA e0) 26)) [(w.heap.size, e0)]) := (Es.nil w).new K0.out.d6 w.heap.size rfl
    have Y1 : Hid (Bytes (w.alloc (.cells (evA e0) 26)) (w.alloc (.cells (evA e0) 26)).heap.size A1 b1) := Bytes.new' D1.out _
    have SM : Hid (([] : List UInt8).length + b1.length ≤ 140737488355328) := by show _ ≤ _; rw [← hn1.out]; simp only [List.length_nil]; omega
    have P1 : Hid (([] : List UInt8) ++ b1 = b1) := rfl
    have N3 : Hid (n1 ≤ 3000) := by show _ ≤ _; omega
    have aE := run_allocE
    clear h3000
    go_enter Try.func3, Try.ntmps3
    go_upto_region 3 with fail
    generalize w.alloc (.cells (evA e0) 26) = v1 at V1 Y1 ⊢
    go_wp2_with (at_builtin; refine wpList_ap2 rfl _ _ rfl rfl v1.heap.size (.slice (some ⟨v1.heap.size, 0, none⟩) 0 0) [] b1 b1 v1.heap.size A1 n1 c1 rfl rfl hn1.out P1.out (OwnB.made v1 _ 5 (Nat.le_refl _)) (Reads.alloc Y1.out (Nat.le_refl _) _) SM.out v1 ((Below.refl _ _).alloc (Nat.le_refl _) _) (by simp) ?_; intro A4 c4 n4 W4 e4 h4 hB4 hl4 hbel4 hs4 hg4; clear hl4 hg4)
    have V4 := Lib.hid (V1.out.next hbel4)
    have Z4 := Lib.hid (Bytes.next' Y1.out hbel4)
    have CP := Lib.hid (own_cap h4)
    have OB := Lib.hid hB4
    clear h4 hB4 hbel4 hs4 V1 Y1
    obtain ⟨⟨x, k, er⟩, hE⟩ : ∃ E, Hid (takeE b1 a2 = E) := ⟨_, Lib.hid rfl⟩
    have XOK : Hid x.ok := by have := takeE_fst b1 a2; rwa [hE.out] at this
    have TK : Hid (∀ (A : Option Addr) (m c : Nat) (W : World), Bytes W W.heap.size A b1 → m = b1.length → m ≤ c → c ≤ maxLen → Calls Try.prog 16 #[.slice A m c, .int .i64 a2] W fun y w' => y = .returned (.tuple #[.agg (evA x), .int .i64 k, .int .i64 er]) ∧ Below W.heap.size W w') := fun A m c W q1 q2 q3 q4 => by
      have := etake_any A m c b1 a2 W q1 q2 q3 q4; rwa [hE.out] at this
    have TK2 : Hid (∀ (A : Option Addr) (m c : Nat) (W : World), Bytes W W.heap.size A b1 → m = b1.length → m ≤ c → c ≤ maxLen → Calls Try.prog 17 #[.slice A m c, .int .i64 a2] W fun y w' => y = .returned (.tuple #[.agg (evA x), .int .i64 k, .int .i64 er]) ∧ Below W.heap.size W w') := fun A m c W q1 q2 q3 q4 => by
      have := ertake_any A m c b1 a2 W q1 q2 q3 q4; rwa [hE.out] at this
    clear hE
    go_wp2_with fail
    refine (TK.out A4 n4 c4 W4 OB.out e4.out CP.out.1 CP.out.2).mono ?_
    rintro _ w5 ⟨rfl, hb⟩
    have V5 := Lib.hid ((V4.out.next hb).new XOK.out.d6 w5.heap.size rfl)
    have Z5 : Hid (Bytes (w5.alloc (.cells (evA x) 26)) (w5.alloc (.cells (evA x) 26)).heap.size A1 b1) := Bytes.new' (Bytes.next' Z4.out hb) _
    have O5 : Hid (Bytes (w5.alloc (.cells (evA x) 26)) (w5.alloc (.cells (evA x) 26)).heap.size A4 b1) := Bytes.new' (Bytes.next' OB.out hb) _
    have s5 := run_storeE_new XOK.out.d6 w5
    clear hb V4 Z4 OB TK
    go_wp2_with fail
    clear s5
    obtain ⟨g5, hg5⟩ : ∃ g, g = w5.heap.size := ⟨_, rfl⟩
    simp only [← hg5] at V5 ⊢
    generalize w5.alloc (.cells (evA x) 26) = v5 at V5 Z5 O5 ⊢
    clear hg5
    refine (TK2.out A1 n1 c1 v5 Z5.out hn1.out G1.out.1 G1.out.2).mono ?_
    rintro _ w6 ⟨rfl, hb⟩
    have V6 := Lib.hid ((V5.out.next hb).new XOK.out.d6 w6.heap.size rfl)
    have Z6' : Hid (Bytes (w6.alloc (.cells (evA x) 26)) (w6.alloc (.cells (evA x) 26)).heap.size A1 b1) := Bytes.new' (Bytes.next' Z5.out hb) _
    have O6 : Hid (Bytes (w6.alloc (.cells (evA x) 26)) (w6.alloc (.cells (evA x) 26)).heap.size A4 b1) := Bytes.new' (Bytes.next' O5.out hb) _
    have s6 := run_storeE_new XOK.out.d6 w6
    clear hb V5 Z5 O5 TK2
    go_wp2_with fail
    clear s6 aE
    obtain ⟨g6, hg6⟩ : ∃ g, g = w6.heap.size := ⟨_, rfl⟩
    simp only [← hg6] at V6 ⊢
    generalize w6.alloc (.cells (evA x) 26) = v6 at V6 Z6' O6 ⊢
    clear hg6
    have N4 : Hid (n4 ≤ 1099511627000) := by show _ ≤ _; have := e4.out; have := hn1.out; have := N3.out; omega
    refine (eall_any A4 n4 c4 b1 v6 O6.out e4.out CP.out.1 CP.out.2 N4.out).mono ?_
    rintro _ w7 ⟨A7, n7, c7, rfl, hn7, hv7, hx7, hy7, hb⟩
    have V7 := Lib.hid (V6.out.next hb)
    have Z7 := Lib.hid (Bytes.next' Z6'.out hb)
    have O7 := Lib.hid (Bytes.next' O6.out hb)
    have E7 := Lib.hid hv7
    have N7 := Lib.hid hn7
    clear hb V6 Z6' O6 hv7 hn7 hx7 hy7
    go_wp2_with fail
    refine (erall_any A1 n1 c1 b1 w7 Z7.out hn1.out G1.out.1 G1.out.2 (by have := N3.out; omega)).mono ?_
    rintro _ w8 ⟨A8, n8, c8, rfl, hn8, hv8, hx8, hy8, hb⟩
    have V8 := Lib.hid (V7.out.next hb)
    have Z8 := Lib.hid (Bytes.next' Z7.out hb)
    have O8 := Lib.hid (Bytes.next' O7.out hb)
    have E8 := Lib.hid ((E7.out.below hb).more hb.size)
    have F8 := Lib.hid hv8
    have N8 := Lib.hid hn8
    clear hb V7 Z7 O7 E7 hv8 hn8 hx8 hy8
    have LEN : Hid ((evsA b1).length ≤ 3000) := evsA_len b1 3000 (by rw [← hn1.out]; exact N3.out)
    have OKS : Hid (∀ e ∈ evsA b1, e.ok) := fun e he => (evsA_ok b1 e he).1
    have SAME := Lib.hid (esame_any A7 A8 n7 n8 c7 c8 (evsA b1) (evsA b1) w8 E8.out F8.out OKS.out OKS.out N7.out N8.out (by rw [N7.out]; have := LEN.out; omega) true (by simp))
    have qx : ∀ W, (Op.equalIn 10000 26 (.agg (evA x)) (.agg (evA x))).run Try.prog W = .ok true W := ev_same XOK.out
    have la := V8.out.load 1 rfl
    have lb := V8.out.load 2 rfl
    generalize errA b1 = ea at *
    clear E8 F8 N7 N8 LEN OKS
    go_wp2_with fail
    refine SAME.out.mono ?_
    rintro _ w9 ⟨rfl, hb⟩
    have V9 := Lib.hid (V8.out.next hb)
    have Z9 := Lib.hid (Bytes.next' Z8.out hb)
    have O9 := Lib.hid (Bytes.next' O8.out hb)
    clear hb V8 Z8 O8 SAME la lb qx
    have st1 := str_at (c := c4) O9.out e4.out
    have st2 := str_at (c := c1) Z9.out hn1.out
    have MF := Lib.hid (emay_any e0 K0.out)
    have MR := Lib.hid (ermay_any e0 K0.out)
    have PF := Lib.hid (eput_any e0 K0.out)
    have PR := Lib.hid (rput_any e0 K0.out)
    have IF : Hid (∀ W, Calls Try.prog 25 #[.agg (evA e0)] W fun y w' => y = .returned (.int .u64 (idE e0)) ∧ Below W.heap.size W w') := fun W => eid_any e0 K0.out.d6 K0.out.s W
    have IR : Hid (∀ W, Calls Try.prog 26 #[.agg (evA e0)] W fun y w' => y = .returned (.int .u64 (idE e0)) ∧ Below W.heap.size W w') := fun W => erid_any e0 K0.out.d6 K0.out.s W
    generalize idE e0 = ie at IF IR
    generalize (if mayE e0 = true then evB e0 else []) = pb at PF PR
    generalize mayE e0 = mm at MF MR
    go_wp2_with fail
    clear st1 st2
    refine wp_region_plan (fun W => Es w W [(w.heap.size, e0), (g5, x), (g6, x)]) Grows [IsV (.agg (evA e0)), IsV (.bool mm), IsV (.agg (evA e0)), IsV (.bool mm), IsV (.bool true), IsV (.bool true), IsV (.agg (evA e0)), SlB (pb), IsV (.string (strB (pb))), IsV (.agg (evA e0)), SlB (pb), IsV (.string (strB (pb))), IsV (.bool true), IsV (.bool true), IsV (.bool true), IsV (.agg (evA e0)), IsV (.int .u64 ie), IsV (.agg (evA e0)), IsV (.int .u64 ie), IsV (.bool true), IsV (.bool true), IsV (.bool true), IsV (.bool true), IsV (.bool true), IsV (.bool true)] ([(3, .pointer (some ⟨w.heap.size, 0, none⟩))] : List (Nat × Value)) (⟨rfl, trivial⟩) (n := 104) (by kernel_rfl) rfl (by kernel_rfl) V9.out.drew Grows.refl (StabAll.get ?_) ?_ ?_
    · repeat (first | exact trivial | refine ⟨stab_c _, ?_⟩ | refine ⟨stab_two _ _, ?_⟩ | refine ⟨stab_slb _, ?_⟩ | refine ⟨fun _ _ _ _ _ _ _ => trivial, ?_⟩)
    · refine ⟨?_, ⟨?_, ⟨?_, ⟨?_, ⟨?_, ⟨?_, ⟨?_, ⟨?_, ⟨?_, ⟨?_, ⟨?_, ⟨?_, ⟨?_, ⟨?_, ⟨?_, ⟨?_, ⟨?_, ⟨?_, ⟨?_, ⟨?_, ⟨?_, ⟨?_, ⟨?_, ⟨?_, ⟨?_, trivial⟩⟩⟩⟩⟩⟩⟩⟩⟩⟩⟩⟩⟩⟩⟩⟩⟩⟩⟩⟩⟩⟩⟩⟩⟩
      · intro a W hS hE hD
        obtain ⟨x3, _⟩ := hE
        have e3 := x3 (by kernel_rfl)
        refine plan_free rfl ?_
        have k3 := e3
        refine plan_value (ex_loadE k3 (hS.nth 0 rfl).d6 (hS.nth 0 rfl).rg) ⟨_, rfl, hS, Grows.refl _, rfl⟩
      · intro a W hS hE hD
        have k80 : a.tmps.getD 80 undef = .agg (evA e0) := hD 0 80 (by kernel_rfl)
        refine plan_free rfl ?_
        refine plan_call (f := 21) (args := #[a.tmps.getD 80 undef]) (by kernel_rfl) ?_
        rw [k80]
        refine (MF.out W).mono ?_
        rintro e W2 ⟨rfl, hb⟩
        refine ⟨_, rfl, _, rfl, hS.next hb, hb, ?_⟩
        exact rfl
      · intro a W hS hE hD
        obtain ⟨x3, _⟩ := hE
        have e3 := x3 (by kernel_rfl)
        refine plan_free rfl ?_
        have k3 := e3
        refine plan_value (ex_loadE k3 (hS.nth 0 rfl).d6 (hS.nth 0 rfl).rg) ⟨_, rfl, hS, Grows.refl _, rfl⟩
      · intro a W hS hE hD
        have k82 : a.tmps.getD 82 undef = .agg (evA e0) := hD 2 82 (by kernel_rfl)
        refine plan_free rfl ?_
        refine plan_call (f := 22) (args := #[a.tmps.getD 82 undef]) (by kernel_rfl) ?_
        rw [k82]
        refine (MR.out W).mono ?_
        rintro e W2 ⟨rfl, hb⟩
        refine ⟨_, rfl, _, rfl, hS.next hb, hb, ?_⟩
        exact rfl
      · intro a W hS hE hD
        have k81 : a.tmps.getD 81 undef = .bool mm := hD 1 81 (by kernel_rfl)
        have k83 : a.tmps.getD 83 undef = .bool mm := hD 3 83 (by kernel_rfl)
        refine plan_free rfl ?_
        refine plan_value (v := .bool true) (w' := W) (by go_simp) ⟨_, rfl, hS, Grows.refl _, rfl⟩
      · intro a W hS hE hD
        have k84 : a.tmps.getD 84 undef = .bool true := hD 4 84 (by kernel_rfl)
        refine plan_free rfl ?_
        refine plan_value ex_move ⟨_, rfl, hS, Grows.refl _, ?_⟩
        exact k84
      · intro a W hS hE hD
        obtain ⟨x3, _⟩ := hE
        have e3 := x3 (by kernel_rfl)
        have k85 : a.tmps.getD 85 undef = .bool true := hD 5 85 (by kernel_rfl)
        refine plan_want rfl (by kernel_rfl) k85 ?_
        have k3 := e3
        refine plan_value (ex_loadE k3 (hS.nth 0 rfl).d6 (hS.nth 0 rfl).rg) ⟨_, rfl, hS, Grows.refl _, rfl⟩
      · intro a W hS hE hD
        have k85 : a.tmps.getD 85 undef = .bool true := hD 5 85 (by kernel_rfl)
        have k86 : a.tmps.getD 86 undef = .agg (evA e0) := hD 6 86 (by kernel_rfl)
        refine plan_want rfl (by kernel_rfl) k85 ?_
        refine plan_call (f := 23) (args := #[a.tmps.getD 86 undef]) (by kernel_rfl) ?_
        rw [k86]
        refine (PF.out W).mono ?_
        rintro e W2 ⟨A, n, c, rfl, hl, ho, hb⟩
        exact ⟨_, rfl, _, rfl, hS.next hb, hb, ⟨A, n, c, rfl, hl, own_bytes ho⟩⟩
      · intro a W hS hE hD
        have k85 : a.tmps.getD 85 undef = .bool true := hD 5 85 (by kernel_rfl)
        obtain ⟨A87, n87, c87, k87, l87, b87⟩ : SlB (pb) (a.tmps.getD 87 undef) W := hD 7 87 (by kernel_rfl)
        refine plan_want rfl (by kernel_rfl) k85 ?_
        refine plan_value (ex_str k87 l87 b87) ⟨_, rfl, hS, Grows.refl _, rfl⟩
      · intro a W hS hE hD
        obtain ⟨x3, _⟩ := hE
        have e3 := x3 (by kernel_rfl)
        have k85 : a.tmps.getD 85 undef = .bool true := hD 5 85 (by kernel_rfl)
        refine plan_want rfl (by kernel_rfl) k85 ?_
        have k3 := e3
        refine plan_value (ex_loadE k3 (hS.nth 0 rfl).d6 (hS.nth 0 rfl).rg) ⟨_, rfl, hS, Grows.refl _, rfl⟩
      · intro a W hS hE hD
        have k85 : a.tmps.getD 85 undef = .bool true := hD 5 85 (by kernel_rfl)
        have k89 : a.tmps.getD 89 undef = .agg (evA e0) := hD 9 89 (by kernel_rfl)
        refine plan_want rfl (by kernel_rfl) k85 ?_
        refine plan_call (f := 24) (args := #[a.tmps.getD 89 undef]) (by kernel_rfl) ?_
        rw [k89]
        refine (PR.out W).mono ?_
        rintro e W2 ⟨A, n, c, rfl, hl, ho, hb⟩
        exact ⟨_, rfl, _, rfl, hS.next hb, hb, ⟨A, n, c, rfl, hl, own_bytes ho⟩⟩
      · intro a W hS hE hD
        have k85 : a.tmps.getD 85 undef = .bool true := hD 5 85 (by kernel_rfl)
        obtain ⟨A90, n90, c90, k90, l90, b90⟩ : SlB (pb) (a.tmps.getD 90 undef) W := hD 10 90 (by kernel_rfl)
        refine plan_want rfl (by kernel_rfl) k85 ?_
        refine plan_value (ex_str k90 l90 b90) ⟨_, rfl, hS, Grows.refl _, rfl⟩
      · intro a W hS hE hD
        have k85 : a.tmps.getD 85 undef = .bool true := hD 5 85 (by kernel_rfl)
        have k88 : a.tmps.getD 88 undef = .string (strB (pb)) := hD 8 88 (by kernel_rfl)
        have k91 : a.tmps.getD 91 undef = .string (strB (pb)) := hD 11 91 (by kernel_rfl)
        refine plan_want rfl (by kernel_rfl) k85 ?_
        refine plan_value (v := .bool true) (w' := W) (by go_simp) ⟨_, rfl, hS, Grows.refl _, rfl⟩
      · intro a W hS hE hD
        have k85 : a.tmps.getD 85 undef = .bool true := hD 5 85 (by kernel_rfl)
        have k92 : a.tmps.getD 92 undef = .bool true := hD 12 92 (by kernel_rfl)
        refine plan_free rfl ?_
        refine plan_value (v := .bool true) (w' := W) (by go_simp) ⟨_, rfl, hS, Grows.refl _, rfl⟩
      · intro a W hS hE hD
        have k93 : a.tmps.getD 93 undef = .bool true := hD 13 93 (by kernel_rfl)
        refine plan_free rfl ?_
        refine plan_value ex_move ⟨_, rfl, hS, Grows.refl _, ?_⟩
        exact k93
      · intro a W hS hE hD
        obtain ⟨x3, _⟩ := hE
        have e3 := x3 (by kernel_rfl)
        have k94 : a.tmps.getD 94 undef = .bool true := hD 14 94 (by kernel_rfl)
        refine plan_want rfl (by kernel_rfl) k94 ?_
        have k3 := e3
        refine plan_value (ex_loadE k3 (hS.nth 0 rfl).d6 (hS.nth 0 rfl).rg) ⟨_, rfl, hS, Grows.refl _, rfl⟩
      · intro a W hS hE hD
        have k94 : a.tmps.getD 94 undef = .bool true := hD 14 94 (by kernel_rfl)
        have k95 : a.tmps.getD 95 undef = .agg (evA e0) := hD 15 95 (by kernel_rfl)
        refine plan_want rfl (by kernel_rfl) k94 ?_
        refine plan_call (f := 25) (args := #[a.tmps.getD 95 undef]) (by kernel_rfl) ?_
        rw [k95]
        refine (IF.out W).mono ?_
        rintro e W2 ⟨rfl, hb⟩
        refine ⟨_, rfl, _, rfl, hS.next hb, hb, ?_⟩
        exact rfl
      · intro a W hS hE hD
        obtain ⟨x3, _⟩ := hE
        have e3 := x3 (by kernel_rfl)
        have k94 : a.tmps.getD 94 undef = .bool true := hD 14 94 (by kernel_rfl)
        refine plan_want rfl (by kernel_rfl) k94 ?_
        have k3 := e3
        refine plan_value (ex_loadE k3 (hS.nth 0 rfl).d6 (hS.nth 0 rfl).rg) ⟨_, rfl, hS, Grows.refl _, rfl⟩
      · intro a W hS hE hD
        have k94 : a.tmps.getD 94 undef = .bool true := hD 14 94 (by kernel_rfl)
        have k97 : a.tmps.getD 97 undef = .agg (evA e0) := hD 17 97 (by kernel_rfl)
        refine plan_want rfl (by kernel_rfl) k94 ?_
        refine plan_call (f := 26) (args := #[a.tmps.getD 97 undef]) (by kernel_rfl) ?_
        rw [k97]
        refine (IR.out W).mono ?_
        rintro e W2 ⟨rfl, hb⟩
        refine ⟨_, rfl, _, rfl, hS.next hb, hb, ?_⟩
        exact rfl
      · intro a W hS hE hD
        have k94 : a.tmps.getD 94 undef = .bool true := hD 14 94 (by kernel_rfl)
        have k96 : a.tmps.getD 96 undef = .int .u64 ie := hD 16 96 (by kernel_rfl)
        have k98 : a.tmps.getD 98 undef = .int .u64 ie := hD 18 98 (by kernel_rfl)
        refine plan_want rfl (by kernel_rfl) k94 ?_
        refine plan_value (v := .bool true) (w' := W) (by go_simp) ⟨_, rfl, hS, Grows.refl _, rfl⟩
      · intro a W hS hE hD
        have k94 : a.tmps.getD 94 undef = .bool true := hD 14 94 (by kernel_rfl)
        have k99 : a.tmps.getD 99 undef = .bool true := hD 19 99 (by kernel_rfl)
        refine plan_free rfl ?_
        refine plan_value (v := .bool true) (w' := W) (by go_simp) ⟨_, rfl, hS, Grows.refl _, rfl⟩
      · intro a W hS hE hD
        have k100 : a.tmps.getD 100 undef = .bool true := hD 20 100 (by kernel_rfl)
        refine plan_free rfl ?_
        refine plan_value ex_move ⟨_, rfl, hS, Grows.refl _, ?_⟩
        exact k100
      · intro a W hS hE hD
        have k101 : a.tmps.getD 101 undef = .bool true := hD 21 101 (by kernel_rfl)
        refine plan_want rfl (by kernel_rfl) k101 ?_
        refine plan_call (f := 15) (args := #[]) (by kernel_rfl) ?_
        refine (evworks_any W).mono ?_
        rintro e W2 ⟨rfl, hb⟩
        refine ⟨_, rfl, _, rfl, hS.next hb, hb, ?_⟩
        exact rfl
      · intro a W hS hE hD
        have k101 : a.tmps.getD 101 undef = .bool true := hD 21 101 (by kernel_rfl)
        have k102 : a.tmps.getD 102 undef = .bool true := hD 22 102 (by kernel_rfl)
        refine plan_free rfl ?_
        refine plan_value (v := .bool true) (w' := W) (by go_simp) ⟨_, rfl, hS, Grows.refl _, rfl⟩
      · intro a W hS hE hD
        have k103 : a.tmps.getD 103 undef = .bool true := hD 23 103 (by kernel_rfl)
        refine plan_free rfl ?_
        refine plan_value ex_assign ⟨_, rfl, hS, Grows.refl _, ?_⟩
        exact k103
    · intro f w11 V11 hE
      have f103 : f 103 = .bool true := Ends.get hE 23 _ rfl 103 rfl
      have f6 : f 6 = .bool true := Ends.get hE 24 _ rfl 6 rfl
      clear hE
      simp only [setAll, List.setIfInBounds_toArray, List.set_cons_zero, List.set_cons_succ]
      rw [f103]; clear f103
      rw [f6]; clear f6
      have VF := V11.bel
      clear V11
      go_wp2_with fail
      go_ret
      exact ⟨rfl, VF⟩
  rw [← hn1.out]
  exact hzw

set_option maxRecDepth 100000 in
theorem lifted (os : Os) (started : os.Started) (H : Type) (enc : TypeId × Value → H) :
    ReturnsInHanded {} Try.checked os 3 .any (Rows.eventPlaysSpec.pre6 enc Try.prog Try.f3 Rows.eventPlaysRow.domain false) (Rows.eventPlaysSpec.post enc Try.prog Try.f3 false true false false) := by
  refine returnsInHanded_of_change (C := Try.checked) own started (by kernel_rfl) Try.func3
    (ChangeSpec.witness6 (enc := enc) (C := Try.checked) false ⟨#[], #[.agg #[.int .i64 0, .int .u64 0, .int .u64 0, .int .u64 0, .int .u64 0, .int .u64 0, .int .u64 0, .int .u64 0, .int .u8 0, .int .u64 0, .int .i64 0, .int .i64 0, .int .u64 0, .int .u64 0], .slice none 0 0, .int .i64 0], []⟩ 8 (by kernel_rfl) (by kernel_rfl) (by kernel_rfl) (by kernel_rfl)) ?_
  intro W base args ds gs before hval0 hW hcnd _
  have hval : ∀ (j : Nat) t v, Try.f3.params[j]? = some t → args[j]? = some v → Value.okWide Try.prog W .any base t v := hval0
  have hW' := hW
  obtain ⟨p, q, hA0, hV, rfl, hfz, hnd⟩ := hW
  have hA : DataW.TrodAll enc Try.prog W 0 (fun _ => true) true Try.f3.params.toList args.toList ds p := hA0
  rw [Try.params3] at hA hval
  obtain ⟨v0, vs0, d0, ds0, p0, q0, hargs, rfl, rfl, h0, r0⟩ := trodAll_cons hA
  obtain ⟨v1, vs1, d1, ds1, p1, q1, rfl, rfl, rfl, h1, r1⟩ := trodAll_cons r0
  obtain ⟨v2, vs2, d2, ds2, p2, q2, rfl, rfl, rfl, h2, r2⟩ := trodAll_cons r1
  obtain ⟨rfl, rfl, rfl⟩ := trodAll_nil r2
  obtain rfl : args = #[v0, v1, v2] := by cases args; simp_all
  obtain ⟨rfl, rfl⟩ := trodVars_none hV
  have k0 := h0
  have lt0 : ∀ x ∈ p0, x.block < W.heap.size := by obtain ⟨m, hm⟩ := k0; exact DataW.trod_lt m _ _ _ hm
  obtain ⟨e0, rfl, w0⟩ := open_ev (hval 0 26 v0 rfl rfl) h0
  obtain ⟨A1, n1, c1, rfl⟩ := okWide_slice Try.underlying27 (hval 1 27 v1 rfl rfl)
  have k1 := h1
  have lt1 : ∀ x ∈ p1, x.block < W.heap.size := by obtain ⟨m, hm⟩ := k1; exact DataW.trod_lt m _ _ _ hm
  obtain ⟨z1, x1⟩ : ∃ zs, IsRow .u8 W A1 n1 c1 zs := by
    obtain ⟨fuel, hf⟩ := h1
    rcases open_ints Try.underlying27 Try.underlying5 (by kernel_rfl) hf with ⟨hcs, _⟩ | ⟨x, l, c, zs, hcs, _, hl, hm, hz, _, hcell, hwz⟩
    · simp [Value.cells] at hcs
      obtain ⟨rfl, rfl, rfl⟩ := hcs
      exact ⟨[], .inl ⟨rfl, rfl, rfl, rfl⟩⟩
    · simp [Value.cells] at hcs
      obtain ⟨rfl, rfl, rfl⟩ := hcs
      exact ⟨zs, .inr ⟨_, rfl, hl, hm, by simpa using hz, hcell, hwz⟩⟩
  obtain ⟨b1, rfl, w1, l1, m1⟩ := row_bytes x1
  obtain ⟨a2, rfl, rfl, rfl, w2⟩ := open_int Try.underlying3 (hval 2 3 v2 rfl rfl) h2
  clear hA0 hval0
  refine (walk e0 A1 b1 c1 a2 W w0 w1 l1 m1 w2).mono fun e W' ⟨he, bel⟩ => ?_
  subst he
  exact ⟨_, rfl, _, _, _, [], _, [], hW', trodAll_mk1 (shut_bool Try.underlying4 _), (trodAll_cons_mk (Below.trod laidOut (by kernel_rfl) (of_decide_eq_true (by kernel_rfl)) k0 bel lt0) (trodAll_cons_mk (Below.trod laidOut (by kernel_rfl) (of_decide_eq_true (by kernel_rfl)) k1 bel lt1) (trodAll_cons_mk (shut_int Try.underlying3 w2) trodAll_mk0))), rfl, bel.frame _, fun h => by cases h⟩

theorem over : Rows.eventPlaysRow.holds Try.pinned (OpenSpec.ofChange Rows.eventPlaysSpec) :=
  OpenClaim.holds_of_wide 3 Try.f3 rfl rfl rfl rfl rfl rfl rfl ⟨rfl, rfl, rfl, rfl, rfl⟩ rfl rfl rfl rfl rfl (by kernel_rfl) Try.func3 (by kernel_rfl)
    (of_decide_eq_true (by kernel_rfl)) (by unfold Func.isWrapper; first | (rw [if_pos (by decide +kernel)]; kernel_rfl) | (rw [if_neg (by decide +kernel)]; exact ⟨rfl, rfl⟩))
    (fun os started H enc _ => lifted os started H enc)

theorem proved : Rows.EventPlaysSaid := over
#print axioms proved
end Go.Proofs.Ytjihbjjekhncaaa.eventPlays
