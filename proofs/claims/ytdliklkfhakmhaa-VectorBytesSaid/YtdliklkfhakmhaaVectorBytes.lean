/-
  For every vector, and any bytes: the vector's bytes and the bytes' vector are the document's, what was made bytes is the same vector again just if it may be, and what is read as a vector has just these bytes; no further conditions.
-/
import Derived.Test.YtdliklkfhakmhaaRows
import Derived.WalkKit
import Derived.ProofKit
import Derived.OpenShut
import Derived.ShutString
import Derived.ChangeOld
import Derived.Below
import Derived.Test.YtdliklkfhakmhaaBysP
import Derived.Deep.DeepCutAuto
namespace Go.Proofs.Ytdliklkfhakmhaa.vectorBytes
open Go.ChangeShapes Go.WideShapes Go.ChangeAt Go.RowKit
open Go.ChangeMaps (open_string shut_string)
set_option linter.unusedVariables false

theorem own : ownKnob Try.prog.godebug = none := by kernel_rfl
theorem laidOut : laidOutB Try.prog = true := by kernel_rfl

attribute [local go_sem ↓] exec_loadV exec_storeV exec_buildV Go.wp_at_zero Go.wp_at_succ

set_option maxRecDepth 100000 in
set_option maxHeartbeats 2000000 in
theorem walk (L0 : List Nat) (A1 : Option Addr) (b1 : List UInt8) (c1 : Nat) (w : World) (w0 : L0.length = 6) (u0 : ∀ x ∈ L0, x ≤ 18446744073709551615) (w1 : Bytes w w.heap.size A1 b1) (l1 : b1.length ≤ c1) (m1 : c1 ≤ maxLen) :
    Calls Try.prog 4 #[.agg (vecA L0), .slice A1 b1.length c1] w fun e w' => e = .returned (.bool true) ∧ Below w.heap.size w w' := by
  obtain ⟨nb, hnb⟩ : ∃ n, Hid (n = b1.length) := ⟨_, Lib.hid rfl⟩
  have W0 := Lib.hid w0
  have U0 := Lib.hid (fun n hn => Nat.lt_succ_of_le (u0 n hn) : ∀ n ∈ L0, n < 18446744073709551616)
  have D1 := Lib.hid w1
  have hzw : Calls Try.prog 4 #[.agg (vecA L0), .slice A1 nb c1] w fun e w' => e = .returned (.bool true) ∧ Below w.heap.size w w' := by
    clear w0 w1 u0 m1
    have z0 := (Below.refl w.heap.size w).alloc (Nat.le_refl _) (.cells (vecA L0) 24)
    by_cases h300 : 300 < nb
    · have h1 : (300 : Int) < (nb : Int) := by omega
      go_enter Try.func4, Try.ntmps4
      go_wp2_with fail
      refine (vworks_any _).mono ?_
      rintro e w2 ⟨rfl, hb2⟩
      have zf := z0.trans (hb2.mono z0.size)
      go_wp2_with fail
      go_ret
      exact ⟨rfl, zf⟩
    have h1 : ¬ (300 : Int) < (nb : Int) := by omega
    obtain ⟨X, ex, hX6, hof, hex⟩ : ∃ X : List Nat, ∃ ex : Int, X.length = 6 ∧ ofR b1 = (X, ex) ∧ (ex = 0 ∧ bytesV X = b1 ∨ ex = 5) := by
      obtain ⟨X, b, h6, h, hb⟩ := of_any b1
      refine ⟨X, _, h6, h, ?_⟩
      cases b
      · exact .inr rfl
      · exact .inl ⟨rfl, hb rfl⟩
    have HX := Lib.hid hX6
    have EX := Lib.hid hex
    have OF : Hid (∀ W, Bytes W W.heap.size A1 b1 → Calls Try.prog 33 #[.slice A1 nb c1] W fun e w' => e = .returned (.tuple #[.agg (vecA X), .int .i64 ex]) ∧ Below W.heap.size W w') := by
      intro W hB; have := vof_any A1 nb c1 b1 W hB hnb.out; rw [hof] at this; exact this
    have ROF : Hid (∀ W, Bytes W W.heap.size A1 b1 → Calls Try.prog 34 #[.slice A1 nb c1] W fun e w' => e = .returned (.tuple #[.agg (vecA X), .int .i64 ex]) ∧ Below W.heap.size W w') := by
      intro W hB; have := rof_any A1 nb c1 b1 W hB hnb.out; rw [hof] at this; exact this
    clear hX6 hex hof
    have qX : ∀ W, (Op.equalIn 10000 24 (.agg (vecA X)) (.agg (vecA X))).run Try.prog W = .ok true W := vec_same HX.out rfl
    have sX : ∀ W : World, (storeV (.pointer (some ⟨W.heap.size, 0, none⟩)) (.agg (vecA X))).run Try.prog (W.alloc (.cells #[.int .u64 0, .int .u64 0, .int .u64 0, .int .u64 0, .int .u64 0, .int .u64 0] 24)) = .ok () (W.alloc (.cells (vecA X) 24)) := fun W => run_storeV_new HX.out
    obtain ⟨V1, hV1⟩ : ∃ W1, Hid (w.alloc (.cells (vecA L0) 24) = W1) := ⟨_, Lib.hid rfl⟩
    have VS1 : Vs w (w.alloc (.cells (vecA L0) 24)) [(w.heap.size, L0)] := (Vs.nil w).new L0 _ rfl
    have BB1 : Bytes (w.alloc (.cells (vecA L0) 24)) (w.alloc (.cells (vecA L0) 24)).heap.size A1 b1 := D1.out.new' _
    have r0 := Vs.load (w := w) (l := [(w.heap.size, L0)]) 0 rfl W0.out
    have VSH := Lib.hid VS1
    have BBH := Lib.hid BB1
    clear BB1 z0 V1 hV1
    cases hmv : mayV L0
    · skip
      have HMV := Lib.hid hmv
      obtain ⟨Y, eY⟩ : ∃ Y, Hid (Y = Z6) := ⟨_, Lib.hid rfl⟩
      have HY : Hid (Y.length = 6) := by show _ = _; rw [eY.out]; exact rfl
      have BACK : Hid (∀ W As n c, n = (bytesV L0).length → Bytes W W.heap.size As (bytesV L0) → Calls Try.prog 33 #[.slice As n c] W fun e w' => e = .returned (.tuple #[.agg (vecA Y), .int .i64 5]) ∧ Below W.heap.size W w') := by
        intro W As n c hn hB; have := vof_any As n c (bytesV L0) W hB hn; rw [of_bytes_no W0.out U0.out hmv] at this; rw [eY.out]; exact this
      have qL : ∀ W, (Op.equalIn 10000 24 (.agg (vecA Y)) (.agg (vecA Y))).run Try.prog W = .ok true W := vec_same HY.out rfl
      have sY : ∀ W : World, (storeV (.pointer (some ⟨W.heap.size, 0, none⟩)) (.agg (vecA Y))).run Try.prog (W.alloc (.cells #[.int .u64 0, .int .u64 0, .int .u64 0, .int .u64 0, .int .u64 0, .int .u64 0] 24)) = .ok () (W.alloc (.cells (vecA Y) 24)) := fun W => run_storeV_new HY.out
      clear hmv
      go_enter Try.func4, Try.ntmps4
      go_wp2_with fail
      refine (vbytes_any L0 W0.out _).mono ?_
      rintro e w3 ⟨As, ns, cs, rfl, hns, hos, hb⟩
      have V3 : VB w w3 [(w.heap.size, L0)] A1 As b1 (bytesV L0) := ⟨VSH.out.next hb, BBH.out.next' hb, own_bytes hos⟩
      have HNS := Lib.hid hns
      clear hb hos VS1 VSH BBH hns
      go_wp2_with fail
      refine (OF.out _ V3.b1).mono ?_
      rintro e w4 ⟨rfl, hb⟩
      have V4 := (V3.next hb).new X _ rfl
      clear V3 hb
      go_wp2_with fail
      refine (ROF.out _ V4.b1).mono ?_
      rintro e w6 ⟨rfl, hb⟩
      have V6 := (V4.next hb).new X _ rfl
      clear V4 hb
      go_wp2_with fail
      refine (BACK.out _ As ns cs HNS.out V6.b2).mono ?_
      rintro e w8 ⟨rfl, hb⟩
      have V8 : VB w (w8.alloc (.cells (vecA Y) 24)) [(w.heap.size, L0), (w4.heap.size, X), (w6.heap.size, X), (w8.heap.size, Y)] A1 As b1 (bytesV L0) := (V6.next hb).new Y _ rfl
      clear V6 hb r0
      go_wp2_with fail
      clear sX sY OF ROF BACK
      refine wp_region_plan (fun W => VB w W [(w.heap.size, L0), (w4.heap.size, X), (w6.heap.size, X), (w8.heap.size, Y)] A1 As b1 (bytesV L0)) Grows [IsV (.slice As ns cs), IsV (.string (strB (bytesV L0))), IsV (.agg (vecA L0)), SlB (bytesV L0), IsV (.string (strB (bytesV L0))), IsV (.bool false), IsV (.bool false), IsV (.agg (vecA X)), IsV (.agg (vecA X)), IsV (.bool false), IsV (.bool false), IsV (.bool false), IsV (.int .i64 ex), IsV (.int .i64 ex), IsV (.bool false), IsV (.bool false), IsV (.bool false), IsV (.int .i64 5), IsV (.bool false), IsV (.agg (vecA L0)), IsV (.bool false), IsV (.bool false), IsV (.bool false), IsV (.bool false), IsV (.int .i64 5), IsV (.bool false), IsV (.bool false), IsV (undef), IsV (undef), IsV (undef), IsV (.bool false), IsV (.bool false)] ([(1, .slice A1 nb c1), (2, .pointer (some ⟨w.heap.size, 0, none⟩)), (5, .slice As ns cs), (6, .pointer (some ⟨w4.heap.size, 0, none⟩)), (7, .int .i64 ex), (8, .pointer (some ⟨w6.heap.size, 0, none⟩)), (9, .int .i64 ex), (10, .pointer (some ⟨w8.heap.size, 0, none⟩)), (11, .int .i64 5)] : List (Nat × Value)) (⟨rfl, rfl, rfl, rfl, rfl, rfl, rfl, rfl, rfl, trivial⟩) (n := 78) (by kernel_rfl) rfl (by kernel_rfl) V8.drew Grows.refl (StabAll.get ?_) ?_ ?_
      · repeat (first | exact trivial | refine ⟨stab_c _, ?_⟩ | refine ⟨stab_two _ _, ?_⟩ | refine ⟨stab_slb _, ?_⟩ | refine ⟨fun _ _ _ _ _ _ _ => trivial, ?_⟩)
      · refine ⟨?_, ⟨?_, ⟨?_, ⟨?_, ⟨?_, ⟨?_, ⟨?_, ⟨?_, ⟨?_, ⟨?_, ⟨?_, ⟨?_, ⟨?_, ⟨?_, ⟨?_, ⟨?_, ⟨?_, ⟨?_, ⟨?_, ⟨?_, ⟨?_, ⟨?_, ⟨?_, ⟨?_, ⟨?_, ⟨?_, ⟨?_, ⟨?_, ⟨?_, ⟨?_, ⟨?_, ⟨?_, trivial⟩⟩⟩⟩⟩⟩⟩⟩⟩⟩⟩⟩⟩⟩⟩⟩⟩⟩⟩⟩⟩⟩⟩⟩⟩⟩⟩⟩⟩⟩⟩⟩
        · intro a W hS hE hD
          obtain ⟨_, _, x5, _, _, _, _, _, _, _⟩ := hE
          have e5 := x5 (by kernel_rfl)
          refine plan_free rfl ?_
          refine plan_value ex_move ⟨_, rfl, hS, Grows.refl _, ?_⟩
          exact e5
        · intro a W hS hE hD
          have k33 : a.tmps.getD 33 undef = .slice As ns cs := hD 0 33 (by kernel_rfl)
          refine plan_free rfl ?_
          refine plan_value (ex_str k33 HNS.out (hS.b2)) ⟨_, rfl, hS, Grows.refl _, rfl⟩
        · intro a W hS hE hD
          obtain ⟨_, x2, _, _, _, _, _, _, _, _⟩ := hE
          have e2 := x2 (by kernel_rfl)
          refine plan_free rfl ?_
          refine plan_value (ex_load e2 W0.out (hS.vs.nth 0 rfl)) ⟨_, rfl, hS, Grows.refl _, rfl⟩
        · intro a W hS hE hD
          have k35 : a.tmps.getD 35 undef = .agg (vecA L0) := hD 2 35 (by kernel_rfl)
          refine plan_free rfl ?_
          refine plan_call (f := 35) (args := #[a.tmps.getD 35 undef]) (by kernel_rfl) ?_
          rw [k35]
          refine (rbytes_any L0 W0.out U0.out W).mono ?_
          rintro e W2 ⟨A, n, c, rfl, hl, ho, hb⟩
          exact ⟨_, rfl, _, rfl, hS.next hb, hb, ⟨A, n, c, rfl, hl, own_bytes ho⟩⟩
        · intro a W hS hE hD
          obtain ⟨A36, n36, c36, k36, l36, b36⟩ : SlB (bytesV L0) (a.tmps.getD 36 undef) W := hD 3 36 (by kernel_rfl)
          refine plan_free rfl ?_
          refine plan_value (ex_str k36 l36 b36) ⟨_, rfl, hS, Grows.refl _, rfl⟩
        · intro a W hS hE hD
          have k34 : a.tmps.getD 34 undef = .string (strB (bytesV L0)) := hD 1 34 (by kernel_rfl)
          have k37 : a.tmps.getD 37 undef = .string (strB (bytesV L0)) := hD 4 37 (by kernel_rfl)
          refine plan_free rfl ?_
          refine plan_value (v := .bool false) (w' := W) (by go_simp) ⟨_, rfl, hS, Grows.refl _, rfl⟩
        · intro a W hS hE hD
          have k38 : a.tmps.getD 38 undef = .bool false := hD 5 38 (by kernel_rfl)
          refine plan_free rfl ?_
          refine plan_value ex_move ⟨_, rfl, hS, Grows.refl _, ?_⟩
          exact k38
        · intro a W hS hE hD
          obtain ⟨_, _, _, x6, _, _, _, _, _, _⟩ := hE
          have e6 := x6 (by kernel_rfl)
          have k39 : a.tmps.getD 39 undef = .bool false := hD 6 39 (by kernel_rfl)
          refine plan_want rfl (by kernel_rfl) k39 ?_
          refine plan_value (ex_load e6 HX.out (hS.vs.nth 1 rfl)) ⟨_, rfl, hS, Grows.refl _, rfl⟩
        · intro a W hS hE hD
          obtain ⟨_, _, _, _, _, x8, _, _, _, _⟩ := hE
          have e8 := x8 (by kernel_rfl)
          have k39 : a.tmps.getD 39 undef = .bool false := hD 6 39 (by kernel_rfl)
          refine plan_want rfl (by kernel_rfl) k39 ?_
          refine plan_value (ex_load e8 HX.out (hS.vs.nth 2 rfl)) ⟨_, rfl, hS, Grows.refl _, rfl⟩
        · intro a W hS hE hD
          have k39 : a.tmps.getD 39 undef = .bool false := hD 6 39 (by kernel_rfl)
          have k40 : a.tmps.getD 40 undef = .agg (vecA X) := hD 7 40 (by kernel_rfl)
          have k41 : a.tmps.getD 41 undef = .agg (vecA X) := hD 8 41 (by kernel_rfl)
          refine plan_want rfl (by kernel_rfl) k39 ?_
          refine plan_value (v := .bool false) (w' := W) (by go_simp) ⟨_, rfl, hS, Grows.refl _, rfl⟩
        · intro a W hS hE hD
          have k39 : a.tmps.getD 39 undef = .bool false := hD 6 39 (by kernel_rfl)
          have k42 : a.tmps.getD 42 undef = .bool false := hD 9 42 (by kernel_rfl)
          refine plan_free rfl ?_
          refine plan_value (v := .bool false) (w' := W) (by go_simp) ⟨_, rfl, hS, Grows.refl _, rfl⟩
        · intro a W hS hE hD
          have k43 : a.tmps.getD 43 undef = .bool false := hD 10 43 (by kernel_rfl)
          refine plan_free rfl ?_
          refine plan_value ex_move ⟨_, rfl, hS, Grows.refl _, ?_⟩
          exact k43
        · intro a W hS hE hD
          obtain ⟨_, _, _, _, x7, _, _, _, _, _⟩ := hE
          have e7 := x7 (by kernel_rfl)
          have k44 : a.tmps.getD 44 undef = .bool false := hD 11 44 (by kernel_rfl)
          refine plan_want rfl (by kernel_rfl) k44 ?_
          refine plan_value ex_move ⟨_, rfl, hS, Grows.refl _, ?_⟩
          exact e7
        · intro a W hS hE hD
          obtain ⟨_, _, _, _, _, _, x9, _, _, _⟩ := hE
          have e9 := x9 (by kernel_rfl)
          have k44 : a.tmps.getD 44 undef = .bool false := hD 11 44 (by kernel_rfl)
          refine plan_want rfl (by kernel_rfl) k44 ?_
          refine plan_value ex_move ⟨_, rfl, hS, Grows.refl _, ?_⟩
          exact e9
        · intro a W hS hE hD
          have k44 : a.tmps.getD 44 undef = .bool false := hD 11 44 (by kernel_rfl)
          have k45 : a.tmps.getD 45 undef = .int .i64 ex := hD 12 45 (by kernel_rfl)
          have k46 : a.tmps.getD 46 undef = .int .i64 ex := hD 13 46 (by kernel_rfl)
          refine plan_want rfl (by kernel_rfl) k44 ?_
          refine plan_value (v := .bool false) (w' := W) (by go_simp) ⟨_, rfl, hS, Grows.refl _, rfl⟩
        · intro a W hS hE hD
          have k44 : a.tmps.getD 44 undef = .bool false := hD 11 44 (by kernel_rfl)
          have k47 : a.tmps.getD 47 undef = .bool false := hD 14 47 (by kernel_rfl)
          refine plan_free rfl ?_
          refine plan_value (v := .bool false) (w' := W) (by go_simp) ⟨_, rfl, hS, Grows.refl _, rfl⟩
        · intro a W hS hE hD
          have k48 : a.tmps.getD 48 undef = .bool false := hD 15 48 (by kernel_rfl)
          refine plan_free rfl ?_
          refine plan_value ex_move ⟨_, rfl, hS, Grows.refl _, ?_⟩
          exact k48
        · intro a W hS hE hD
          obtain ⟨_, _, _, _, _, _, _, _, x11, _⟩ := hE
          have e11 := x11 (by kernel_rfl)
          have k49 : a.tmps.getD 49 undef = .bool false := hD 16 49 (by kernel_rfl)
          refine plan_want rfl (by kernel_rfl) k49 ?_
          refine plan_value ex_move ⟨_, rfl, hS, Grows.refl _, ?_⟩
          exact e11
        · intro a W hS hE hD
          have k49 : a.tmps.getD 49 undef = .bool false := hD 16 49 (by kernel_rfl)
          have k50 : a.tmps.getD 50 undef = .int .i64 5 := hD 17 50 (by kernel_rfl)
          refine plan_want rfl (by kernel_rfl) k49 ?_
          refine plan_value (v := .bool false) (w' := W) (by go_simp) ⟨_, rfl, hS, Grows.refl _, rfl⟩
        · intro a W hS hE hD
          obtain ⟨_, x2, _, _, _, _, _, _, _, _⟩ := hE
          have e2 := x2 (by kernel_rfl)
          have k49 : a.tmps.getD 49 undef = .bool false := hD 16 49 (by kernel_rfl)
          refine plan_want rfl (by kernel_rfl) k49 ?_
          refine plan_value (ex_load e2 W0.out (hS.vs.nth 0 rfl)) ⟨_, rfl, hS, Grows.refl _, rfl⟩
        · intro a W hS hE hD
          have k49 : a.tmps.getD 49 undef = .bool false := hD 16 49 (by kernel_rfl)
          have k52 : a.tmps.getD 52 undef = .agg (vecA L0) := hD 19 52 (by kernel_rfl)
          refine plan_want rfl (by kernel_rfl) k49 ?_
          refine plan_call (f := 21) (args := #[a.tmps.getD 52 undef]) (by kernel_rfl) ?_
          rw [k52]
          refine (rmay_any L0 W0.out W).mono ?_
          rintro e W2 ⟨rfl, hb⟩
          refine ⟨_, rfl, _, rfl, hS.next hb, hb, ?_⟩
          show _ = _
          rw [HMV.out]
        · intro a W hS hE hD
          have k49 : a.tmps.getD 49 undef = .bool false := hD 16 49 (by kernel_rfl)
          have k51 : a.tmps.getD 51 undef = .bool false := hD 18 51 (by kernel_rfl)
          have k53 : a.tmps.getD 53 undef = .bool false := hD 20 53 (by kernel_rfl)
          refine plan_want rfl (by kernel_rfl) k49 ?_
          refine plan_value (v := .bool false) (w' := W) (by go_simp) ⟨_, rfl, hS, Grows.refl _, rfl⟩
        · intro a W hS hE hD
          have k49 : a.tmps.getD 49 undef = .bool false := hD 16 49 (by kernel_rfl)
          have k54 : a.tmps.getD 54 undef = .bool false := hD 21 54 (by kernel_rfl)
          refine plan_free rfl ?_
          refine plan_value (v := .bool false) (w' := W) (by go_simp) ⟨_, rfl, hS, Grows.refl _, rfl⟩
        · intro a W hS hE hD
          have k55 : a.tmps.getD 55 undef = .bool false := hD 22 55 (by kernel_rfl)
          refine plan_free rfl ?_
          refine plan_value ex_move ⟨_, rfl, hS, Grows.refl _, ?_⟩
          exact k55
        · intro a W hS hE hD
          obtain ⟨_, _, _, _, _, _, _, _, x11, _⟩ := hE
          have e11 := x11 (by kernel_rfl)
          have k56 : a.tmps.getD 56 undef = .bool false := hD 23 56 (by kernel_rfl)
          refine plan_want rfl (by kernel_rfl) k56 ?_
          refine plan_value ex_move ⟨_, rfl, hS, Grows.refl _, ?_⟩
          exact e11
        · intro a W hS hE hD
          have k56 : a.tmps.getD 56 undef = .bool false := hD 23 56 (by kernel_rfl)
          have k57 : a.tmps.getD 57 undef = .int .i64 5 := hD 24 57 (by kernel_rfl)
          refine plan_want rfl (by kernel_rfl) k56 ?_
          refine plan_value (v := .bool false) (w' := W) (by go_simp) ⟨_, rfl, hS, Grows.refl _, rfl⟩
        · intro a W hS hE hD
          have k56 : a.tmps.getD 56 undef = .bool false := hD 23 56 (by kernel_rfl)
          have k58 : a.tmps.getD 58 undef = .bool false := hD 25 58 (by kernel_rfl)
          refine plan_want rfl (by kernel_rfl) k56 ?_
          refine plan_value ex_move ⟨_, rfl, hS, Grows.refl _, ?_⟩
          exact k58
        · intro a W hS hE hD
          have k59 : a.tmps.getD 59 undef = .bool false := hD 26 59 (by kernel_rfl)
          refine plan_skip rfl (by kernel_rfl) k59 rfl ?_
          exact rfl
        · intro a W hS hE hD
          have k59 : a.tmps.getD 59 undef = .bool false := hD 26 59 (by kernel_rfl)
          refine plan_skip rfl (by kernel_rfl) k59 rfl ?_
          exact rfl
        · intro a W hS hE hD
          have k59 : a.tmps.getD 59 undef = .bool false := hD 26 59 (by kernel_rfl)
          refine plan_skip rfl (by kernel_rfl) k59 rfl ?_
          exact rfl
        · intro a W hS hE hD
          have k56 : a.tmps.getD 56 undef = .bool false := hD 23 56 (by kernel_rfl)
          have k59 : a.tmps.getD 59 undef = .bool false := hD 26 59 (by kernel_rfl)
          have k62 : a.tmps.getD 62 undef = undef := hD 29 62 (by kernel_rfl)
          refine plan_want rfl (by kernel_rfl) k56 ?_
          refine plan_value (v := .bool false) (w' := W) (by go_simp) ⟨_, rfl, hS, Grows.refl _, rfl⟩
        · intro a W hS hE hD
          have k56 : a.tmps.getD 56 undef = .bool false := hD 23 56 (by kernel_rfl)
          have k63 : a.tmps.getD 63 undef = .bool false := hD 30 63 (by kernel_rfl)
          refine plan_free rfl ?_
          refine plan_value (v := .bool false) (w' := W) (by go_simp) ⟨_, rfl, hS, Grows.refl _, rfl⟩
      · intro f w9 V9 hE
        have f64 : f 64 = .bool false := Ends.get hE 31 _ rfl 64 rfl
        clear hE
        simp only [setAll, List.setIfInBounds_toArray, List.set_cons_zero, List.set_cons_succ]
        rw [f64]; clear f64
        clear V8 qX qL
        go_wp2_with fail
        rcases EX.out with ⟨rfl, hbx⟩ | rfl
        · skip
          have HBX : Hid (∀ W, Calls Try.prog 32 #[.agg (vecA X)] W fun e w' => ∃ A n c, e = .returned (.slice A n c) ∧ n = b1.length ∧ OwnB w' W.heap.size 5 (.slice A n c) b1 ∧ Below W.heap.size W w') := by
            intro W; have := vbytes_any X HX.out W; rw [hbx] at this; exact this
          clear hbx
          refine wp_region_plan (fun W => VB w W [(w.heap.size, L0), (w4.heap.size, X), (w6.heap.size, X), (w8.heap.size, Y)] A1 As b1 (bytesV L0)) Grows [IsV (.int .i64 0), IsV (.bool false), IsV (.bool false), IsV (.agg (vecA X)), SlB (b1), IsV (.string (strB (b1))), IsV (.slice A1 nb c1), IsV (.string (strB (b1))), IsV (.bool true), IsV (.bool true), IsV (.bool true), IsV (.bool true), IsV (.bool true), IsV (.bool true)] ([(1, .slice A1 nb c1), (6, .pointer (some ⟨w4.heap.size, 0, none⟩)), (7, .int .i64 0)] : List (Nat × Value)) (⟨rfl, rfl, rfl, trivial⟩) (n := 78) (by kernel_rfl) rfl (by kernel_rfl) V9.drew Grows.refl (StabAll.get ?_) ?_ ?_
          · repeat (first | exact trivial | refine ⟨stab_c _, ?_⟩ | refine ⟨stab_two _ _, ?_⟩ | refine ⟨stab_slb _, ?_⟩ | refine ⟨fun _ _ _ _ _ _ _ => trivial, ?_⟩)
          · refine ⟨?_, ⟨?_, ⟨?_, ⟨?_, ⟨?_, ⟨?_, ⟨?_, ⟨?_, ⟨?_, ⟨?_, ⟨?_, ⟨?_, ⟨?_, ⟨?_, trivial⟩⟩⟩⟩⟩⟩⟩⟩⟩⟩⟩⟩⟩⟩
            · intro a W hS hE hD
              obtain ⟨_, _, x7, _⟩ := hE
              have e7 := x7 (by kernel_rfl)
              refine plan_free rfl ?_
              refine plan_value ex_move ⟨_, rfl, hS, Grows.refl _, ?_⟩
              exact e7
            · intro a W hS hE hD
              have k65 : a.tmps.getD 65 undef = .int .i64 0 := hD 0 65 (by kernel_rfl)
              refine plan_free rfl ?_
              refine plan_value (v := .bool false) (w' := W) (by go_simp) ⟨_, rfl, hS, Grows.refl _, rfl⟩
            · intro a W hS hE hD
              have k66 : a.tmps.getD 66 undef = .bool false := hD 1 66 (by kernel_rfl)
              refine plan_free rfl ?_
              refine plan_value ex_move ⟨_, rfl, hS, Grows.refl _, ?_⟩
              exact k66
            · intro a W hS hE hD
              obtain ⟨_, x6, _, _⟩ := hE
              have e6 := x6 (by kernel_rfl)
              have k67 : a.tmps.getD 67 undef = .bool false := hD 2 67 (by kernel_rfl)
              refine plan_want rfl (by kernel_rfl) k67 ?_
              refine plan_value (ex_load e6 HX.out (hS.vs.nth 1 rfl)) ⟨_, rfl, hS, Grows.refl _, rfl⟩
            · intro a W hS hE hD
              have k67 : a.tmps.getD 67 undef = .bool false := hD 2 67 (by kernel_rfl)
              have k68 : a.tmps.getD 68 undef = .agg (vecA X) := hD 3 68 (by kernel_rfl)
              refine plan_want rfl (by kernel_rfl) k67 ?_
              refine plan_call (f := 32) (args := #[a.tmps.getD 68 undef]) (by kernel_rfl) ?_
              rw [k68]
              refine (HBX.out W).mono ?_
              rintro e W2 ⟨A, n, c, rfl, hl, ho, hb⟩
              exact ⟨_, rfl, _, rfl, hS.next hb, hb, ⟨A, n, c, rfl, hl, own_bytes ho⟩⟩
            · intro a W hS hE hD
              have k67 : a.tmps.getD 67 undef = .bool false := hD 2 67 (by kernel_rfl)
              obtain ⟨A69, n69, c69, k69, l69, b69⟩ : SlB (b1) (a.tmps.getD 69 undef) W := hD 4 69 (by kernel_rfl)
              refine plan_want rfl (by kernel_rfl) k67 ?_
              refine plan_value (ex_str k69 l69 b69) ⟨_, rfl, hS, Grows.refl _, rfl⟩
            · intro a W hS hE hD
              obtain ⟨x1, _, _, _⟩ := hE
              have e1 := x1 (by kernel_rfl)
              have k67 : a.tmps.getD 67 undef = .bool false := hD 2 67 (by kernel_rfl)
              refine plan_want rfl (by kernel_rfl) k67 ?_
              refine plan_value ex_move ⟨_, rfl, hS, Grows.refl _, ?_⟩
              exact e1
            · intro a W hS hE hD
              have k67 : a.tmps.getD 67 undef = .bool false := hD 2 67 (by kernel_rfl)
              have k71 : a.tmps.getD 71 undef = .slice A1 nb c1 := hD 6 71 (by kernel_rfl)
              refine plan_want rfl (by kernel_rfl) k67 ?_
              refine plan_value (ex_str k71 hnb.out (hS.b1)) ⟨_, rfl, hS, Grows.refl _, rfl⟩
            · intro a W hS hE hD
              have k67 : a.tmps.getD 67 undef = .bool false := hD 2 67 (by kernel_rfl)
              have k70 : a.tmps.getD 70 undef = .string (strB (b1)) := hD 5 70 (by kernel_rfl)
              have k72 : a.tmps.getD 72 undef = .string (strB (b1)) := hD 7 72 (by kernel_rfl)
              refine plan_want rfl (by kernel_rfl) k67 ?_
              refine plan_value (v := .bool true) (w' := W) (by go_simp) ⟨_, rfl, hS, Grows.refl _, rfl⟩
            · intro a W hS hE hD
              have k67 : a.tmps.getD 67 undef = .bool false := hD 2 67 (by kernel_rfl)
              have k73 : a.tmps.getD 73 undef = .bool true := hD 8 73 (by kernel_rfl)
              refine plan_free rfl ?_
              refine plan_value (v := .bool true) (w' := W) (by go_simp) ⟨_, rfl, hS, Grows.refl _, rfl⟩
            · intro a W hS hE hD
              have k74 : a.tmps.getD 74 undef = .bool true := hD 9 74 (by kernel_rfl)
              refine plan_free rfl ?_
              refine plan_value ex_move ⟨_, rfl, hS, Grows.refl _, ?_⟩
              exact k74
            · intro a W hS hE hD
              have k75 : a.tmps.getD 75 undef = .bool true := hD 10 75 (by kernel_rfl)
              refine plan_want rfl (by kernel_rfl) k75 ?_
              refine plan_call (f := 15) (args := #[]) (by kernel_rfl) ?_
              refine (vworks_any W).mono ?_
              rintro e W2 ⟨rfl, hb⟩
              refine ⟨_, rfl, _, rfl, hS.next hb, hb, ?_⟩
              exact rfl
            · intro a W hS hE hD
              have k75 : a.tmps.getD 75 undef = .bool true := hD 10 75 (by kernel_rfl)
              have k76 : a.tmps.getD 76 undef = .bool true := hD 11 76 (by kernel_rfl)
              refine plan_free rfl ?_
              refine plan_value (v := .bool true) (w' := W) (by go_simp) ⟨_, rfl, hS, Grows.refl _, rfl⟩
            · intro a W hS hE hD
              have k77 : a.tmps.getD 77 undef = .bool true := hD 12 77 (by kernel_rfl)
              refine plan_free rfl ?_
              refine plan_value ex_assign ⟨_, rfl, hS, Grows.refl _, ?_⟩
              exact k77
          · intro f w10 V10 hE
            have f77 : f 77 = .bool true := Ends.get hE 12 _ rfl 77 rfl
            have f4 : f 4 = .bool true := Ends.get hE 13 _ rfl 4 rfl
            clear hE
            simp only [setAll, List.setIfInBounds_toArray, List.set_cons_zero, List.set_cons_succ]
            rw [f77]; clear f77
            rw [f4]; clear f4
            have hz := V10.vs.bel
            clear V9 V10
            go_wp2_with fail
            go_ret
            exact ⟨rfl, hz⟩
        · skip
          refine wp_region_plan (fun W => VB w W [(w.heap.size, L0), (w4.heap.size, X), (w6.heap.size, X), (w8.heap.size, Y)] A1 As b1 (bytesV L0)) Grows [IsV (.int .i64 5), IsV (.bool true), IsV (.bool true), IsV (undef), IsV (undef), IsV (undef), IsV (undef), IsV (undef), IsV (undef), IsV (.bool true), IsV (.bool true), IsV (.bool true), IsV (.bool true), IsV (.bool true)] ([(1, .slice A1 nb c1), (6, .pointer (some ⟨w4.heap.size, 0, none⟩)), (7, .int .i64 5)] : List (Nat × Value)) (⟨rfl, rfl, rfl, trivial⟩) (n := 78) (by kernel_rfl) rfl (by kernel_rfl) V9.drew Grows.refl (StabAll.get ?_) ?_ ?_
          · repeat (first | exact trivial | refine ⟨stab_c _, ?_⟩ | refine ⟨stab_two _ _, ?_⟩ | refine ⟨fun _ _ _ _ _ _ _ => trivial, ?_⟩)
          · refine ⟨?_, ⟨?_, ⟨?_, ⟨?_, ⟨?_, ⟨?_, ⟨?_, ⟨?_, ⟨?_, ⟨?_, ⟨?_, ⟨?_, ⟨?_, ⟨?_, trivial⟩⟩⟩⟩⟩⟩⟩⟩⟩⟩⟩⟩⟩⟩
            · intro a W hS hE hD
              obtain ⟨_, _, x7, _⟩ := hE
              have e7 := x7 (by kernel_rfl)
              refine plan_free rfl ?_
              refine plan_value ex_move ⟨_, rfl, hS, Grows.refl _, ?_⟩
              exact e7
            · intro a W hS hE hD
              have k65 : a.tmps.getD 65 undef = .int .i64 5 := hD 0 65 (by kernel_rfl)
              refine plan_free rfl ?_
              refine plan_value (v := .bool true) (w' := W) (by go_simp) ⟨_, rfl, hS, Grows.refl _, rfl⟩
            · intro a W hS hE hD
              have k66 : a.tmps.getD 66 undef = .bool true := hD 1 66 (by kernel_rfl)
              refine plan_free rfl ?_
              refine plan_value ex_move ⟨_, rfl, hS, Grows.refl _, ?_⟩
              exact k66
            · intro a W hS hE hD
              have k67 : a.tmps.getD 67 undef = .bool true := hD 2 67 (by kernel_rfl)
              refine plan_skip rfl (by kernel_rfl) k67 rfl ?_
              exact rfl
            · intro a W hS hE hD
              have k67 : a.tmps.getD 67 undef = .bool true := hD 2 67 (by kernel_rfl)
              refine plan_skip rfl (by kernel_rfl) k67 rfl ?_
              exact rfl
            · intro a W hS hE hD
              have k67 : a.tmps.getD 67 undef = .bool true := hD 2 67 (by kernel_rfl)
              refine plan_skip rfl (by kernel_rfl) k67 rfl ?_
              exact rfl
            · intro a W hS hE hD
              have k67 : a.tmps.getD 67 undef = .bool true := hD 2 67 (by kernel_rfl)
              refine plan_skip rfl (by kernel_rfl) k67 rfl ?_
              exact rfl
            · intro a W hS hE hD
              have k67 : a.tmps.getD 67 undef = .bool true := hD 2 67 (by kernel_rfl)
              refine plan_skip rfl (by kernel_rfl) k67 rfl ?_
              exact rfl
            · intro a W hS hE hD
              have k67 : a.tmps.getD 67 undef = .bool true := hD 2 67 (by kernel_rfl)
              refine plan_skip rfl (by kernel_rfl) k67 rfl ?_
              exact rfl
            · intro a W hS hE hD
              have k67 : a.tmps.getD 67 undef = .bool true := hD 2 67 (by kernel_rfl)
              have k73 : a.tmps.getD 73 undef = undef := hD 8 73 (by kernel_rfl)
              refine plan_free rfl ?_
              refine plan_value (v := .bool true) (w' := W) (by go_simp) ⟨_, rfl, hS, Grows.refl _, rfl⟩
            · intro a W hS hE hD
              have k74 : a.tmps.getD 74 undef = .bool true := hD 9 74 (by kernel_rfl)
              refine plan_free rfl ?_
              refine plan_value ex_move ⟨_, rfl, hS, Grows.refl _, ?_⟩
              exact k74
            · intro a W hS hE hD
              have k75 : a.tmps.getD 75 undef = .bool true := hD 10 75 (by kernel_rfl)
              refine plan_want rfl (by kernel_rfl) k75 ?_
              refine plan_call (f := 15) (args := #[]) (by kernel_rfl) ?_
              refine (vworks_any W).mono ?_
              rintro e W2 ⟨rfl, hb⟩
              refine ⟨_, rfl, _, rfl, hS.next hb, hb, ?_⟩
              exact rfl
            · intro a W hS hE hD
              have k75 : a.tmps.getD 75 undef = .bool true := hD 10 75 (by kernel_rfl)
              have k76 : a.tmps.getD 76 undef = .bool true := hD 11 76 (by kernel_rfl)
              refine plan_free rfl ?_
              refine plan_value (v := .bool true) (w' := W) (by go_simp) ⟨_, rfl, hS, Grows.refl _, rfl⟩
            · intro a W hS hE hD
              have k77 : a.tmps.getD 77 undef = .bool true := hD 12 77 (by kernel_rfl)
              refine plan_free rfl ?_
              refine plan_value ex_assign ⟨_, rfl, hS, Grows.refl _, ?_⟩
              exact k77
          · intro f w10 V10 hE
            have f77 : f 77 = .bool true := Ends.get hE 12 _ rfl 77 rfl
            have f4 : f 4 = .bool true := Ends.get hE 13 _ rfl 4 rfl
            clear hE
            simp only [setAll, List.setIfInBounds_toArray, List.set_cons_zero, List.set_cons_succ]
            rw [f77]; clear f77
            rw [f4]; clear f4
            have hz := V10.vs.bel
            clear V9 V10
            go_wp2_with fail
            go_ret
            exact ⟨rfl, hz⟩
    · skip
      have HMV := Lib.hid hmv
      obtain ⟨Y, eY⟩ : ∃ Y, Hid (Y = L0) := ⟨_, Lib.hid rfl⟩
      have HY : Hid (Y.length = 6) := by show _ = _; rw [eY.out]; exact W0.out
      have BACK : Hid (∀ W As n c, n = (bytesV L0).length → Bytes W W.heap.size As (bytesV L0) → Calls Try.prog 33 #[.slice As n c] W fun e w' => e = .returned (.tuple #[.agg (vecA Y), .int .i64 0]) ∧ Below W.heap.size W w') := by
        intro W As n c hn hB; have := vof_any As n c (bytesV L0) W hB hn; rw [of_bytes_yes W0.out U0.out hmv] at this; rw [eY.out]; exact this
      have qL : ∀ W, (Op.equalIn 10000 24 (.agg (vecA Y)) (.agg (vecA Y))).run Try.prog W = .ok true W := vec_same HY.out rfl
      have sY : ∀ W : World, (storeV (.pointer (some ⟨W.heap.size, 0, none⟩)) (.agg (vecA Y))).run Try.prog (W.alloc (.cells #[.int .u64 0, .int .u64 0, .int .u64 0, .int .u64 0, .int .u64 0, .int .u64 0] 24)) = .ok () (W.alloc (.cells (vecA Y) 24)) := fun W => run_storeV_new HY.out
      clear hmv
      go_enter Try.func4, Try.ntmps4
      go_wp2_with fail
      refine (vbytes_any L0 W0.out _).mono ?_
      rintro e w3 ⟨As, ns, cs, rfl, hns, hos, hb⟩
      have V3 : VB w w3 [(w.heap.size, L0)] A1 As b1 (bytesV L0) := ⟨VSH.out.next hb, BBH.out.next' hb, own_bytes hos⟩
      have HNS := Lib.hid hns
      clear hb hos VS1 VSH BBH hns
      go_wp2_with fail
      refine (OF.out _ V3.b1).mono ?_
      rintro e w4 ⟨rfl, hb⟩
      have V4 := (V3.next hb).new X _ rfl
      clear V3 hb
      go_wp2_with fail
      refine (ROF.out _ V4.b1).mono ?_
      rintro e w6 ⟨rfl, hb⟩
      have V6 := (V4.next hb).new X _ rfl
      clear V4 hb
      go_wp2_with fail
      refine (BACK.out _ As ns cs HNS.out V6.b2).mono ?_
      rintro e w8 ⟨rfl, hb⟩
      have V8 : VB w (w8.alloc (.cells (vecA Y) 24)) [(w.heap.size, L0), (w4.heap.size, X), (w6.heap.size, X), (w8.heap.size, Y)] A1 As b1 (bytesV L0) := (V6.next hb).new Y _ rfl
      clear V6 hb r0
      go_wp2_with fail
      clear sX sY OF ROF BACK
      rw [eY.out] at qL
      refine wp_region_plan (fun W => VB w W [(w.heap.size, L0), (w4.heap.size, X), (w6.heap.size, X), (w8.heap.size, Y)] A1 As b1 (bytesV L0)) Grows [IsV (.slice As ns cs), IsV (.string (strB (bytesV L0))), IsV (.agg (vecA L0)), SlB (bytesV L0), IsV (.string (strB (bytesV L0))), IsV (.bool false), IsV (.bool false), IsV (.agg (vecA X)), IsV (.agg (vecA X)), IsV (.bool false), IsV (.bool false), IsV (.bool false), IsV (.int .i64 ex), IsV (.int .i64 ex), IsV (.bool false), IsV (.bool false), IsV (.bool false), IsV (.int .i64 0), IsV (.bool true), IsV (.agg (vecA L0)), IsV (.bool true), IsV (.bool false), IsV (.bool false), IsV (.bool false), IsV (.int .i64 0), IsV (.bool true), IsV (.bool true), IsV (.agg (vecA L0)), IsV (.agg (vecA L0)), IsV (.bool false), IsV (.bool false), IsV (.bool false)] ([(1, .slice A1 nb c1), (2, .pointer (some ⟨w.heap.size, 0, none⟩)), (5, .slice As ns cs), (6, .pointer (some ⟨w4.heap.size, 0, none⟩)), (7, .int .i64 ex), (8, .pointer (some ⟨w6.heap.size, 0, none⟩)), (9, .int .i64 ex), (10, .pointer (some ⟨w8.heap.size, 0, none⟩)), (11, .int .i64 0)] : List (Nat × Value)) (⟨rfl, rfl, rfl, rfl, rfl, rfl, rfl, rfl, rfl, trivial⟩) (n := 78) (by kernel_rfl) rfl (by kernel_rfl) V8.drew Grows.refl (StabAll.get ?_) ?_ ?_
      · repeat (first | exact trivial | refine ⟨stab_c _, ?_⟩ | refine ⟨stab_two _ _, ?_⟩ | refine ⟨stab_slb _, ?_⟩ | refine ⟨fun _ _ _ _ _ _ _ => trivial, ?_⟩)
      · refine ⟨?_, ⟨?_, ⟨?_, ⟨?_, ⟨?_, ⟨?_, ⟨?_, ⟨?_, ⟨?_, ⟨?_, ⟨?_, ⟨?_, ⟨?_, ⟨?_, ⟨?_, ⟨?_, ⟨?_, ⟨?_, ⟨?_, ⟨?_, ⟨?_, ⟨?_, ⟨?_, ⟨?_, ⟨?_, ⟨?_, ⟨?_, ⟨?_, ⟨?_, ⟨?_, ⟨?_, ⟨?_, trivial⟩⟩⟩⟩⟩⟩⟩⟩⟩⟩⟩⟩⟩⟩⟩⟩⟩⟩⟩⟩⟩⟩⟩⟩⟩⟩⟩⟩⟩⟩⟩⟩
        · intro a W hS hE hD
          obtain ⟨_, _, x5, _, _, _, _, _, _, _⟩ := hE
          have e5 := x5 (by kernel_rfl)
          refine plan_free rfl ?_
          refine plan_value ex_move ⟨_, rfl, hS, Grows.refl _, ?_⟩
          exact e5
        · intro a W hS hE hD
          have k33 : a.tmps.getD 33 undef = .slice As ns cs := hD 0 33 (by kernel_rfl)
          refine plan_free rfl ?_
          refine plan_value (ex_str k33 HNS.out (hS.b2)) ⟨_, rfl, hS, Grows.refl _, rfl⟩
        · intro a W hS hE hD
          obtain ⟨_, x2, _, _, _, _, _, _, _, _⟩ := hE
          have e2 := x2 (by kernel_rfl)
          refine plan_free rfl ?_
          refine plan_value (ex_load e2 W0.out (hS.vs.nth 0 rfl)) ⟨_, rfl, hS, Grows.refl _, rfl⟩
        · intro a W hS hE hD
          have k35 : a.tmps.getD 35 undef = .agg (vecA L0) := hD 2 35 (by kernel_rfl)
          refine plan_free rfl ?_
          refine plan_call (f := 35) (args := #[a.tmps.getD 35 undef]) (by kernel_rfl) ?_
          rw [k35]
          refine (rbytes_any L0 W0.out U0.out W).mono ?_
          rintro e W2 ⟨A, n, c, rfl, hl, ho, hb⟩
          exact ⟨_, rfl, _, rfl, hS.next hb, hb, ⟨A, n, c, rfl, hl, own_bytes ho⟩⟩
        · intro a W hS hE hD
          obtain ⟨A36, n36, c36, k36, l36, b36⟩ : SlB (bytesV L0) (a.tmps.getD 36 undef) W := hD 3 36 (by kernel_rfl)
          refine plan_free rfl ?_
          refine plan_value (ex_str k36 l36 b36) ⟨_, rfl, hS, Grows.refl _, rfl⟩
        · intro a W hS hE hD
          have k34 : a.tmps.getD 34 undef = .string (strB (bytesV L0)) := hD 1 34 (by kernel_rfl)
          have k37 : a.tmps.getD 37 undef = .string (strB (bytesV L0)) := hD 4 37 (by kernel_rfl)
          refine plan_free rfl ?_
          refine plan_value (v := .bool false) (w' := W) (by go_simp) ⟨_, rfl, hS, Grows.refl _, rfl⟩
        · intro a W hS hE hD
          have k38 : a.tmps.getD 38 undef = .bool false := hD 5 38 (by kernel_rfl)
          refine plan_free rfl ?_
          refine plan_value ex_move ⟨_, rfl, hS, Grows.refl _, ?_⟩
          exact k38
        · intro a W hS hE hD
          obtain ⟨_, _, _, x6, _, _, _, _, _, _⟩ := hE
          have e6 := x6 (by kernel_rfl)
          have k39 : a.tmps.getD 39 undef = .bool false := hD 6 39 (by kernel_rfl)
          refine plan_want rfl (by kernel_rfl) k39 ?_
          refine plan_value (ex_load e6 HX.out (hS.vs.nth 1 rfl)) ⟨_, rfl, hS, Grows.refl _, rfl⟩
        · intro a W hS hE hD
          obtain ⟨_, _, _, _, _, x8, _, _, _, _⟩ := hE
          have e8 := x8 (by kernel_rfl)
          have k39 : a.tmps.getD 39 undef = .bool false := hD 6 39 (by kernel_rfl)
          refine plan_want rfl (by kernel_rfl) k39 ?_
          refine plan_value (ex_load e8 HX.out (hS.vs.nth 2 rfl)) ⟨_, rfl, hS, Grows.refl _, rfl⟩
        · intro a W hS hE hD
          have k39 : a.tmps.getD 39 undef = .bool false := hD 6 39 (by kernel_rfl)
          have k40 : a.tmps.getD 40 undef = .agg (vecA X) := hD 7 40 (by kernel_rfl)
          have k41 : a.tmps.getD 41 undef = .agg (vecA X) := hD 8 41 (by kernel_rfl)
          refine plan_want rfl (by kernel_rfl) k39 ?_
          refine plan_value (v := .bool false) (w' := W) (by go_simp) ⟨_, rfl, hS, Grows.refl _, rfl⟩
        · intro a W hS hE hD
          have k39 : a.tmps.getD 39 undef = .bool false := hD 6 39 (by kernel_rfl)
          have k42 : a.tmps.getD 42 undef = .bool false := hD 9 42 (by kernel_rfl)
          refine plan_free rfl ?_
          refine plan_value (v := .bool false) (w' := W) (by go_simp) ⟨_, rfl, hS, Grows.refl _, rfl⟩
        · intro a W hS hE hD
          have k43 : a.tmps.getD 43 undef = .bool false := hD 10 43 (by kernel_rfl)
          refine plan_free rfl ?_
          refine plan_value ex_move ⟨_, rfl, hS, Grows.refl _, ?_⟩
          exact k43
        · intro a W hS hE hD
          obtain ⟨_, _, _, _, x7, _, _, _, _, _⟩ := hE
          have e7 := x7 (by kernel_rfl)
          have k44 : a.tmps.getD 44 undef = .bool false := hD 11 44 (by kernel_rfl)
          refine plan_want rfl (by kernel_rfl) k44 ?_
          refine plan_value ex_move ⟨_, rfl, hS, Grows.refl _, ?_⟩
          exact e7
        · intro a W hS hE hD
          obtain ⟨_, _, _, _, _, _, x9, _, _, _⟩ := hE
          have e9 := x9 (by kernel_rfl)
          have k44 : a.tmps.getD 44 undef = .bool false := hD 11 44 (by kernel_rfl)
          refine plan_want rfl (by kernel_rfl) k44 ?_
          refine plan_value ex_move ⟨_, rfl, hS, Grows.refl _, ?_⟩
          exact e9
        · intro a W hS hE hD
          have k44 : a.tmps.getD 44 undef = .bool false := hD 11 44 (by kernel_rfl)
          have k45 : a.tmps.getD 45 undef = .int .i64 ex := hD 12 45 (by kernel_rfl)
          have k46 : a.tmps.getD 46 undef = .int .i64 ex := hD 13 46 (by kernel_rfl)
          refine plan_want rfl (by kernel_rfl) k44 ?_
          refine plan_value (v := .bool false) (w' := W) (by go_simp) ⟨_, rfl, hS, Grows.refl _, rfl⟩
        · intro a W hS hE hD
          have k44 : a.tmps.getD 44 undef = .bool false := hD 11 44 (by kernel_rfl)
          have k47 : a.tmps.getD 47 undef = .bool false := hD 14 47 (by kernel_rfl)
          refine plan_free rfl ?_
          refine plan_value (v := .bool false) (w' := W) (by go_simp) ⟨_, rfl, hS, Grows.refl _, rfl⟩
        · intro a W hS hE hD
          have k48 : a.tmps.getD 48 undef = .bool false := hD 15 48 (by kernel_rfl)
          refine plan_free rfl ?_
          refine plan_value ex_move ⟨_, rfl, hS, Grows.refl _, ?_⟩
          exact k48
        · intro a W hS hE hD
          obtain ⟨_, _, _, _, _, _, _, _, x11, _⟩ := hE
          have e11 := x11 (by kernel_rfl)
          have k49 : a.tmps.getD 49 undef = .bool false := hD 16 49 (by kernel_rfl)
          refine plan_want rfl (by kernel_rfl) k49 ?_
          refine plan_value ex_move ⟨_, rfl, hS, Grows.refl _, ?_⟩
          exact e11
        · intro a W hS hE hD
          have k49 : a.tmps.getD 49 undef = .bool false := hD 16 49 (by kernel_rfl)
          have k50 : a.tmps.getD 50 undef = .int .i64 0 := hD 17 50 (by kernel_rfl)
          refine plan_want rfl (by kernel_rfl) k49 ?_
          refine plan_value (v := .bool true) (w' := W) (by go_simp) ⟨_, rfl, hS, Grows.refl _, rfl⟩
        · intro a W hS hE hD
          obtain ⟨_, x2, _, _, _, _, _, _, _, _⟩ := hE
          have e2 := x2 (by kernel_rfl)
          have k49 : a.tmps.getD 49 undef = .bool false := hD 16 49 (by kernel_rfl)
          refine plan_want rfl (by kernel_rfl) k49 ?_
          refine plan_value (ex_load e2 W0.out (hS.vs.nth 0 rfl)) ⟨_, rfl, hS, Grows.refl _, rfl⟩
        · intro a W hS hE hD
          have k49 : a.tmps.getD 49 undef = .bool false := hD 16 49 (by kernel_rfl)
          have k52 : a.tmps.getD 52 undef = .agg (vecA L0) := hD 19 52 (by kernel_rfl)
          refine plan_want rfl (by kernel_rfl) k49 ?_
          refine plan_call (f := 21) (args := #[a.tmps.getD 52 undef]) (by kernel_rfl) ?_
          rw [k52]
          refine (rmay_any L0 W0.out W).mono ?_
          rintro e W2 ⟨rfl, hb⟩
          refine ⟨_, rfl, _, rfl, hS.next hb, hb, ?_⟩
          show _ = _
          rw [HMV.out]
        · intro a W hS hE hD
          have k49 : a.tmps.getD 49 undef = .bool false := hD 16 49 (by kernel_rfl)
          have k51 : a.tmps.getD 51 undef = .bool true := hD 18 51 (by kernel_rfl)
          have k53 : a.tmps.getD 53 undef = .bool true := hD 20 53 (by kernel_rfl)
          refine plan_want rfl (by kernel_rfl) k49 ?_
          refine plan_value (v := .bool false) (w' := W) (by go_simp) ⟨_, rfl, hS, Grows.refl _, rfl⟩
        · intro a W hS hE hD
          have k49 : a.tmps.getD 49 undef = .bool false := hD 16 49 (by kernel_rfl)
          have k54 : a.tmps.getD 54 undef = .bool false := hD 21 54 (by kernel_rfl)
          refine plan_free rfl ?_
          refine plan_value (v := .bool false) (w' := W) (by go_simp) ⟨_, rfl, hS, Grows.refl _, rfl⟩
        · intro a W hS hE hD
          have k55 : a.tmps.getD 55 undef = .bool false := hD 22 55 (by kernel_rfl)
          refine plan_free rfl ?_
          refine plan_value ex_move ⟨_, rfl, hS, Grows.refl _, ?_⟩
          exact k55
        · intro a W hS hE hD
          obtain ⟨_, _, _, _, _, _, _, _, x11, _⟩ := hE
          have e11 := x11 (by kernel_rfl)
          have k56 : a.tmps.getD 56 undef = .bool false := hD 23 56 (by kernel_rfl)
          refine plan_want rfl (by kernel_rfl) k56 ?_
          refine plan_value ex_move ⟨_, rfl, hS, Grows.refl _, ?_⟩
          exact e11
        · intro a W hS hE hD
          have k56 : a.tmps.getD 56 undef = .bool false := hD 23 56 (by kernel_rfl)
          have k57 : a.tmps.getD 57 undef = .int .i64 0 := hD 24 57 (by kernel_rfl)
          refine plan_want rfl (by kernel_rfl) k56 ?_
          refine plan_value (v := .bool true) (w' := W) (by go_simp) ⟨_, rfl, hS, Grows.refl _, rfl⟩
        · intro a W hS hE hD
          have k56 : a.tmps.getD 56 undef = .bool false := hD 23 56 (by kernel_rfl)
          have k58 : a.tmps.getD 58 undef = .bool true := hD 25 58 (by kernel_rfl)
          refine plan_want rfl (by kernel_rfl) k56 ?_
          refine plan_value ex_move ⟨_, rfl, hS, Grows.refl _, ?_⟩
          exact k58
        · intro a W hS hE hD
          obtain ⟨_, _, _, _, _, _, _, x10, _, _⟩ := hE
          have e10 := x10 (by kernel_rfl)
          have k59 : a.tmps.getD 59 undef = .bool true := hD 26 59 (by kernel_rfl)
          refine plan_want rfl (by kernel_rfl) k59 ?_
          refine plan_value (ex_load e10 W0.out (eY.out ▸ hS.vs.nth 3 rfl)) ⟨_, rfl, hS, Grows.refl _, rfl⟩
        · intro a W hS hE hD
          obtain ⟨_, x2, _, _, _, _, _, _, _, _⟩ := hE
          have e2 := x2 (by kernel_rfl)
          have k59 : a.tmps.getD 59 undef = .bool true := hD 26 59 (by kernel_rfl)
          refine plan_want rfl (by kernel_rfl) k59 ?_
          refine plan_value (ex_load e2 W0.out (hS.vs.nth 0 rfl)) ⟨_, rfl, hS, Grows.refl _, rfl⟩
        · intro a W hS hE hD
          have k59 : a.tmps.getD 59 undef = .bool true := hD 26 59 (by kernel_rfl)
          have k60 : a.tmps.getD 60 undef = .agg (vecA L0) := hD 27 60 (by kernel_rfl)
          have k61 : a.tmps.getD 61 undef = .agg (vecA L0) := hD 28 61 (by kernel_rfl)
          refine plan_want rfl (by kernel_rfl) k59 ?_
          refine plan_value (v := .bool false) (w' := W) (by go_simp) ⟨_, rfl, hS, Grows.refl _, rfl⟩
        · intro a W hS hE hD
          have k56 : a.tmps.getD 56 undef = .bool false := hD 23 56 (by kernel_rfl)
          have k59 : a.tmps.getD 59 undef = .bool true := hD 26 59 (by kernel_rfl)
          have k62 : a.tmps.getD 62 undef = .bool false := hD 29 62 (by kernel_rfl)
          refine plan_want rfl (by kernel_rfl) k56 ?_
          refine plan_value (v := .bool false) (w' := W) (by go_simp) ⟨_, rfl, hS, Grows.refl _, rfl⟩
        · intro a W hS hE hD
          have k56 : a.tmps.getD 56 undef = .bool false := hD 23 56 (by kernel_rfl)
          have k63 : a.tmps.getD 63 undef = .bool false := hD 30 63 (by kernel_rfl)
          refine plan_free rfl ?_
          refine plan_value (v := .bool false) (w' := W) (by go_simp) ⟨_, rfl, hS, Grows.refl _, rfl⟩
      · intro f w9 V9 hE
        have f64 : f 64 = .bool false := Ends.get hE 31 _ rfl 64 rfl
        clear hE
        simp only [setAll, List.setIfInBounds_toArray, List.set_cons_zero, List.set_cons_succ]
        rw [f64]; clear f64
        clear V8 qX qL
        go_wp2_with fail
        rcases EX.out with ⟨rfl, hbx⟩ | rfl
        · skip
          have HBX : Hid (∀ W, Calls Try.prog 32 #[.agg (vecA X)] W fun e w' => ∃ A n c, e = .returned (.slice A n c) ∧ n = b1.length ∧ OwnB w' W.heap.size 5 (.slice A n c) b1 ∧ Below W.heap.size W w') := by
            intro W; have := vbytes_any X HX.out W; rw [hbx] at this; exact this
          clear hbx
          refine wp_region_plan (fun W => VB w W [(w.heap.size, L0), (w4.heap.size, X), (w6.heap.size, X), (w8.heap.size, Y)] A1 As b1 (bytesV L0)) Grows [IsV (.int .i64 0), IsV (.bool false), IsV (.bool false), IsV (.agg (vecA X)), SlB (b1), IsV (.string (strB (b1))), IsV (.slice A1 nb c1), IsV (.string (strB (b1))), IsV (.bool true), IsV (.bool true), IsV (.bool true), IsV (.bool true), IsV (.bool true), IsV (.bool true)] ([(1, .slice A1 nb c1), (6, .pointer (some ⟨w4.heap.size, 0, none⟩)), (7, .int .i64 0)] : List (Nat × Value)) (⟨rfl, rfl, rfl, trivial⟩) (n := 78) (by kernel_rfl) rfl (by kernel_rfl) V9.drew Grows.refl (StabAll.get ?_) ?_ ?_
          · repeat (first | exact trivial | refine ⟨stab_c _, ?_⟩ | refine ⟨stab_two _ _, ?_⟩ | refine ⟨stab_slb _, ?_⟩ | refine ⟨fun _ _ _ _ _ _ _ => trivial, ?_⟩)
          · refine ⟨?_, ⟨?_, ⟨?_, ⟨?_, ⟨?_, ⟨?_, ⟨?_, ⟨?_, ⟨?_, ⟨?_, ⟨?_, ⟨?_, ⟨?_, ⟨?_, trivial⟩⟩⟩⟩⟩⟩⟩⟩⟩⟩⟩⟩⟩⟩
            · intro a W hS hE hD
              obtain ⟨_, _, x7, _⟩ := hE
              have e7 := x7 (by kernel_rfl)
              refine plan_free rfl ?_
              refine plan_value ex_move ⟨_, rfl, hS, Grows.refl _, ?_⟩
              exact e7
            · intro a W hS hE hD
              have k65 : a.tmps.getD 65 undef = .int .i64 0 := hD 0 65 (by kernel_rfl)
              refine plan_free rfl ?_
              refine plan_value (v := .bool false) (w' := W) (by go_simp) ⟨_, rfl, hS, Grows.refl _, rfl⟩
            · intro a W hS hE hD
              have k66 : a.tmps.getD 66 undef = .bool false := hD 1 66 (by kernel_rfl)
              refine plan_free rfl ?_
              refine plan_value ex_move ⟨_, rfl, hS, Grows.refl _, ?_⟩
              exact k66
            · intro a W hS hE hD
              obtain ⟨_, x6, _, _⟩ := hE
              have e6 := x6 (by kernel_rfl)
              have k67 : a.tmps.getD 67 undef = .bool false := hD 2 67 (by kernel_rfl)
              refine plan_want rfl (by kernel_rfl) k67 ?_
              refine plan_value (ex_load e6 HX.out (hS.vs.nth 1 rfl)) ⟨_, rfl, hS, Grows.refl _, rfl⟩
            · intro a W hS hE hD
              have k67 : a.tmps.getD 67 undef = .bool false := hD 2 67 (by kernel_rfl)
              have k68 : a.tmps.getD 68 undef = .agg (vecA X) := hD 3 68 (by kernel_rfl)
              refine plan_want rfl (by kernel_rfl) k67 ?_
              refine plan_call (f := 32) (args := #[a.tmps.getD 68 undef]) (by kernel_rfl) ?_
              rw [k68]
              refine (HBX.out W).mono ?_
              rintro e W2 ⟨A, n, c, rfl, hl, ho, hb⟩
              exact ⟨_, rfl, _, rfl, hS.next hb, hb, ⟨A, n, c, rfl, hl, own_bytes ho⟩⟩
            · intro a W hS hE hD
              have k67 : a.tmps.getD 67 undef = .bool false := hD 2 67 (by kernel_rfl)
              obtain ⟨A69, n69, c69, k69, l69, b69⟩ : SlB (b1) (a.tmps.getD 69 undef) W := hD 4 69 (by kernel_rfl)
              refine plan_want rfl (by kernel_rfl) k67 ?_
              refine plan_value (ex_str k69 l69 b69) ⟨_, rfl, hS, Grows.refl _, rfl⟩
            · intro a W hS hE hD
              obtain ⟨x1, _, _, _⟩ := hE
              have e1 := x1 (by kernel_rfl)
              have k67 : a.tmps.getD 67 undef = .bool false := hD 2 67 (by kernel_rfl)
              refine plan_want rfl (by kernel_rfl) k67 ?_
              refine plan_value ex_move ⟨_, rfl, hS, Grows.refl _, ?_⟩
              exact e1
            · intro a W hS hE hD
              have k67 : a.tmps.getD 67 undef = .bool false := hD 2 67 (by kernel_rfl)
              have k71 : a.tmps.getD 71 undef = .slice A1 nb c1 := hD 6 71 (by kernel_rfl)
              refine plan_want rfl (by kernel_rfl) k67 ?_
              refine plan_value (ex_str k71 hnb.out (hS.b1)) ⟨_, rfl, hS, Grows.refl _, rfl⟩
            · intro a W hS hE hD
              have k67 : a.tmps.getD 67 undef = .bool false := hD 2 67 (by kernel_rfl)
              have k70 : a.tmps.getD 70 undef = .string (strB (b1)) := hD 5 70 (by kernel_rfl)
              have k72 : a.tmps.getD 72 undef = .string (strB (b1)) := hD 7 72 (by kernel_rfl)
              refine plan_want rfl (by kernel_rfl) k67 ?_
              refine plan_value (v := .bool true) (w' := W) (by go_simp) ⟨_, rfl, hS, Grows.refl _, rfl⟩
            · intro a W hS hE hD
              have k67 : a.tmps.getD 67 undef = .bool false := hD 2 67 (by kernel_rfl)
              have k73 : a.tmps.getD 73 undef = .bool true := hD 8 73 (by kernel_rfl)
              refine plan_free rfl ?_
              refine plan_value (v := .bool true) (w' := W) (by go_simp) ⟨_, rfl, hS, Grows.refl _, rfl⟩
            · intro a W hS hE hD
              have k74 : a.tmps.getD 74 undef = .bool true := hD 9 74 (by kernel_rfl)
              refine plan_free rfl ?_
              refine plan_value ex_move ⟨_, rfl, hS, Grows.refl _, ?_⟩
              exact k74
            · intro a W hS hE hD
              have k75 : a.tmps.getD 75 undef = .bool true := hD 10 75 (by kernel_rfl)
              refine plan_want rfl (by kernel_rfl) k75 ?_
              refine plan_call (f := 15) (args := #[]) (by kernel_rfl) ?_
              refine (vworks_any W).mono ?_
              rintro e W2 ⟨rfl, hb⟩
              refine ⟨_, rfl, _, rfl, hS.next hb, hb, ?_⟩
              exact rfl
            · intro a W hS hE hD
              have k75 : a.tmps.getD 75 undef = .bool true := hD 10 75 (by kernel_rfl)
              have k76 : a.tmps.getD 76 undef = .bool true := hD 11 76 (by kernel_rfl)
              refine plan_free rfl ?_
              refine plan_value (v := .bool true) (w' := W) (by go_simp) ⟨_, rfl, hS, Grows.refl _, rfl⟩
            · intro a W hS hE hD
              have k77 : a.tmps.getD 77 undef = .bool true := hD 12 77 (by kernel_rfl)
              refine plan_free rfl ?_
              refine plan_value ex_assign ⟨_, rfl, hS, Grows.refl _, ?_⟩
              exact k77
          · intro f w10 V10 hE
            have f77 : f 77 = .bool true := Ends.get hE 12 _ rfl 77 rfl
            have f4 : f 4 = .bool true := Ends.get hE 13 _ rfl 4 rfl
            clear hE
            simp only [setAll, List.setIfInBounds_toArray, List.set_cons_zero, List.set_cons_succ]
            rw [f77]; clear f77
            rw [f4]; clear f4
            have hz := V10.vs.bel
            clear V9 V10
            go_wp2_with fail
            go_ret
            exact ⟨rfl, hz⟩
        · skip
          refine wp_region_plan (fun W => VB w W [(w.heap.size, L0), (w4.heap.size, X), (w6.heap.size, X), (w8.heap.size, Y)] A1 As b1 (bytesV L0)) Grows [IsV (.int .i64 5), IsV (.bool true), IsV (.bool true), IsV (undef), IsV (undef), IsV (undef), IsV (undef), IsV (undef), IsV (undef), IsV (.bool true), IsV (.bool true), IsV (.bool true), IsV (.bool true), IsV (.bool true)] ([(1, .slice A1 nb c1), (6, .pointer (some ⟨w4.heap.size, 0, none⟩)), (7, .int .i64 5)] : List (Nat × Value)) (⟨rfl, rfl, rfl, trivial⟩) (n := 78) (by kernel_rfl) rfl (by kernel_rfl) V9.drew Grows.refl (StabAll.get ?_) ?_ ?_
          · repeat (first | exact trivial | refine ⟨stab_c _, ?_⟩ | refine ⟨stab_two _ _, ?_⟩ | refine ⟨fun _ _ _ _ _ _ _ => trivial, ?_⟩)
          · refine ⟨?_, ⟨?_, ⟨?_, ⟨?_, ⟨?_, ⟨?_, ⟨?_, ⟨?_, ⟨?_, ⟨?_, ⟨?_, ⟨?_, ⟨?_, ⟨?_, trivial⟩⟩⟩⟩⟩⟩⟩⟩⟩⟩⟩⟩⟩⟩
            · intro a W hS hE hD
              obtain ⟨_, _, x7, _⟩ := hE
              have e7 := x7 (by kernel_rfl)
              refine plan_free rfl ?_
              refine plan_value ex_move ⟨_, rfl, hS, Grows.refl _, ?_⟩
              exact e7
            · intro a W hS hE hD
              have k65 : a.tmps.getD 65 undef = .int .i64 5 := hD 0 65 (by kernel_rfl)
              refine plan_free rfl ?_
              refine plan_value (v := .bool true) (w' := W) (by go_simp) ⟨_, rfl, hS, Grows.refl _, rfl⟩
            · intro a W hS hE hD
              have k66 : a.tmps.getD 66 undef = .bool true := hD 1 66 (by kernel_rfl)
              refine plan_free rfl ?_
              refine plan_value ex_move ⟨_, rfl, hS, Grows.refl _, ?_⟩
              exact k66
            · intro a W hS hE hD
              have k67 : a.tmps.getD 67 undef = .bool true := hD 2 67 (by kernel_rfl)
              refine plan_skip rfl (by kernel_rfl) k67 rfl ?_
              exact rfl
            · intro a W hS hE hD
              have k67 : a.tmps.getD 67 undef = .bool true := hD 2 67 (by kernel_rfl)
              refine plan_skip rfl (by kernel_rfl) k67 rfl ?_
              exact rfl
            · intro a W hS hE hD
              have k67 : a.tmps.getD 67 undef = .bool true := hD 2 67 (by kernel_rfl)
              refine plan_skip rfl (by kernel_rfl) k67 rfl ?_
              exact rfl
            · intro a W hS hE hD
              have k67 : a.tmps.getD 67 undef = .bool true := hD 2 67 (by kernel_rfl)
              refine plan_skip rfl (by kernel_rfl) k67 rfl ?_
              exact rfl
            · intro a W hS hE hD
              have k67 : a.tmps.getD 67 undef = .bool true := hD 2 67 (by kernel_rfl)
              refine plan_skip rfl (by kernel_rfl) k67 rfl ?_
              exact rfl
            · intro a W hS hE hD
              have k67 : a.tmps.getD 67 undef = .bool true := hD 2 67 (by kernel_rfl)
              refine plan_skip rfl (by kernel_rfl) k67 rfl ?_
              exact rfl
            · intro a W hS hE hD
              have k67 : a.tmps.getD 67 undef = .bool true := hD 2 67 (by kernel_rfl)
              have k73 : a.tmps.getD 73 undef = undef := hD 8 73 (by kernel_rfl)
              refine plan_free rfl ?_
              refine plan_value (v := .bool true) (w' := W) (by go_simp) ⟨_, rfl, hS, Grows.refl _, rfl⟩
            · intro a W hS hE hD
              have k74 : a.tmps.getD 74 undef = .bool true := hD 9 74 (by kernel_rfl)
              refine plan_free rfl ?_
              refine plan_value ex_move ⟨_, rfl, hS, Grows.refl _, ?_⟩
              exact k74
            · intro a W hS hE hD
              have k75 : a.tmps.getD 75 undef = .bool true := hD 10 75 (by kernel_rfl)
              refine plan_want rfl (by kernel_rfl) k75 ?_
              refine plan_call (f := 15) (args := #[]) (by kernel_rfl) ?_
              refine (vworks_any W).mono ?_
              rintro e W2 ⟨rfl, hb⟩
              refine ⟨_, rfl, _, rfl, hS.next hb, hb, ?_⟩
              exact rfl
            · intro a W hS hE hD
              have k75 : a.tmps.getD 75 undef = .bool true := hD 10 75 (by kernel_rfl)
              have k76 : a.tmps.getD 76 undef = .bool true := hD 11 76 (by kernel_rfl)
              refine plan_free rfl ?_
              refine plan_value (v := .bool true) (w' := W) (by go_simp) ⟨_, rfl, hS, Grows.refl _, rfl⟩
            · intro a W hS hE hD
              have k77 : a.tmps.getD 77 undef = .bool true := hD 12 77 (by kernel_rfl)
              refine plan_free rfl ?_
              refine plan_value ex_assign ⟨_, rfl, hS, Grows.refl _, ?_⟩
              exact k77
          · intro f w10 V10 hE
            have f77 : f 77 = .bool true := Ends.get hE 12 _ rfl 77 rfl
            have f4 : f 4 = .bool true := Ends.get hE 13 _ rfl 4 rfl
            clear hE
            simp only [setAll, List.setIfInBounds_toArray, List.set_cons_zero, List.set_cons_succ]
            rw [f77]; clear f77
            rw [f4]; clear f4
            have hz := V10.vs.bel
            clear V9 V10
            go_wp2_with fail
            go_ret
            exact ⟨rfl, hz⟩
  rw [← hnb.out]
  exact hzw

set_option maxRecDepth 100000 in
theorem lifted (os : Os) (started : os.Started) (H : Type) (enc : TypeId × Value → H) :
    ReturnsInHanded {} Try.checked os 4 .any (Rows.vectorBytesSpec.pre6 enc Try.prog Try.f4 Rows.vectorBytesRow.domain false) (Rows.vectorBytesSpec.post enc Try.prog Try.f4 false true false false) := by
  refine returnsInHanded_of_change (C := Try.checked) own started (by kernel_rfl) Try.func4
    (ChangeSpec.witness6 (enc := enc) (C := Try.checked) false ⟨#[], #[.agg #[.int .u64 0, .int .u64 0, .int .u64 0, .int .u64 0, .int .u64 0, .int .u64 0], .slice none 0 0], []⟩ 8 (by kernel_rfl) (by kernel_rfl) (by kernel_rfl) (by kernel_rfl)) ?_
  intro W base args ds gs before hval0 hW hcnd _
  have hval : ∀ (j : Nat) t v, Try.f4.params[j]? = some t → args[j]? = some v → Value.okWide Try.prog W .any base t v := hval0
  have hW' := hW
  obtain ⟨p, q, hA0, hV, rfl, hfz, hnd⟩ := hW
  have hA : DataW.TrodAll enc Try.prog W 0 (fun _ => true) true Try.f4.params.toList args.toList ds p := hA0
  rw [Try.params4] at hA hval
  obtain ⟨v0, vs0, d0, ds0, p0, q0, hargs, rfl, rfl, h0, r0⟩ := trodAll_cons hA
  obtain ⟨v1, vs1, d1, ds1, p1, q1, rfl, rfl, rfl, h1, r1⟩ := trodAll_cons r0
  obtain ⟨rfl, rfl, rfl⟩ := trodAll_nil r1
  obtain rfl : args = #[v0, v1] := by cases args; simp_all
  obtain ⟨rfl, rfl⟩ := trodVars_none hV
  have k0 := h0
  have lt0 : ∀ x ∈ p0, x.block < W.heap.size := by obtain ⟨m, hm⟩ := k0; exact DataW.trod_lt m _ _ _ hm
  obtain ⟨L0, rfl, w0, u0⟩ := open_vec (hval 0 24 v0 rfl rfl) h0
  obtain ⟨A1, n1, c1, rfl⟩ := okWide_slice Try.underlying39 (hval 1 39 v1 rfl rfl)
  have k1 := h1
  have lt1 : ∀ x ∈ p1, x.block < W.heap.size := by obtain ⟨m, hm⟩ := k1; exact DataW.trod_lt m _ _ _ hm
  obtain ⟨z1, x1⟩ : ∃ zs, IsRow .u8 W A1 n1 c1 zs := by
    obtain ⟨fuel, hf⟩ := h1
    rcases open_ints Try.underlying39 Try.underlying5 (by kernel_rfl) hf with ⟨hcs, _⟩ | ⟨x, l, c, zs, hcs, _, hl, hm, hz, _, hcell, hwz⟩
    · simp [Value.cells] at hcs
      obtain ⟨rfl, rfl, rfl⟩ := hcs
      exact ⟨[], .inl ⟨rfl, rfl, rfl, rfl⟩⟩
    · simp [Value.cells] at hcs
      obtain ⟨rfl, rfl, rfl⟩ := hcs
      exact ⟨zs, .inr ⟨_, rfl, hl, hm, by simpa using hz, hcell, hwz⟩⟩
  obtain ⟨b1, rfl, w1, l1, m1⟩ := row_bytes x1
  clear hA0 hval0
  refine (walk L0 A1 b1 c1 W w0 u0 w1 l1 m1).mono fun e W' ⟨he, bel⟩ => ?_
  subst he
  exact ⟨_, rfl, _, _, _, [], _, [], hW', trodAll_mk1 (shut_bool Try.underlying4 _), (trodAll_cons_mk (Below.trod laidOut (by kernel_rfl) (of_decide_eq_true (by kernel_rfl)) k0 bel lt0) (trodAll_cons_mk (Below.trod laidOut (by kernel_rfl) (of_decide_eq_true (by kernel_rfl)) k1 bel lt1) trodAll_mk0)), rfl, bel.frame _, fun h => by cases h⟩

theorem over : Rows.vectorBytesRow.holds Try.pinned (OpenSpec.ofChange Rows.vectorBytesSpec) :=
  OpenClaim.holds_of_wide 4 Try.f4 rfl rfl rfl rfl rfl rfl rfl ⟨rfl, rfl, rfl, rfl, rfl⟩ rfl rfl rfl rfl rfl (by kernel_rfl) Try.func4 (by kernel_rfl)
    (of_decide_eq_true (by kernel_rfl)) (by unfold Func.isWrapper; first | (rw [if_pos (by decide +kernel)]; kernel_rfl) | (rw [if_neg (by decide +kernel)]; exact ⟨rfl, rfl⟩))
    (fun os started H enc _ => lifted os started H enc)

theorem proved : Rows.VectorBytesSaid := over
#print axioms proved
end Go.Proofs.Ytdliklkfhakmhaa.vectorBytes
