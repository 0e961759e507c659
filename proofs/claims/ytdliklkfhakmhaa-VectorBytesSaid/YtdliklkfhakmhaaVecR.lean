import Derived.Test.YtdliklkfhakmhaaMix
import Derived.Test.YtdliklkfhakmhaaVeil
import Derived.BigRegion
import Derived.BigQuiet
namespace Go.Proofs.Ytdliklkfhakmhaa
open Go.RowKit
attribute [local go_sem ↓] exec_loadV exec_storeV exec_buildV Go.wp_at_zero Go.wp_at_succ
/-! the document's vectors. -/
theorem rregion_yes (k : Nat) (hk : k < 6) (w : World) : Calls Try.prog 54 #[.int .i64 ((k : Int) + 1)] w fun e w' => e = .returned (.bool true) ∧ w = w' := by
  have h1 : (1 : Int) ≤ (k : Int) + 1 := by omega
  have h2 : (k : Int) + 1 ≤ 6 := by omega
  go_enter Try.func54, Try.ntmps54
  go_wp2_with fail
  go_ret
  exact ⟨rfl, rfl⟩
theorem rregion_no (z : Int) (h : z < 1 ∨ 6 < z) (w : World) : Calls Try.prog 54 #[.int .i64 z] w fun e w' => e = .returned (.bool false) ∧ w = w' := by
  rcases h with h | h
  case' inl => have h1 : ¬ (1 : Int) ≤ z := by omega
  case' inr =>
    have h1 : (1 : Int) ≤ z := by omega
    have h2 : ¬ z ≤ 6 := by omega
  all_goals
    go_enter Try.func54, Try.ntmps54
    go_wp2_with fail
    go_ret
    exact ⟨rfl, rfl⟩
set_option maxRecDepth 100000 in
theorem rmay_any (L : List Nat) (h : L.length = 6) (w : World) : Calls Try.prog 21 #[.agg (vecA L)] w fun e w' => e = .returned (.bool (mayV L)) ∧ Below w.heap.size w w' := by
  have hB := Blk.new w 24 (vecA L)
  have hb := (Below.refl w.heap.size w).alloc (Nat.le_refl _) (.cells (vecA L) 24)
  have HL := Lib.hid h
  clear h
  go_enter Try.func21, Try.ntmps21
  go_wp2_with fail
  generalize w.alloc (.cells (vecA L) 24) = W1 at hb hB ⊢
  go_loopw [3] (fun i wr => ∃ k : Nat, k ≤ 6 ∧ i = .int .i64 k ∧ MayTo L k ∧ wr = W1) (fun i _ => 6 - (intOf i).toNat)
  case atStart => exact ⟨0, by omega, rfl, rfl, rfl⟩
  case round =>
    obtain ⟨k, hk, rfl, hall, rfl⟩ := hrel
    by_cases hlt : k < 6
    · have hkl : k < L.length := by rw [HL.out]; exact hlt
      have hix := hB.vat k hkl
      have HNO := Lib.hid (all_no (p := mayN) L k hkl)
      have HYES := Lib.hid (all_step (p := mayN) L k hkl hall)
      generalize L[k] = x at hix HNO HYES
      by_cases hx : x ≤ 1099511627776
      · have hx' : ¬ (1099511627776 : Int) < (x : Int) := by omega
        have hnext : MayTo L (k + 1) := HYES.out (decide_eq_true hx)
        clear HYES HNO hall
        go_wp2_with fail
        go_roundw
        case rel => exact ⟨k + 1, by omega, by go_num, hnext, trivial⟩
        case measure => simp [intOf]; omega
      · have hx' : (1099511627776 : Int) < (x : Int) := by omega
        have hv : Hid (mayV L = false) := HNO.out (decide_eq_false hx)
        clear HYES HNO hall
        go_wp2_with fail
        go_ret
        exact ⟨by rw [hv.out]; rfl, hb⟩
    · obtain rfl : k = 6 := by omega
      have hv : Hid (mayV L = true) := by show _ = _; unfold mayV; rw [← (show (L.take 6).all mayN = true from hall), List.take_of_length_le (by rw [HL.out]; omega)]
      clear hall
      go_wp2_with fail
      go_ret
      exact ⟨by rw [hv.out]; rfl, hb⟩
set_option maxRecDepth 100000 in
theorem rless_any (L M : List Nat) (hL : L.length = 6) (hM : M.length = 6) (w : World) : Calls Try.prog 23 #[.agg (vecA L), .agg (vecA M)] w fun e w' => e = .returned (.bool (lessV L M)) ∧ Below w.heap.size w w' := by
  have HL := Lib.hid hL
  have HM := Lib.hid hM
  have hb2 := ((Below.refl w.heap.size w).alloc (Nat.le_refl _) (.cells (vecA L) 24)).alloc (by simp) (.cells (vecA M) 24)
  have hA := (Blk.new w 24 (vecA L)).alloc (.cells (vecA M) 24)
  have hB : Blk ((w.alloc (.cells (vecA L) 24)).alloc (.cells (vecA M) 24)) (w.heap.size + 1) 24 (vecA M) := Blk.at_ _ _ _ _ (by simp)
  clear hL hM
  go_enter Try.func23, Try.ntmps23
  go_wp2_with fail
  generalize (w.alloc (.cells (vecA L) 24)).alloc (.cells (vecA M) 24) = W1 at hb2 hA hB ⊢
  go_loopw [5] (fun i wr => ∃ k : Nat, k ≤ 6 ∧ i = .int .i64 k ∧ LessTo L M k ∧ Blk wr w.heap.size 24 (vecA L) ∧ Blk wr (w.heap.size + 1) 24 (vecA M) ∧ Below w.heap.size w wr) (fun i _ => 6 - (intOf i).toNat)
  case atStart => exact ⟨0, by omega, rfl, (fun j hj => by omega), hA, hB, hb2⟩
  case round =>
    clear hA hB hb2
    obtain ⟨k, hk, rfl, hall, hA, hB, hb⟩ := hrel
    by_cases hlt : k < 6
    · have hkl : k < L.length := by rw [HL.out]; exact hlt
      have hkm : k < M.length := by rw [HM.out]; exact hlt
      have c1 := hA.vat k hkl
      have c2 := hB.vat k hkm
      have hN : lessN L M k = decide (L[k] ≤ M[k]) := by unfold lessN; rw [List.getElem?_eq_getElem hkl, List.getElem?_eq_getElem hkm]; rfl
      have HN := Lib.hid hN
      clear hN
      generalize L[k] = x at c1 HN
      generalize M[k] = y at c2 HN
      have HA := Lib.hid hA
      have HB := Lib.hid hB
      have HBL := Lib.hid hb
      by_cases hx : x ≤ y
      · have hnext := hall.succ (by rw [HN.out, decide_eq_true hx])
        have hx' : ¬ (y : Int) < (x : Int) := by omega
        have HNX := Lib.hid hnext
        clear HN hall hx hnext hA hB hb
        generalize (x : Int) = X at c1 hx'
        generalize (y : Int) = Y at c2 hx'
        go_wp2_with fail
        go_quiet (fail)
        go_wp2_with fail
        exact ⟨⟨k + 1, by omega, by go_num, HNX.out, HA.out.drewM nq, HB.out.drewM nq, Below.drewM HBL.out nq⟩, by simp [intOf]; omega⟩
      · have hv := less_not hlt (by rw [HN.out, decide_eq_false hx])
        have HV := Lib.hid hv
        have hx' : (y : Int) < (x : Int) := by omega
        clear HN hall hx hv hA hB hb
        generalize (x : Int) = X at c1 hx'
        generalize (y : Int) = Y at c2 hx'
        go_wp2_with fail
        go_quiet (fail)
        go_wp2_with fail
        go_ret
        exact ⟨by rw [HV.out]; rfl, Below.drewM HBL.out nq⟩
    · obtain rfl : k = 6 := by omega
      have HV := Lib.hid hall.all
      clear hall hA hB
      go_wp2_with fail
      go_ret
      exact ⟨by rw [HV.out]; rfl, hb⟩
set_option maxRecDepth 100000 in
theorem rlack_any (L M : List Nat) (hL : L.length = 6) (hM : M.length = 6) (hMb : ∀ n ∈ M, n ≤ 18446744073709551615) (w : World) : Calls Try.prog 27 #[.agg (vecA L), .agg (vecA M)] w fun e w' => e = .returned (.int .u64 ((lackV L M : Nat) : Int)) ∧ Below w.heap.size w w' := by
  have HL := Lib.hid hL
  have HM := Lib.hid hM
  have HMB := Lib.hid hMb
  have hb2 := ((Below.refl w.heap.size w).alloc (Nat.le_refl _) (.cells (vecA L) 24)).alloc (by simp) (.cells (vecA M) 24)
  have hA := (Blk.new w 24 (vecA L)).alloc (.cells (vecA M) 24)
  have hB : Blk ((w.alloc (.cells (vecA L) 24)).alloc (.cells (vecA M) 24)) (w.heap.size + 1) 24 (vecA M) := Blk.at_ _ _ _ _ (by simp)
  clear hL hM hMb
  go_enter Try.func27, Try.ntmps27
  go_wp2_with fail
  generalize (w.alloc (.cells (vecA L) 24)).alloc (.cells (vecA M) 24) = W1 at hb2 hA hB ⊢
  go_loopw [5, 6] (fun s i wr => ∃ k : Nat, k ≤ 6 ∧ i = .int .i64 k ∧ s = .int .u64 ((lackS L M k % 18446744073709551616 : Nat) : Int) ∧ Blk wr w.heap.size 24 (vecA L) ∧ Blk wr (w.heap.size + 1) 24 (vecA M) ∧ Below w.heap.size w wr) (fun _ i _ => 6 - (intOf i).toNat)
  case atStart => exact ⟨0, by omega, rfl, rfl, hA, hB, hb2⟩
  case round =>
    clear hA hB hb2
    obtain ⟨k, hk, rfl, rfl, hA, hB, hb⟩ := hrel
    by_cases hlt : k < 6
    · have hkl : k < L.length := by rw [HL.out]; exact hlt
      have hkm : k < M.length := by rw [HM.out]; exact hlt
      have c1 := hA.vat k hkl
      have c2 := hB.vat k hkm
      have hy := HMB.out M[k] (List.getElem_mem hkm)
      have hN : lackN L M k = M[k] - L[k] := by unfold lackN; rw [List.getElem?_eq_getElem hkl, List.getElem?_eq_getElem hkm]; rfl
      have hS : lackS L M (k + 1) = lackS L M k + lackN L M k := rfl
      rw [hN] at hS
      have HS := Lib.hid hS
      clear hN hS
      generalize L[k] = x at c1 HS
      generalize M[k] = y at c2 HS hy
      generalize lackS L M k = s at HS ⊢
      have HA := Lib.hid hA
      have HB := Lib.hid hB
      have HBL := Lib.hid hb
      by_cases hx : x < y
      · have hx' : (x : Int) < (y : Int) := by omega
        obtain ⟨u, hu⟩ : ∃ u : Int, Hid (IntKind.u64.wrap (((s % 18446744073709551616 : Nat) : Int) + (y : Int)) = u) := ⟨_, Lib.hid rfl⟩
        have e2 : Hid (IntKind.u64.wrap (u - (x : Int)) = ((lackS L M (k + 1) % 18446744073709551616 : Nat) : Int)) := by
          show _ = _
          rw [← hu.out, HS.out, IntKind.wrap_u64, IntKind.wrap_u64]; omega
        clear HS hx hy hA hB hb
        generalize (x : Int) = X at c1 hx' e2
        generalize (y : Int) = Y at c2 hx' hu
        generalize ((s % 18446744073709551616 : Nat) : Int) = s1 at hu ⊢
        generalize hs2 : ((lackS L M (k + 1) % 18446744073709551616 : Nat) : Int) = s2 at e2
        have HS2 := Lib.hid hs2
        clear hs2
        have h1 := hu.out
        have h2 := e2.out
        go_wp2_with fail
        go_quiet (fail)
        go_wp2_with fail
        go_quiet (fail)
        go_wp2_with fail
        exact ⟨⟨k + 1, by omega, by go_num, by rw [HS2.out], HA.out.drewM _, HB.out.drewM _, Below.drewM HBL.out _⟩, by simp [intOf]; omega⟩
      · have hx' : ¬ (x : Int) < (y : Int) := by omega
        have HD := Lib.hid (show s = lackS L M (k + 1) by rw [HS.out]; omega)
        clear HS hx hy hA hB hb
        generalize (x : Int) = X at c1 hx'
        generalize (y : Int) = Y at c2 hx'
        go_wp2_with fail
        go_quiet (fail)
        go_wp2_with fail
        exact ⟨⟨k + 1, by omega, by go_num, by rw [← HD.out]; exact congrArg _ (by omega), HA.out.drewM nq, HB.out.drewM nq, Below.drewM HBL.out nq⟩, by simp [intOf]; omega⟩
    · obtain rfl : k = 6 := by omega
      generalize hv : ((lackS L M 6 % 18446744073709551616 : Nat) : Int) = v
      have HV := Lib.hid (show v = ((lackV L M : Nat) : Int) from hv.symm)
      clear hv hA hB
      go_wp2_with fail
      go_ret
      exact ⟨congrArg (fun z => Ending.returned (.int .u64 z)) HV.out, hb⟩
theorem retV (W : World) (L : List Nat) (hL : L.length = 6) {g : Nat} (hB : Blk W g 24 (vecA L)) {fn : Func} {p : Tmp} (h : fn.results = #[.cell p 24]) (tmps : Array Value) (hp : tmps.getD p undef = .pointer (some ⟨g, 0, none⟩)) :
    (results fn tmps).run Try.prog W = .ok (.agg (vecA L)) W :=
  results_cell_row h tmps W g 24 (vecA L) (0, 0) _ hp hB Try.underlying24 rfl (infoV_of L hL)
theorem joinV_at {A B : List Nat} (hA : A.length = 6) (hB : B.length = 6) (k : Nat) (hk : k < 6) (h1 : k < A.length) (h2 : k < B.length) (h3 : k < (joinV [A, B]).length) : (joinV [A, B])[k] = if A[k] < B[k] then B[k] else A[k] := by
  obtain ⟨a, b, c, d, e, f, rfl⟩ := six hA
  obtain ⟨a', b', c', d', e', f', rfl⟩ := six hB
  have hm : ∀ x y, pick gtN x y = if x < y then y else x := fun x y => by
    unfold pick gtN
    by_cases h : x < y <;> simp [h]
  match k, hk with
  | 0, _ | 1, _ | 2, _ | 3, _ | 4, _ | 5, _ => exact hm _ _
theorem meetV_at {A B : List Nat} (hA : A.length = 6) (hB : B.length = 6) (k : Nat) (hk : k < 6) (h1 : k < A.length) (h2 : k < B.length) (h3 : k < (meetV [A, B]).length) : (meetV [A, B])[k] = if B[k] < A[k] then B[k] else A[k] := by
  obtain ⟨a, b, c, d, e, f, rfl⟩ := six hA
  obtain ⟨a', b', c', d', e', f', rfl⟩ := six hB
  have hm : ∀ x y, pick ltN x y = if y < x then y else x := fun x y => by
    unfold pick ltN
    by_cases h : y < x <;> simp [h]
  match k, hk with
  | 0, _ | 1, _ | 2, _ | 3, _ | 4, _ | 5, _ => exact hm _ _
structure RJ (w W : World) (N M : List Nat) : Prop where
  a : Blk W w.heap.size 24 (vecA N)
  b : Blk W (w.heap.size + 1) 24 (vecA M)
  r : Blk W (w.heap.size + 1 + 1) 24 (vecA Z6)
  bel : Below w.heap.size w W
theorem RJ.start (w : World) (L M : List Nat) : RJ w (((w.alloc (.cells (vecA L) 24)).alloc (.cells (vecA M) 24)).alloc (.cells #[.int .u64 0, .int .u64 0, .int .u64 0, .int .u64 0, .int .u64 0, .int .u64 0] 24)) L M :=
  ⟨((Blk.new w 24 (vecA L)).alloc _).alloc _, (Blk.at_ _ _ _ _ (by simp)).alloc _, Blk.at_ _ _ (vecA Z6) _ (by simp), (((Below.refl w.heap.size w).alloc (Nat.le_refl _) _).alloc (by simp) _).alloc (by simp; omega) _⟩
theorem RJ.put {w W : World} {N M : List Nat} (h : RJ w W N M) (k x : Nat) : RJ w (W.setCell ⟨w.heap.size, k, none⟩ (.int .u64 (x : Int))).drew (N.set k x) M :=
  ⟨by rw [← vecA_set]; exact (h.a.set_ k _).drew, (h.b.far (p := ⟨w.heap.size, k, none⟩) (by show w.heap.size + 1 ≠ w.heap.size; omega) _).drew, (h.r.far (p := ⟨w.heap.size, k, none⟩) (by show w.heap.size + 1 + 1 ≠ w.heap.size; omega) _).drew,
    (h.bel.setCell (p := ⟨w.heap.size, k, none⟩) (Nat.le_refl _) _).drew⟩
set_option maxRecDepth 100000 in
theorem rjoin_two (L M : List Nat) (hL : L.length = 6) (hM : M.length = 6) (w : World) : Calls Try.prog 57 #[.agg (vecA L), .agg (vecA M)] w fun e w' => e = .returned (.agg (vecA (joinV [L, M]))) ∧ Below w.heap.size w w' := by
  have HL := Lib.hid hL
  have HM := Lib.hid hM
  obtain ⟨J, hJ⟩ : ∃ J, Hid (joinV [L, M] = J) := ⟨_, Lib.hid rfl⟩
  have HJ6 : Hid (J.length = 6) := by show _ = _; rw [← hJ.out]; exact jlen hL hM
  have h0 := RJ.start w L M
  have HS : Hid (L = mjV J L 0) := (mjV_zero J L).symm
  rw [hJ.out]
  clear hL hM
  go_enter Try.func57, Try.ntmps57
  go_wp2_with fail
  generalize ((w.alloc (.cells (vecA L) 24)).alloc (.cells (vecA M) 24)).alloc (.cells #[.int .u64 0, .int .u64 0, .int .u64 0, .int .u64 0, .int .u64 0, .int .u64 0] 24) = W1 at h0 ⊢
  go_loopw [5] (fun i wr => ∃ k : Nat, k ≤ 6 ∧ i = .int .i64 k ∧ RJ w wr (mjV J L k) M) (fun i _ => 6 - (intOf i).toNat)
  case atStart => exact ⟨0, by omega, rfl, by rw [← HS.out]; exact h0⟩
  case round =>
    clear h0
    obtain ⟨k, hk, rfl, hr⟩ := hrel
    by_cases hlt : k < 6
    · have hkl : k < L.length := by rw [HL.out]; exact hlt
      have hkm : k < M.length := by rw [HM.out]; exact hlt
      have hkj : k < J.length := by rw [HJ6.out]; exact hlt
      have hkx : k < (mjV J L k).length := by rw [mjV_len HJ6.out HL.out k hk]; exact hlt
      have ex : (mjV J L k)[k] = L[k] := by
        have := mjV_at HJ6.out HL.out k hlt
        rw [List.getElem?_eq_getElem hkx, List.getElem?_eq_getElem hkl] at this
        injection this
      have c1 := hr.a.vat k hkx
      rw [ex] at c1
      have c2 := hr.b.vat k hkm
      have c3 := hr.a.frozen k
      have hj : J[k] = if L[k] < M[k] then M[k] else L[k] := by
        have := joinV_at HL.out HM.out k hlt hkl hkm (by rw [hJ.out]; exact hkj)
        simp only [hJ.out] at this; exact this
      have PUT := Lib.hid (hr.put k J[k])
      rw [mjV_set HJ6.out HL.out k hlt hkj] at PUT
      clear ex hr
      generalize L[k] = x at c1 hj
      generalize M[k] = y at c2 hj
      generalize J[k] = z at PUT hj
      by_cases hc : x < y
      case' pos => rw [if_pos hc] at hj
      case' neg => rw [if_neg hc] at hj
      all_goals
        rw [hj] at PUT
        clear hj
        go_wp2_with fail
        go_region
        go_wp2_with fail
        go_roundw
        case rel => exact ⟨k + 1, by omega, by go_num, PUT.out⟩
        case measure => simp [intOf]; omega
    · obtain rfl : k = 6 := by omega
      rw [mjV_all HJ6.out HL.out] at hr
      have l1 : (loadV (.pointer (some ⟨w.heap.size, 0, none⟩))).run Try.prog wr = .ok (.agg (vecA J)) wr := run_loadV HJ6.out hr.a
      have s1 : (storeV (.pointer (some ⟨w.heap.size + 1 + 1, 0, none⟩)) (.agg (vecA J))).run Try.prog wr = .ok () (wr.setRow (w.heap.size + 1 + 1) (vecA J)) := run_storeV HJ6.out hr.r rfl
      have HR := Lib.hid hr
      clear hr
      go_wp2_with fail
      exact bodyPost_ret (retV _ J HJ6.out (HR.out.r.row (vecA J)) Try.results57 _ rfl) rfl ⟨rfl, below_setRow HR.out.bel (by omega) _⟩
set_option maxRecDepth 100000 in
theorem rmeet_two (L M : List Nat) (hL : L.length = 6) (hM : M.length = 6) (w : World) : Calls Try.prog 59 #[.agg (vecA L), .agg (vecA M)] w fun e w' => e = .returned (.agg (vecA (meetV [L, M]))) ∧ Below w.heap.size w w' := by
  have HL := Lib.hid hL
  have HM := Lib.hid hM
  obtain ⟨J, hJ⟩ : ∃ J, Hid (meetV [L, M] = J) := ⟨_, Lib.hid rfl⟩
  have HJ6 : Hid (J.length = 6) := by show _ = _; rw [← hJ.out]; exact mlen hL hM
  have h0 := RJ.start w L M
  have HS : Hid (L = mjV J L 0) := (mjV_zero J L).symm
  rw [hJ.out]
  clear hL hM
  go_enter Try.func59, Try.ntmps59
  go_wp2_with fail
  generalize ((w.alloc (.cells (vecA L) 24)).alloc (.cells (vecA M) 24)).alloc (.cells #[.int .u64 0, .int .u64 0, .int .u64 0, .int .u64 0, .int .u64 0, .int .u64 0] 24) = W1 at h0 ⊢
  go_loopw [5] (fun i wr => ∃ k : Nat, k ≤ 6 ∧ i = .int .i64 k ∧ RJ w wr (mjV J L k) M) (fun i _ => 6 - (intOf i).toNat)
  case atStart => exact ⟨0, by omega, rfl, by rw [← HS.out]; exact h0⟩
  case round =>
    clear h0
    obtain ⟨k, hk, rfl, hr⟩ := hrel
    by_cases hlt : k < 6
    · have hkl : k < L.length := by rw [HL.out]; exact hlt
      have hkm : k < M.length := by rw [HM.out]; exact hlt
      have hkj : k < J.length := by rw [HJ6.out]; exact hlt
      have hkx : k < (mjV J L k).length := by rw [mjV_len HJ6.out HL.out k hk]; exact hlt
      have ex : (mjV J L k)[k] = L[k] := by
        have := mjV_at HJ6.out HL.out k hlt
        rw [List.getElem?_eq_getElem hkx, List.getElem?_eq_getElem hkl] at this
        injection this
      have c1 := hr.a.vat k hkx
      rw [ex] at c1
      have c2 := hr.b.vat k hkm
      have c3 := hr.a.frozen k
      have hj : J[k] = if M[k] < L[k] then M[k] else L[k] := by
        have := meetV_at HL.out HM.out k hlt hkl hkm (by rw [hJ.out]; exact hkj)
        simp only [hJ.out] at this; exact this
      have PUT := Lib.hid (hr.put k J[k])
      rw [mjV_set HJ6.out HL.out k hlt hkj] at PUT
      clear ex hr
      generalize L[k] = x at c1 hj
      generalize M[k] = y at c2 hj
      generalize J[k] = z at PUT hj
      by_cases hc : y < x
      case' pos => rw [if_pos hc] at hj
      case' neg => rw [if_neg hc] at hj
      all_goals
        rw [hj] at PUT
        clear hj
        go_wp2_with fail
        go_region
        go_wp2_with fail
        go_roundw
        case rel => exact ⟨k + 1, by omega, by go_num, PUT.out⟩
        case measure => simp [intOf]; omega
    · obtain rfl : k = 6 := by omega
      rw [mjV_all HJ6.out HL.out] at hr
      have l1 : (loadV (.pointer (some ⟨w.heap.size, 0, none⟩))).run Try.prog wr = .ok (.agg (vecA J)) wr := run_loadV HJ6.out hr.a
      have s1 : (storeV (.pointer (some ⟨w.heap.size + 1 + 1, 0, none⟩)) (.agg (vecA J))).run Try.prog wr = .ok () (wr.setRow (w.heap.size + 1 + 1) (vecA J)) := run_storeV HJ6.out hr.r rfl
      have HR := Lib.hid hr
      clear hr
      go_wp2_with fail
      exact bodyPost_ret (retV _ J HJ6.out (HR.out.r.row (vecA J)) Try.results59 _ rfl) rfl ⟨rfl, below_setRow HR.out.bel (by omega) _⟩
end Go.Proofs.Ytdliklkfhakmhaa
