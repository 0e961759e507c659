import Derived.Test.YtmddbpkojboogaaVecB
namespace Go.Proofs.Ytmddbpkojboogaa
open Go.RowKit
/-! vector: which is less, what one lacks. -/
def lessN (L M : List Nat) (k : Nat) : Bool := decide (L[k]?.getD 0 ≤ M[k]?.getD 0)
def lessV (L M : List Nat) : Bool := (List.range 6).all (lessN L M)
def LessTo (L M : List Nat) (k : Nat) : Prop := ∀ j, j < k → lessN L M j = true
theorem LessTo.all {L M : List Nat} (h : LessTo L M 6) : lessV L M = true := by
  unfold lessV
  rw [List.all_eq_true]
  exact fun j hj => h j (by simpa using hj)
theorem less_not {L M : List Nat} {k : Nat} (hk : k < 6) (h : lessN L M k = false) : lessV L M = false := by
  unfold lessV
  rw [List.all_eq_false]
  exact ⟨k, by simpa using hk, by rw [h]; simp⟩
theorem LessTo.succ {L M : List Nat} {k : Nat} (h : LessTo L M k) (hk : lessN L M k = true) : LessTo L M (k + 1) := fun j hj => by
  rcases Nat.lt_or_ge j k with h' | h'
  · exact h j h'
  · rw [show j = k by omega]; exact hk
set_option maxRecDepth 100000 in
theorem less_any (L M : List Nat) (hL : L.length = 6) (hM : M.length = 6) (w : World) : Calls Try.prog 12 #[.agg (vecA L), .agg (vecA M)] w fun e w' => e = .returned (.bool (lessV L M)) ∧ Below w.heap.size w w' := by
  have HL := Lib.hid hL
  have HM := Lib.hid hM
  have hb1 := (Below.refl w.heap.size w).alloc (Nat.le_refl _) (.cells (vecA L) 24)
  have hb2 := hb1.alloc (by simp) (.cells (vecA M) 24)
  have g1 := heap_alloc2_old w (.cells (vecA L) 24) (.cells (vecA M) 24)
  have g2 := heap_alloc2_new w (.cells (vecA L) 24) (.cells (vecA M) 24)
  clear hL hM hb1
  go_enter Try.func12, Try.ntmps12
  go_wp2_with (refine wpList_load_row rfl 24 _ rfl _ rfl 24 (vecA L) (0, 0) _ g1 Try.underlying24 rfl (infoV_of L HL.out) ?_)
  clear g1
  have hB : Blk ((w.alloc (.cells (vecA L) 24)).alloc (.cells (vecA M) 24)) (w.heap.size + 1) 24 (vecA M) := g2
  clear g2
  generalize (w.alloc (.cells (vecA L) 24)).alloc (.cells (vecA M) 24) = W1 at hb2 hB
  go_loopw [8] (fun i wr => ∃ k : Nat, k ≤ 6 ∧ i = .int .i64 k ∧ LessTo L M k ∧ wr = W1) (fun i _ => 6 - (intOf i).toNat)
  case atStart => exact ⟨0, by omega, rfl, (fun j hj => by omega), rfl⟩
  case round =>
    obtain ⟨k, hk, rfl, hall, rfl⟩ := hrel
    by_cases hlt : k < 6
    · have hix := vec_index L HL.out k hlt wr
      have hkl : k < L.length := by rw [HL.out]; exact hlt
      have hkm : k < M.length := by rw [HM.out]; exact hlt
      have hc := (hB.cell k).trans (vecA_at M k hkm)
      have hN : lessN L M k = decide (L[k] ≤ M[k]) := by unfold lessN; rw [List.getElem?_eq_getElem hkl, List.getElem?_eq_getElem hkm]; rfl
      have HN := Lib.hid hN
      clear hN
      generalize L[k] = x at hix HN
      generalize M[k] = y at hc HN
      by_cases hx : x ≤ y
      · have hnext := hall.succ (by rw [HN.out, decide_eq_true hx])
        have hx' : ¬ (y : Int) < (x : Int) := by omega
        clear HN hall hx
        generalize (x : Int) = X at hix hx'
        generalize (y : Int) = Y at hc hx'
        go_wp2_with fail
        go_roundw
        case rel => exact ⟨k + 1, by omega, by go_num, hnext, trivial⟩
        case measure => simp [intOf]; omega
      · have hv := less_not hlt (by rw [HN.out, decide_eq_false hx])
        have HV := Lib.hid hv
        have hx' : (y : Int) < (x : Int) := by omega
        clear HN hall hx hv
        generalize (x : Int) = X at hix hx'
        generalize (y : Int) = Y at hc hx'
        go_wp2_with fail
        go_ret
        exact ⟨by rw [HV.out]; rfl, hb2⟩
    · obtain rfl : k = 6 := by omega
      have HV := Lib.hid hall.all
      clear hall
      go_wp2_with fail
      go_ret
      exact ⟨by rw [HV.out]; rfl, hb2⟩
def lackN (L M : List Nat) (k : Nat) : Nat := M[k]?.getD 0 - L[k]?.getD 0
def lackS (L M : List Nat) : Nat → Nat
  | 0 => 0
  | k + 1 => lackS L M k + lackN L M k
def lackV (L M : List Nat) : Nat := lackS L M 6 % 18446744073709551616
theorem lack_wrap (s d : Nat) : IntKind.u64.wrap (((s % 18446744073709551616 : Nat) : Int) + (d : Int)) = (((s + d) % 18446744073709551616 : Nat) : Int) := by
  rw [IntKind.wrap_u64]; omega
set_option maxRecDepth 100000 in
theorem lack_any (L M : List Nat) (hL : L.length = 6) (hM : M.length = 6) (hMb : ∀ n ∈ M, n ≤ 18446744073709551615) (w : World) : Calls Try.prog 16 #[.agg (vecA L), .agg (vecA M)] w fun e w' => e = .returned (.int .u64 ((lackV L M : Nat) : Int)) ∧ Below w.heap.size w w' := by
  have HL := Lib.hid hL
  have HM := Lib.hid hM
  have HB := Lib.hid hMb
  have hb1 := (Below.refl w.heap.size w).alloc (Nat.le_refl _) (.cells (vecA L) 24)
  have hb2 := hb1.alloc (by simp) (.cells (vecA M) 24)
  have g1 := heap_alloc2_old w (.cells (vecA L) 24) (.cells (vecA M) 24)
  have g2 := heap_alloc2_new w (.cells (vecA L) 24) (.cells (vecA M) 24)
  clear hL hM hb1 hMb
  go_enter Try.func16, Try.ntmps16
  go_wp2_with (refine wpList_load_row rfl 24 _ rfl _ rfl 24 (vecA M) (0, 0) _ g2 Try.underlying24 rfl (infoV_of M HM.out) ?_)
  clear g2
  have hB : Blk ((w.alloc (.cells (vecA L) 24)).alloc (.cells (vecA M) 24)) w.heap.size 24 (vecA L) := g1
  clear g1
  generalize (w.alloc (.cells (vecA L) 24)).alloc (.cells (vecA M) 24) = W1 at hb2 hB
  go_loopw [5, 9] (fun s i wr => ∃ k : Nat, k ≤ 6 ∧ i = .int .i64 k ∧ s = .int .u64 ((lackS L M k % 18446744073709551616 : Nat) : Int) ∧ wr = W1) (fun _ i _ => 6 - (intOf i).toNat)
  case atStart => exact ⟨0, by omega, rfl, rfl, rfl⟩
  case round =>
    obtain ⟨k, hk, rfl, rfl, rfl⟩ := hrel
    by_cases hlt : k < 6
    · have hix := vec_index M HM.out k hlt wr
      have hkl : k < L.length := by rw [HL.out]; exact hlt
      have hkm : k < M.length := by rw [HM.out]; exact hlt
      have hc := (hB.cell k).trans (vecA_at L k hkl)
      have hy := HB.out M[k] (List.getElem_mem hkm)
      have hN : lackN L M k = M[k] - L[k] := by unfold lackN; rw [List.getElem?_eq_getElem hkl, List.getElem?_eq_getElem hkm]; rfl
      have hS : lackS L M (k + 1) = lackS L M k + lackN L M k := rfl
      rw [hN] at hS
      have HS := Lib.hid hS
      clear hN hS
      generalize L[k] = x at hc HS
      generalize M[k] = y at hix HS hy
      generalize lackS L M k = s at HS ⊢
      by_cases hx : x < y
      · have hx' : (x : Int) < (y : Int) := by omega
        have e1 : IntKind.u64.wrap ((y : Int) - (x : Int)) = ((y - x : Nat) : Int) := by rw [IntKind.wrap_u64]; omega
        have e2 := lack_wrap s (y - x)
        have HD := Lib.hid (show s + (y - x) = lackS L M (k + 1) from HS.out.symm)
        clear HS hx hy
        generalize y - x = d at e1 e2 HD
        generalize (x : Int) = X at hc hx' e1
        generalize (y : Int) = Y at hix hx' e1
        generalize ((s % 18446744073709551616 : Nat) : Int) = s1 at e2 ⊢
        generalize (d : Int) = D at e1 e2
        generalize hs2 : (((s + d) % 18446744073709551616 : Nat) : Int) = s2 at e2
        have HS2 := Lib.hid hs2
        clear hs2
        go_wp2_with fail
        go_roundw
        case rel => exact ⟨k + 1, by omega, by go_num, by rw [← HD.out, HS2.out], trivial⟩
        case measure => simp [intOf]; omega
      · have hx' : ¬ (x : Int) < (y : Int) := by omega
        have HD := Lib.hid (show s = lackS L M (k + 1) by rw [HS.out]; omega)
        clear HS hx hy
        generalize (x : Int) = X at hc hx'
        generalize (y : Int) = Y at hix hx'
        go_wp2_with fail
        go_roundw
        case rel => exact ⟨k + 1, by omega, by go_num, by rw [← HD.out], trivial⟩
        case measure => simp [intOf]; omega
    · obtain rfl : k = 6 := by omega
      generalize hv : ((lackS L M 6 % 18446744073709551616 : Nat) : Int) = v
      have HV := Lib.hid (show v = ((lackV L M : Nat) : Int) from hv.symm)
      clear hv
      go_wp2_with fail
      go_ret
      exact ⟨congrArg (fun z => Ending.returned (.int .u64 z)) HV.out, hb2⟩
end Go.Proofs.Ytmddbpkojboogaa
