import Derived.Test.YtmddbpkojboogaaKit
import Derived.Laws.Tables
import Derived.Deep.WholeRow
namespace Go.Proofs.Ytmddbpkojboogaa
open Go.RowKit
/-! vectors: six numbers. -/
def vecA (L : List Nat) : Array Value := (L.map fun n : Nat => Value.int .u64 (n : Int)).toArray
theorem vecA_size (L : List Nat) : (vecA L).size = L.length := by simp [vecA]
theorem vecA_at (L : List Nat) (k : Nat) (h : k < L.length) : (vecA L)[k]? = some (.int .u64 ((L[k] : Nat) : Int)) := by simp [vecA, h]
theorem vecA_one (L : List Nat) : (vecA L).all (·.oneCell') = true := by simp [vecA, Value.oneCell']
theorem infoV : (Try.prog.info? 24).map (·.size) = some 6 := by kernel_rfl
theorem infoV_of (L : List Nat) (h : L.length = 6) : (Try.prog.info? 24).map (·.size) = some (vecA L).size := by rw [vecA_size, h]; exact infoV
theorem vec_index (L : List Nat) (h : L.length = 6) (k : Nat) (hk : k < 6) (W : World) : (Instr.index 24 (.agg (vecA L)) (.int .i64 (k : Int))).run Try.prog W = .ok (.int .u64 ((L[k]'(by omega) : Nat) : Int)) W :=
  run_index_arr W 24 22 6 _ _ k _ Try.underlying24 (by kernel_rfl) (by kernel_rfl) hk (vecA_at L k (by omega))
theorem all_take {p : Nat → Bool} (L : List Nat) (k : Nat) (h : k < L.length) : (L.take (k + 1)).all p = ((L.take k).all p && p L[k]) := by
  rw [List.take_succ_eq_append_getElem h, List.all_append]; simp
theorem all_no {p : Nat → Bool} (L : List Nat) (k : Nat) (h : k < L.length) (hp : p L[k] = false) : L.all p = false := by
  rw [List.all_eq_false]
  exact ⟨L[k], List.getElem_mem h, by rw [hp]; simp⟩
theorem all_step {p : Nat → Bool} (L : List Nat) (k : Nat) (h : k < L.length) (ha : (L.take k).all p = true) (hp : p L[k] = true) : (L.take (k + 1)).all p = true := by
  rw [all_take L k h, ha, hp]; rfl
/-- may a number be? -/
def mayN (n : Nat) : Bool := decide (n ≤ 1099511627776)
/-- may a vector be? -/
def mayV (L : List Nat) : Bool := L.all mayN
def MayTo (L : List Nat) (k : Nat) : Prop := (L.take k).all mayN = true
set_option maxRecDepth 20000 in
theorem may_any (L : List Nat) (h : L.length = 6) (w : World) : Calls Try.prog 10 #[.agg (vecA L)] w fun e w' => e = .returned (.bool (mayV L)) ∧ Below w.heap.size w w' := by
  have hg := heap_alloc_new w (.cells (vecA L) 24)
  have hb := (Below.refl w.heap.size w).alloc (Nat.le_refl _) (.cells (vecA L) 24)
  have HL := Lib.hid h
  clear h
  go_enter Try.func10, Try.ntmps10
  go_wp2_with (refine wpList_load_row rfl 24 _ rfl _ rfl 24 (vecA L) (0, 0) _ hg Try.underlying24 rfl (infoV_of L HL.out) ?_)
  generalize hW : w.alloc (.cells (vecA L) 24) = W1 at hb
  clear hg
  go_loopw [6] (fun i wr => ∃ k : Nat, k ≤ 6 ∧ i = .int .i64 k ∧ MayTo L k ∧ wr = W1) (fun i _ => 6 - (intOf i).toNat)
  case atStart => exact ⟨0, by omega, rfl, rfl, rfl⟩
  case round =>
    clear hW
    obtain ⟨k, hk, rfl, hall, rfl⟩ := hrel
    by_cases hlt : k < 6
    · have hix := vec_index L HL.out k hlt wr
      have hkl : k < L.length := by rw [HL.out]; exact hlt
      have HNO := Lib.hid (all_no (p := mayN) L k hkl)
      have HYES := Lib.hid (all_step (p := mayN) L k hkl hall)
      generalize L[k] = x at hix HNO HYES
      by_cases hx : x ≤ 1099511627776
      · have hx' : ¬ (1099511627776 : Int) < (x : Int) := by omega
        have hnext : MayTo L (k + 1) := HYES.out (decide_eq_true hx)
        clear HYES HNO hall
        go_wp2_with fail
        go_roundw
        case rel => exact ⟨k + 1, by omega, by go_num, hnext, trivial⟩
        case measure => simp [intOf]; omega
      · have hx' : (1099511627776 : Int) < (x : Int) := by omega
        have hv : Hid (mayV L = false) := HNO.out (decide_eq_false hx)
        clear HYES HNO hall
        go_wp2_with fail
        go_ret
        exact ⟨by rw [hv.out]; rfl, hb⟩
    · obtain rfl : k = 6 := by omega
      have hv : Hid (mayV L = true) := by show _ = _; unfold mayV; rw [← (show (L.take 6).all mayN = true from hall), List.take_of_length_le (by rw [HL.out]; omega)]
      clear hall
      go_wp2_with fail
      go_ret
      exact ⟨by rw [hv.out]; rfl, hb⟩
end Go.Proofs.Ytmddbpkojboogaa
