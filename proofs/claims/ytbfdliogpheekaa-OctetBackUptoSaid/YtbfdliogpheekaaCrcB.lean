import Derived.Test.YtbfdliogpheekaaCrcA
import Derived.Laws.Tables
import Derived.Deep.WholeRow
namespace Go.Proofs.Ytbfdliogpheekaa
open Go.RowKit
/-- a table of 32 numbers, as cells. -/
def cols (f : Nat → BitVec 32) : Array Value := ((List.range 32).map fun i => Value.int .u32 (U (f i))).toArray
theorem cols_size (f : Nat → BitVec 32) : (cols f).size = 32 := by simp [cols]
theorem cols_at (f : Nat → BitVec 32) (k : Nat) (h : k < 32) : (cols f)[k]? = some (.int .u32 (U (f k))) := by simp [cols, h]
theorem cols_one (f : Nat → BitVec 32) : (cols f).all (·.oneCell') = true := by
  simp [cols, Value.oneCell']
theorem info72 : (Try.prog.info? 72).map (·.size) = some 32 := by kernel_rfl
theorem cols_info (f : Nat → BitVec 32) : (Try.prog.info? 72).map (·.size) = some (cols f).size := by rw [cols_size]; exact info72
theorem cols_index (f : Nat → BitVec 32) (k : Nat) (h : k < 32) (W : World) : (Instr.index 72 (.agg (cols f)) (.int .i64 (k : Int))).run Try.prog W = .ok (.int .u32 (U (f k))) W :=
  run_index_arr W 72 51 32 _ _ k _ Try.underlying72 (by kernel_rfl) (by kernel_rfl) h (cols_at f k h)
theorem of_yes (f : Nat → BitVec 32) (s : BitVec 32) (k : Nat) (h : bitB s k = true) : Cm.ofCols f s k ^^^ f k = Cm.ofCols f s (k + 1) := by
  unfold bitB at h; simp [Cm.ofCols, h]
theorem of_no (f : Nat → BitVec 32) (s : BitVec 32) (k : Nat) (h : bitB s k = false) : Cm.ofCols f s k = Cm.ofCols f s (k + 1) := by
  unfold bitB at h; simp [Cm.ofCols, h]
set_option maxHeartbeats 400000 in
theorem of_any (f : Nat → BitVec 32) (s : BitVec 32) (w : World) :
    Calls Try.prog 49 #[.agg (cols f), .int .u32 (U s)] w fun e w' => e = .returned (.int .u32 (U (Cm.ofCols f s 32))) ∧ w.alloc (.cells (cols f) 72) = w' := by
  have hg := heap_alloc_new w (.cells (cols f) 72)
  go_enter Try.func49, Try.ntmps49
  go_wp2_with (refine wpList_load_row rfl 72 _ rfl _ rfl 72 (cols f) (0, 0) _ hg Try.underlying72 rfl (cols_info f) ?_)
  clear hg
  go_loop [5, 6, 7, 9] (fun o _ _ i => ∃ k : Nat, k ≤ 32 ∧ i = .int .i64 k ∧ o = .int .u32 (U (Cm.ofCols f s k))) (fun _ _ _ i => 32 - (intOf i).toNat)
  case atStart => exact ⟨0, by omega, rfl, rfl⟩
  case round =>
    obtain ⟨k, hk, rfl, rfl⟩ := hrel
    by_cases hlt : k < 32
    · have hix := cols_index f k hlt
      go_wp2
      · go_round
        case rel => exact ⟨k + 1, by omega, by go_num, val_U (of_yes f s k ‹_›)⟩
        case measure => simp [intOf]; omega
      · go_round
        case rel => exact ⟨k + 1, by omega, by go_num, val_U (of_no f s k ‹_›)⟩
        case measure => simp [intOf]; omega
    · go_wp2
      go_ret
      obtain rfl : k = 32 := by omega
      exact ⟨rfl, rfl⟩
/-- a table of 32 of which the first k are there. -/
def colsTo (f : Nat → BitVec 32) (k : Nat) : Array Value := cols fun i => if i < k then f i else 0#32
theorem colsTo_all (f : Nat → BitVec 32) : colsTo f 32 = cols f := by
  unfold colsTo cols
  apply congrArg List.toArray
  apply List.map_congr_left
  intro i hi
  have : i < 32 := by simpa using hi
  simp only [if_pos this]
theorem colsTo_zero (f : Nat → BitVec 32) : colsTo f 0 = (List.replicate 32 (Value.int .u32 0)).toArray := by
  unfold colsTo cols
  rfl
theorem colsTo_set (f : Nat → BitVec 32) (k : Nat) (h : k < 32) : (colsTo f k).setIfInBounds k (.int .u32 (U (f k))) = colsTo f (k + 1) := by
  apply Array.ext_getElem?
  intro i
  rw [Array.getElem?_setIfInBounds]
  by_cases hi : i < 32
  · rw [show (colsTo f (k + 1))[i]? = _ from cols_at _ i hi]
    by_cases e : k = i
    · subst e; simp [show k < (colsTo f k).size from by rw [show (colsTo f k).size = 32 from cols_size _]; exact hi]
    · rw [if_neg e, show (colsTo f k)[i]? = _ from cols_at _ i hi]
      by_cases h1 : i < k
      · rw [if_pos h1, if_pos (by omega)]
      · rw [if_neg h1, if_neg (by omega)]
  · rw [if_neg (by omega), Array.getElem?_eq_none (by rw [show (colsTo f k).size = 32 from cols_size _]; omega), Array.getElem?_eq_none (by rw [show (colsTo f (k + 1)).size = 32 from cols_size _]; omega)]
def fz : Nat → BitVec 32 := fun i => Cm.steps 8 (1#32 <<< i)
/-- where the making of the table stands behind k rounds. -/
def Nought (w : World) (k : Nat) (wr : World) : Prop :=
  Blk wr w.heap.size 72 (colsTo fz 0) ∧ Blk wr (w.heap.size + 1) 72 (colsTo fz k) ∧ Below w.heap.size w wr
theorem Nought.start (w : World) : Nought w 0 ((w.alloc (.cells (colsTo fz 0) 72)).alloc (.cells (colsTo fz 0) 72)) := by
  refine ⟨(Blk.new w _ _).alloc _, ?_, ((Below.refl _ _).alloc (Nat.le_refl _) _).alloc (by simp) _⟩
  have := Blk.new (w.alloc (.cells (colsTo fz 0) 72)) 72 (colsTo fz 0)
  simpa using this
theorem Nought.cell {w wr : World} {k : Nat} (h : Nought w k wr) (hk : k < 32) : wr.cell? ⟨w.heap.size + 1, k, none⟩ = some (.int .u32 (U 0#32)) := by
  rw [h.2.1.cell, show (colsTo fz k)[k]? = _ from cols_at _ k hk, if_neg (by omega)]
theorem Nought.next {w wr : World} {k : Nat} (h : Nought w k wr) (hk : k < 32) : Nought w (k + 1) (wr.setCell ⟨w.heap.size + 1, k, none⟩ (.int .u32 (U (Cm.steps 8 (1#32 <<< k))))) := by
  refine ⟨h.1.far (by simp) _, ?_, h.2.2.setCell (by simp) _⟩
  have := h.2.1.set_ k (.int .u32 (U (fz k)))
  rw [colsTo_set fz k hk] at this
  exact this
set_option maxHeartbeats 400000 in
theorem byNought_any (w : World) :
    Calls Try.prog 48 #[] w fun e w' => e = .returned (.agg (cols fz)) ∧ Below w.heap.size w w' := by
  go_enter Try.func48, Try.ntmps48
  go_wp2_with fail
  go_loopw [2, 3] (fun _ i wr => ∃ k : Nat, k ≤ 32 ∧ i = .int .i64 k ∧ Nought w k wr) (fun _ i _ => 32 - (intOf i).toNat)
  case atStart => exact ⟨0, by omega, rfl, Nought.start w⟩
  case round =>
    obtain ⟨k, hk, rfl, hN⟩ := hrel
    by_cases hlt : k < 32
    · have hc := hN.cell hlt
      have hf := hN.2.1.frozen k
      go_wp2_with (go_at_call 46; rw [shl_one k]; refine (byByte_any _ _).mono ?_; rintro e w' ⟨rfl, rfl⟩)
      go_roundw
      case rel => exact ⟨k + 1, by omega, by go_num, hN.next hlt⟩
      case measure => simp [intOf]; omega
    · obtain rfl : k = 32 := by omega
      obtain ⟨h1, h2, h3⟩ := hN
      rw [colsTo_all] at h2
      have hb : Below w.heap.size w (wr.setRow w.heap.size (cols fz)) := below_setRow h3 (Nat.le_refl _) _
      have hr := h1.row (cols fz)
      go_wp2_with (first | (refine wpList_load_row rfl 72 _ rfl _ rfl 72 (cols fz) (0, 0) _ h2 Try.underlying72 rfl (cols_info fz) ?_) | (refine wpList_store_row rfl 72 _ _ rfl _ (cols fz) rfl rfl 72 _ h1 (cols_info fz) (by rw [cols_size]; exact cols_size _) (cols_one fz) ?_))
      exact bodyPost_ret (results_cell_row Try.results48 _ _ _ 72 (cols fz) (0, 0) _ rfl hr Try.underlying72 rfl (cols_info fz)) rfl ⟨rfl, hb⟩
end Go.Proofs.Ytbfdliogpheekaa
