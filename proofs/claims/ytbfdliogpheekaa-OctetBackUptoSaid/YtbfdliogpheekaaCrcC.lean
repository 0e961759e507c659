import Derived.Test.YtbfdliogpheekaaCrcB
namespace Go.Proofs.Ytbfdliogpheekaa
open Go.RowKit
def sq (f : Nat → BitVec 32) : Nat → BitVec 32 := fun i => Cm.ofCols f (f i) 32
/-- where the squaring stands behind k rounds. -/
def Squ (w : World) (f : Nat → BitVec 32) (k : Nat) (wr : World) : Prop :=
  Blk wr w.heap.size 72 (cols f) ∧ Blk wr (w.heap.size + 1) 72 (colsTo (sq f) 0) ∧ Blk wr (w.heap.size + 2) 72 (colsTo (sq f) k) ∧ Below w.heap.size w wr
theorem Squ.start (w : World) (f : Nat → BitVec 32) : Squ w f 0 (((w.alloc (.cells (cols f) 72)).alloc (.cells (colsTo (sq f) 0) 72)).alloc (.cells (colsTo (sq f) 0) 72)) := by
  have h1 := Blk.new w 72 (cols f)
  have h2 := Blk.new (w.alloc (.cells (cols f) 72)) 72 (colsTo (sq f) 0)
  have h3 := Blk.new ((w.alloc (.cells (cols f) 72)).alloc (.cells (colsTo (sq f) 0) 72)) 72 (colsTo (sq f) 0)
  refine ⟨(h1.alloc _).alloc _, ?_, ?_, (((Below.refl _ _).alloc (Nat.le_refl _) _).alloc (by simp) _).alloc (by simp; omega) _⟩
  · simpa using h2.alloc (.cells (colsTo (sq f) 0) 72)
  · simpa using h3
theorem Squ.cell {w wr : World} {f : Nat → BitVec 32} {k : Nat} (h : Squ w f k wr) (hk : k < 32) : wr.cell? ⟨w.heap.size + 2, k, none⟩ = some (.int .u32 (U 0#32)) := by
  rw [h.2.2.1.cell, show (colsTo (sq f) k)[k]? = _ from cols_at _ k hk, if_neg (by omega)]
theorem Squ.next {w wr : World} {f : Nat → BitVec 32} {k : Nat} (h : Squ w f k wr) (hk : k < 32) (o : Obj) :
    Squ w f (k + 1) ((wr.setCell ⟨w.heap.size + 2, k, none⟩ (.int .u32 (U (Cm.ofCols f (f k) 32)))).alloc o) := by
  have hs := h.2.2.2.size
  refine ⟨(h.1.far (by simp) _).alloc _, (h.2.1.far (by simp) _).alloc _, ?_, (h.2.2.2.setCell (by simp) _).alloc (by simpa [World.setCell] using hs) _⟩
  have := h.2.2.1.set_ k (.int .u32 (U (sq f k)))
  rw [colsTo_set (sq f) k hk] at this
  exact this.alloc _
set_option maxHeartbeats 400000 in
theorem squared_any (f : Nat → BitVec 32) (w : World) :
    Calls Try.prog 50 #[.agg (cols f)] w fun e w' => e = .returned (.agg (cols (sq f))) ∧ Below w.heap.size w w' := by
  have hg0 := (Squ.start w f).1
  go_enter Try.func50, Try.ntmps50
  go_wp2_with (refine wpList_load_row rfl 72 _ rfl _ rfl 72 (cols f) (0, 0) _ hg0 Try.underlying72 rfl (cols_info f) ?_)
  clear hg0
  go_loopw [4, 5, 7] (fun _ _ i wr => ∃ k : Nat, k ≤ 32 ∧ i = .int .i64 k ∧ Squ w f k wr) (fun _ _ i _ => 32 - (intOf i).toNat)
  case atStart => exact ⟨0, by omega, rfl, Squ.start w f⟩
  case round =>
    obtain ⟨k, hk, rfl, hN⟩ := hrel
    by_cases hlt : k < 32
    · have hc := hN.cell hlt
      have hf := hN.2.2.1.frozen k
      have h1 := hN.1
      have hz := hN.2.2.1.lt
      have hix := cols_index f k hlt
      go_wp2_with (first | (refine wpList_load_row rfl 72 _ rfl _ rfl 72 (cols f) (0, 0) _ h1 Try.underlying72 rfl (cols_info f) ?_) | (go_at_call 49; refine (of_any _ _ _).mono ?_; rintro e w' ⟨rfl, rfl⟩))
      go_roundw
      case rel => exact ⟨k + 1, by omega, by go_num, hN.next hlt _⟩
      case measure => simp [intOf]; omega
    · obtain rfl : k = 32 := by omega
      obtain ⟨h0, h1, h2, h3⟩ := hN
      rw [colsTo_all] at h2
      have hb : Below w.heap.size w (wr.setRow (w.heap.size + 1) (cols (sq f))) := below_setRow h3 (Nat.le_succ _) _
      have hr := h1.row (cols (sq f))
      go_wp2_with (first | (refine wpList_load_row rfl 72 _ rfl _ rfl 72 (cols (sq f)) (0, 0) _ h2 Try.underlying72 rfl (cols_info (sq f)) ?_) | (refine wpList_store_row rfl 72 _ _ rfl _ (cols (sq f)) rfl rfl 72 _ h1 (cols_info (sq f)) (by rw [cols_size]; exact cols_size _) (cols_one (sq f)) ?_))
      exact bodyPost_ret (results_cell_row Try.results50 _ _ _ 72 (cols (sq f)) (0, 0) _ rfl hr Try.underlying72 rfl (cols_info (sq f))) rfl ⟨rfl, hb⟩
end Go.Proofs.Ytbfdliogpheekaa
