import Derived.Test.YtdliklkfhakmhaaVecP
namespace Go.Proofs.Ytdliklkfhakmhaa
open Go.RowKit
attribute [local go_sem ↓] exec_loadV exec_storeV exec_buildV Go.wp_at_zero Go.wp_at_succ
/-! gossip: what others know. -/
theorem greg_yes (k : Nat) (hk : k < 6) (w : World) : Calls Try.prog 60 #[.int .i64 ((k : Int) + 1)] w fun e w' => e = .returned (.bool true) ∧ w = w' := by
  have h1 : (1 : Int) ≤ (k : Int) + 1 := by omega
  have h2 : (k : Int) + 1 ≤ 6 := by omega
  go_enter Try.func60, Try.ntmps60
  go_wp2_with fail
  go_ret
  exact ⟨rfl, rfl⟩
theorem greg_no (z : Int) (h : z < 1 ∨ 6 < z) (w : World) : Calls Try.prog 60 #[.int .i64 z] w fun e w' => e = .returned (.bool false) ∧ w = w' := by
  rcases h with h | h
  case' inl => have h1 : ¬ (1 : Int) ≤ z := by omega
  case' inr =>
    have h1 : (1 : Int) ≤ z := by omega
    have h2 : ¬ z ≤ 6 := by omega
  all_goals
    go_enter Try.func60, Try.ntmps60
    go_wp2_with fail
    go_ret
    exact ⟨rfl, rfl⟩
def Z6A : Array Value := #[.int .u64 0, .int .u64 0, .int .u64 0, .int .u64 0, .int .u64 0, .int .u64 0]
theorem store_zero : ∀ W : World, (storeV (.pointer (some ⟨W.heap.size, 0, none⟩)) (.agg #[.int .u64 0, .int .u64 0, .int .u64 0, .int .u64 0, .int .u64 0, .int .u64 0])).run Try.prog (W.alloc (.cells #[.int .u64 0, .int .u64 0, .int .u64 0, .int .u64 0, .int .u64 0, .int .u64 0] 24)) = .ok () (W.alloc (.cells #[.int .u64 0, .int .u64 0, .int .u64 0, .int .u64 0, .int .u64 0, .int .u64 0] 24)) := fun W => run_storeV_new (W := W) (L := Z6) rfl
theorem ret_vec (W : World) (L : List Nat) (hL : L.length = 6) {g : Nat} (hB : Blk W g 24 (vecA L)) {fn : Func} {p : Tmp} (h : fn.results = #[.cell p 24]) (tmps : Array Value) (hp : tmps.getD p undef = .pointer (some ⟨g, 0, none⟩)) :
    (results fn tmps).run Try.prog W = .ok (.agg (vecA L)) W :=
  results_cell_row h tmps W g 24 (vecA L) (0, 0) _ hp hB Try.underlying24 rfl (infoV_of L hL)
theorem of_nil (z : Int) (w : World) : Calls Try.prog 38 #[.pointer none, .int .i64 z] w fun e w' => e = .returned (.agg (vecA Z6)) ∧ Below w.heap.size w w' := by
  have s0 := store_zero
  have hb := (Below.refl w.heap.size w).alloc (Nat.le_refl _) (.cells (vecA Z6) 24)
  go_enter Try.func38, Try.ntmps38
  go_wp2_with fail
  exact bodyPost_ret (ret_vec _ Z6 rfl (Blk.new w 24 (vecA Z6)) Try.results38 _ rfl) rfl ⟨rfl, hb⟩
theorem of_no (g : Nat) (z : Int) (hz : z < 1 ∨ 6 < z) (w : World) : Calls Try.prog 38 #[.pointer (some ⟨g, 0, none⟩), .int .i64 z] w fun e w' => e = .returned (.agg (vecA Z6)) ∧ Below w.heap.size w w' := by
  have s0 := store_zero
  have hb := (Below.refl w.heap.size w).alloc (Nat.le_refl _) (.cells (vecA Z6) 24)
  go_enter Try.func38, Try.ntmps38
  go_wp2_with fail
  refine (greg_no z hz _).mono ?_
  rintro e w1 ⟨rfl, rfl⟩
  go_wp2_with fail
  exact bodyPost_ret (ret_vec _ Z6 rfl (Blk.new w 24 (vecA Z6)) Try.results38 _ rfl) rfl ⟨rfl, hb⟩
set_option maxRecDepth 100000 in
theorem of_yes (g : Nat) (t : TypeId) (K : List (List Nat)) (hK : Six6 K) (k : Nat) (hk : k < 6) (L : List Nat) (hL : K[k]? = some L) (w : World) (hB : Blk w g t (peersA K)) :
    Calls Try.prog 38 #[.pointer (some ⟨g, 0, none⟩), .int .i64 ((k : Int) + 1)] w fun e w' => e = .returned (.agg (vecA L)) ∧ Below w.heap.size w w' := by
  have h6 := Lib.hid (hK.each L (List.mem_of_getElem? hL))
  have hb := (Below.refl w.heap.size w).alloc (Nat.le_refl _) (.cells (vecA L) 24)
  have l0 : ∀ W, Blk W g t (peersA K) → (loadV (.pointer (some ⟨g, k * 6, none⟩))).run Try.prog W = .ok (.agg (vecA L)) W := fun W h => run_loadV_mid h6.out (peers_range hK h k hk L hL)
  have s0 : ∀ W : World, (storeV (.pointer (some ⟨W.heap.size, 0, none⟩)) (.agg (vecA L))).run Try.prog (W.alloc (.cells #[.int .u64 0, .int .u64 0, .int .u64 0, .int .u64 0, .int .u64 0, .int .u64 0] 24)) = .ok () (W.alloc (.cells (vecA L) 24)) := fun W => run_storeV_new h6.out
  have hB2 := hB.alloc (.cells (vecA Z6) 24)
  have hB3 : Blk (w.alloc (.cells #[.int .u64 0, .int .u64 0, .int .u64 0, .int .u64 0, .int .u64 0, .int .u64 0] 24)) g t (peersA K) := hB2
  clear hB2 hL
  go_enter Try.func38, Try.ntmps38
  go_wp2_with fail
  refine (greg_yes k hk _).mono ?_
  rintro e w1 ⟨rfl, rfl⟩
  go_wp2_with fail
  exact bodyPost_ret (ret_vec _ L h6.out (Blk.new w 24 (vecA L)) Try.results38 _ rfl) rfl ⟨rfl, hb⟩
end Go.Proofs.Ytdliklkfhakmhaa
