import Derived.Test.YtmddbpkojboogaaVecA
import Derived.Laws.ResultCell
namespace Go.Proofs.Ytmddbpkojboogaa
open Go.RowKit
/-! vector: what is known, what comes next. -/
theorem results_row_tmp {P : Program} {fn : Func} {p u : Tmp} {ty : TypeId} (h : fn.results = #[.cell p ty, .tmp u]) (tmps : Array Value) (w : World) (g : Nat) (t : TypeId) (cs : Array Value) (fr : Nat × Nat) (d : TypeDesc)
    (hp : tmps.getD p undef = .pointer (some ⟨g, 0, none⟩)) (hg : w.heap[g]? = some (.cells cs t fr))
    (hu : P.underlying ty = some d) (hd : (match d with | .struct _ | .array _ _ => true | _ => false) = true) (hi : (P.info? ty).map (·.size) = some cs.size) :
    (results fn tmps).run P w = .ok (.tuple #[.agg cs, tmps.getD u undef]) w := by
  rw [results_cell_tmp h, hp]
  simp [asAddr, run_loadVar_row w g t ty cs fr d hg hu hd hi, Result.andThen]
theorem region_yes (k : Nat) (hk : k < 6) (w : World) : Calls Try.prog 33 #[.int .i64 ((k : Int) + 1)] w fun e w' => e = .returned (.bool true) ∧ w = w' := by
  have h1 : (1 : Int) ≤ (k : Int) + 1 := by omega
  have h2 : (k : Int) + 1 ≤ 6 := by omega
  go_enter Try.func33, Try.ntmps33
  go_wp2_with fail
  go_ret
  exact ⟨rfl, rfl⟩
theorem region_no (z : Int) (h : z < 1 ∨ 6 < z) (w : World) : Calls Try.prog 33 #[.int .i64 z] w fun e w' => e = .returned (.bool false) ∧ w = w' := by
  rcases h with h | h
  case' inl => have h1 : ¬ (1 : Int) ≤ z := by omega
  case' inr =>
    have h1 : (1 : Int) ≤ z := by omega
    have h2 : ¬ z ≤ 6 := by omega
  all_goals
    go_enter Try.func33, Try.ntmps33
    go_wp2_with fail
    go_ret
    exact ⟨rfl, rfl⟩
theorem reg_cases (z : Int) : (∃ k : Nat, k < 6 ∧ z = (k : Int) + 1) ∨ (z < 1 ∨ 6 < z) := by
  by_cases h : 1 ≤ z ∧ z ≤ 6
  · exact .inl ⟨(z - 1).toNat, by omega, by omega⟩
  · exact .inr (by omega)
theorem vcell (w : World) (L : List Nat) (t : TypeId) (k : Nat) (hk : k < L.length) : (w.alloc (.cells (vecA L) t)).cell? ⟨w.heap.size, k, none⟩ = some (.int .u64 ((L[k] : Nat) : Int)) := by
  rw [(Blk.new w t (vecA L)).cell, vecA_at L k hk]
set_option maxRecDepth 100000 in
theorem next_yes (L : List Nat) (h : L.length = 6) (k : Nat) (hk : k < L.length) (w : World) (hx : L[k] < 1099511627776) :
    Calls Try.prog 6 #[.agg (vecA L), .int .i64 ((k : Int) + 1)] w fun e w' => e = .returned (.tuple #[.int .u64 ((L[k] + 1 : Nat) : Int), .int .i64 0]) ∧ Below w.heap.size w w' := by
  have hb := (Below.refl w.heap.size w).alloc (Nat.le_refl _) (.cells (vecA L) 24)
  have hc := vcell w L 24 k hk
  have hk6 : k < 6 := by omega
  clear h
  generalize L[k] = x at hc hx ⊢
  have hx' : ¬ (1099511627776 : Int) ≤ (x : Int) := by omega
  rw [show ((x + 1 : Nat) : Int) = (x : Int) + 1 by omega]
  have hx2 : (x : Int) ≤ 1099511627775 := by omega
  have hx3 : (0 : Int) ≤ (x : Int) := by omega
  clear hx hx'
  generalize (x : Int) = y at hc hx2 hx3 ⊢
  go_enter Try.func6, Try.ntmps6
  go_wp2_with fail
  refine (region_yes k hk6 _).mono ?_
  rintro e w1 ⟨rfl, rfl⟩
  go_wp2_with fail
  go_ret2
  exact ⟨rfl, hb⟩
set_option maxRecDepth 100000 in
theorem next_many (L : List Nat) (h : L.length = 6) (k : Nat) (hk : k < L.length) (w : World) (hx : ¬ L[k] < 1099511627776) :
    Calls Try.prog 6 #[.agg (vecA L), .int .i64 ((k : Int) + 1)] w fun e w' => e = .returned (.tuple #[.int .u64 0, .int .i64 6]) ∧ Below w.heap.size w w' := by
  have hb := (Below.refl w.heap.size w).alloc (Nat.le_refl _) (.cells (vecA L) 24)
  have hc := vcell w L 24 k hk
  have hk6 : k < 6 := by omega
  clear h
  generalize L[k] = x at hc hx ⊢
  have hx' : (1099511627776 : Int) ≤ (x : Int) := by omega
  clear hx
  go_enter Try.func6, Try.ntmps6
  go_wp2_with fail
  refine (region_yes k hk6 _).mono ?_
  rintro e w1 ⟨rfl, rfl⟩
  go_wp2_with fail
  go_ret2
  exact ⟨rfl, hb⟩
theorem next_no (L : List Nat) (z : Int) (hz : z < 1 ∨ 6 < z) (w : World) :
    Calls Try.prog 6 #[.agg (vecA L), .int .i64 z] w fun e w' => e = .returned (.tuple #[.int .u64 0, .int .i64 10]) ∧ Below w.heap.size w w' := by
  have hb := (Below.refl w.heap.size w).alloc (Nat.le_refl _) (.cells (vecA L) 24)
  go_enter Try.func6, Try.ntmps6
  go_wp2_with fail
  refine (region_no z hz _).mono ?_
  rintro e w1 ⟨rfl, rfl⟩
  go_wp2_with fail
  go_ret2
  exact ⟨rfl, hb⟩
/-- is an event known? -/
def hasV (L : List Nat) (k : Nat) (s : Nat) : Bool := decide (1 ≤ s) && decide (s ≤ L[k]?.getD 0)
set_option maxRecDepth 100000 in
theorem has_yes (L : List Nat) (h : L.length = 6) (k : Nat) (hk : k < L.length) (s : Nat) (w : World) :
    Calls Try.prog 14 #[.agg (vecA L), .int .i64 ((k : Int) + 1), .int .u64 (s : Int)] w fun e w' => e = .returned (.bool (hasV L k s)) ∧ Below w.heap.size w w' := by
  have hb := (Below.refl w.heap.size w).alloc (Nat.le_refl _) (.cells (vecA L) 24)
  have hc := vcell w L 24 k hk
  have hk6 : k < 6 := by omega
  have hv : hasV L k s = (decide (1 ≤ s) && decide (s ≤ L[k])) := by unfold hasV; rw [List.getElem?_eq_getElem hk]; rfl
  rw [hv]
  clear h hv
  generalize L[k] = x at hc ⊢
  by_cases h1 : 1 ≤ s
  · have h1' : (1 : Int) ≤ (s : Int) := by omega
    rw [decide_eq_true h1]
    by_cases h2 : s ≤ x
    case' pos => 
      have h2' : (s : Int) ≤ (x : Int) := by omega
      rw [decide_eq_true h2]
    case' neg =>
      have h2' : ¬ (s : Int) ≤ (x : Int) := by omega
      rw [decide_eq_false h2]
    all_goals
      go_enter Try.func14, Try.ntmps14
      go_wp2_with fail
      refine (region_yes k hk6 _).mono ?_
      rintro e w1 ⟨rfl, rfl⟩
      go_wp2_with fail
      go_ret
      exact ⟨rfl, hb⟩
  · have h1' : ¬ (1 : Int) ≤ (s : Int) := by omega
    rw [decide_eq_false h1]
    go_enter Try.func14, Try.ntmps14
    go_wp2_with fail
    refine (region_yes k hk6 _).mono ?_
    rintro e w1 ⟨rfl, rfl⟩
    go_wp2_with fail
    go_ret
    exact ⟨rfl, hb⟩
theorem with_no (L : List Nat) (z : Int) (s : Int) (hz : z < 1 ∨ 6 < z) (w : World) :
    Calls Try.prog 8 #[.agg (vecA L), .int .i64 z, .int .u64 s] w fun e w' => e = .returned (.tuple #[.agg (vecA [0, 0, 0, 0, 0, 0]), .int .i64 10]) ∧ Below w.heap.size w w' := by
  have hb := (Below.refl w.heap.size w).alloc (Nat.le_refl _) (.cells (vecA L) 24)
  have hb2 := hb.alloc (by simp) (.cells (vecA [0, 0, 0, 0, 0, 0]) 24)
  have hg2 := heap_alloc2_new w (.cells (vecA L) 24) (.cells (vecA [0, 0, 0, 0, 0, 0]) 24)
  go_enter Try.func8, Try.ntmps8
  go_wp2_with fail
  refine (region_no z hz _).mono ?_
  rintro e w1 ⟨rfl, rfl⟩
  go_wp2_with fail
  exact bodyPost_ret (results_row_tmp Try.results8 _ _ _ 24 (vecA [0, 0, 0, 0, 0, 0]) (0, 0) _ rfl hg2 Try.underlying24 rfl (infoV_of _ rfl)) rfl ⟨rfl, hb2⟩
structure RowV (V : Array Value) : Prop where
  six : V.size = 6
  one : V.all (·.oneCell') = true
theorem RowV.size {V : Array Value} (h : RowV V) : (vecA [0, 0, 0, 0, 0, 0]).size = V.size := by rw [h.six]; rfl
theorem vecA_set (L : List Nat) (k x : Nat) : (vecA L).setIfInBounds k (.int .u64 (x : Int)) = vecA (L.set k x) := by
  unfold vecA
  simp [List.map_set]
set_option maxRecDepth 100000 in
theorem with_yes (L : List Nat) (h : L.length = 6) (k : Nat) (hk : k < 6) (s : Nat) (hs : s ≤ 1099511627776) (w : World) :
    Calls Try.prog 8 #[.agg (vecA L), .int .i64 ((k : Int) + 1), .int .u64 (s : Int)] w fun e w' => e = .returned (.tuple #[.agg (vecA (L.set k s)), .int .i64 0]) ∧ Below w.heap.size w w' := by
  have hb := (Below.refl w.heap.size w).alloc (Nat.le_refl _) (.cells (vecA L) 24)
  have hc := vcell w L 24 k (by omega)
  have hf := (Blk.new w 24 (vecA L)).frozen k
  have hf2 := ((Blk.new w 24 (vecA L)).alloc (.cells (vecA [0, 0, 0, 0, 0, 0]) 24)).frozen k
  have hf3 : ((w.alloc (.cells (vecA L) 24)).alloc (.cells #[.int .u64 0, .int .u64 0, .int .u64 0, .int .u64 0, .int .u64 0, .int .u64 0] 24)).frozen? ⟨w.heap.size, k, none⟩ = false := hf2
  have hc2 := ((Blk.new w 24 (vecA L)).alloc (.cells (vecA [0, 0, 0, 0, 0, 0]) 24)).cell k
  rw [vecA_at L k (by omega)] at hc2
  have hc3 : ((w.alloc (.cells (vecA L) 24)).alloc (.cells #[.int .u64 0, .int .u64 0, .int .u64 0, .int .u64 0, .int .u64 0, .int .u64 0] 24)).cell? ⟨w.heap.size, k, none⟩ = some (.int .u64 ((L[k] : Nat) : Int)) := hc2
  have hs' : ¬ (1099511627776 : Int) < (s : Int) := by omega
  have hi := infoV_of (L.set k s) (by rw [List.length_set]; exact h)
  have hM := vecA_set L k s
  have hrow : RowV (vecA (L.set k s)) := ⟨by rw [vecA_size, List.length_set, h], vecA_one _⟩
  generalize L[k] = x at hc hc3
  clear hc2 hf2
  generalize vecA (L.set k s) = V2 at hM hi hrow ⊢
  have hb2 := ((Below.refl w.heap.size w).alloc (Nat.le_refl _) (.cells V2 24)).alloc (by simp) (.cells (vecA [0, 0, 0, 0, 0, 0]) 24)
  have g1 := heap_alloc2_old w (.cells V2 24) (.cells (vecA [0, 0, 0, 0, 0, 0]) 24)
  have g2 := heap_alloc2_new w (.cells V2 24) (.cells (vecA [0, 0, 0, 0, 0, 0]) 24)
  clear h hs
  go_enter Try.func8, Try.ntmps8
  go_wp2_with fail
  refine (region_yes k hk _).mono ?_
  rintro e w1 ⟨rfl, rfl⟩
  go_wp2_with (first | (refine wpList_load_row rfl 24 _ rfl _ rfl 24 V2 (0, 0) _ g1 Try.underlying24 rfl hi ?_) | (refine wpList_store_row rfl 24 _ _ rfl _ V2 rfl rfl 24 _ g2 hi hrow.size hrow.one ?_))
  exact bodyPost_ret (results_row_tmp Try.results8 _ _ (w.heap.size + 1) 24 V2 (0, 0) _ rfl (Blk.row (cs := vecA [0, 0, 0, 0, 0, 0]) g2 V2) Try.underlying24 rfl hi) rfl ⟨rfl, below_setRow hb2 (by omega) V2⟩
end Go.Proofs.Ytmddbpkojboogaa
