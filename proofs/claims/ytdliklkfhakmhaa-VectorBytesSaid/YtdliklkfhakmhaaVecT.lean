import Derived.Test.YtdliklkfhakmhaaVecS
namespace Go.Proofs.Ytdliklkfhakmhaa
open Go.RowKit
attribute [local go_sem ↓] exec_loadV exec_storeV exec_buildV Go.wp_at_zero Go.wp_at_succ
/-! what comes next, what is known: the program's and the document's, whatever is asked. -/
def nextV (L : List Nat) (z : Int) : Nat × Int := if 1 ≤ z ∧ z ≤ 6 then (if L[(z - 1).toNat]?.getD 0 < 1099511627776 then (L[(z - 1).toNat]?.getD 0 + 1, 0) else (0, 6)) else (0, 10)
def withV (L : List Nat) (z : Int) (s : Nat) : List Nat × Int := if 1 ≤ z ∧ z ≤ 6 then (if s ≤ 1099511627776 then (L.set (z - 1).toNat s, 0) else (Z6, 1)) else (Z6, 10)
def hasZ (L : List Nat) (z : Int) (s : Nat) : Bool := if 1 ≤ z ∧ z ≤ 6 then hasV L (z - 1).toNat s else false
theorem nextV_no (L : List Nat) (z : Int) (h : z < 1 ∨ 6 < z) : nextV L z = (0, 10) := by unfold nextV; rw [if_neg (by omega)]
theorem withV_no (L : List Nat) (z : Int) (s : Nat) (h : z < 1 ∨ 6 < z) : withV L z s = (Z6, 10) := by unfold withV; rw [if_neg (by omega)]
theorem hasZ_no (L : List Nat) (z : Int) (s : Nat) (h : z < 1 ∨ 6 < z) : hasZ L z s = false := by unfold hasZ; rw [if_neg (by omega)]
theorem nextV_yes (L : List Nat) (k : Nat) (hk : k < 6) (hkl : k < L.length) : nextV L ((k : Int) + 1) = if L[k] < 1099511627776 then (L[k] + 1, 0) else (0, 6) := by
  unfold nextV; rw [if_pos (by omega), show ((k : Int) + 1 - 1).toNat = k by omega, List.getElem?_eq_getElem hkl]; rfl
theorem withV_yes (L : List Nat) (k : Nat) (hk : k < 6) (s : Nat) : withV L ((k : Int) + 1) s = if s ≤ 1099511627776 then (L.set k s, 0) else (Z6, 1) := by
  unfold withV; rw [if_pos (by omega), show ((k : Int) + 1 - 1).toNat = k by omega]
theorem hasZ_yes (L : List Nat) (k : Nat) (hk : k < 6) (s : Nat) : hasZ L ((k : Int) + 1) s = hasV L k s := by
  unfold hasZ; rw [if_pos (by omega), show ((k : Int) + 1 - 1).toNat = k by omega]
theorem withV_len (L : List Nat) (hL : L.length = 6) (z : Int) (s : Nat) : (withV L z s).1.length = 6 := by
  unfold withV; split
  · split
    · simp [hL]
    · rfl
  · rfl
set_option maxRecDepth 100000 in
theorem next_all (L : List Nat) (h : L.length = 6) (z : Int) (w : World) : Calls Try.prog 16 #[.agg (vecA L), .int .i64 z] w fun e w' => e = .returned (.tuple #[.int .u64 ((nextV L z).1 : Int), .int .i64 (nextV L z).2]) ∧ Below w.heap.size w w' := by
  rcases reg_cases z with ⟨k, hk, rfl⟩ | hno
  · rw [nextV_yes L k hk (by omega)]
    by_cases hx : L[k] < 1099511627776
    · rw [if_pos hx]; exact next_yes L h k (by omega) w hx
    · rw [if_neg hx]; exact next_many L h k (by omega) w hx
  · rw [nextV_no L z hno]; exact next_no L z hno w
set_option maxRecDepth 100000 in
theorem rnext_yes (L : List Nat) (h : L.length = 6) (k : Nat) (hk : k < L.length) (w : World) (hx : L[k] < 1099511627776) :
    Calls Try.prog 17 #[.agg (vecA L), .int .i64 ((k : Int) + 1)] w fun e w' => e = .returned (.tuple #[.int .u64 ((L[k] + 1 : Nat) : Int), .int .i64 0]) ∧ Below w.heap.size w w' := by
  have hb := (Below.refl w.heap.size w).alloc (Nat.le_refl _) (.cells (vecA L) 24)
  have hc := vcell w L 24 k hk
  have hk6 : k < 6 := by omega
  clear h
  generalize L[k] = x at hc hx ⊢
  have hx' : ¬ (1099511627776 : Int) ≤ (x : Int) := by omega
  rw [show ((x + 1 : Nat) : Int) = (x : Int) + 1 by omega]
  have hx2 : (x : Int) ≤ 1099511627775 := by omega
  have hx3 : (0 : Int) ≤ (x : Int) := by omega
  clear hx hx'
  generalize (x : Int) = y at hc hx2 hx3 ⊢
  go_enter Try.func17, Try.ntmps17
  go_wp2_with fail
  refine (rregion_yes k hk6 _).mono ?_
  rintro e w1 ⟨rfl, rfl⟩
  go_wp2_with fail
  go_ret2
  exact ⟨rfl, hb⟩
set_option maxRecDepth 100000 in
theorem rnext_many (L : List Nat) (h : L.length = 6) (k : Nat) (hk : k < L.length) (w : World) (hx : ¬ L[k] < 1099511627776) :
    Calls Try.prog 17 #[.agg (vecA L), .int .i64 ((k : Int) + 1)] w fun e w' => e = .returned (.tuple #[.int .u64 0, .int .i64 6]) ∧ Below w.heap.size w w' := by
  have hb := (Below.refl w.heap.size w).alloc (Nat.le_refl _) (.cells (vecA L) 24)
  have hc := vcell w L 24 k hk
  have hk6 : k < 6 := by omega
  clear h
  generalize L[k] = x at hc hx ⊢
  have hx' : (1099511627776 : Int) ≤ (x : Int) := by omega
  clear hx
  go_enter Try.func17, Try.ntmps17
  go_wp2_with fail
  refine (rregion_yes k hk6 _).mono ?_
  rintro e w1 ⟨rfl, rfl⟩
  go_wp2_with fail
  go_ret2
  exact ⟨rfl, hb⟩
set_option maxRecDepth 100000 in
theorem rnext_no (L : List Nat) (z : Int) (hz : z < 1 ∨ 6 < z) (w : World) :
    Calls Try.prog 17 #[.agg (vecA L), .int .i64 z] w fun e w' => e = .returned (.tuple #[.int .u64 0, .int .i64 10]) ∧ Below w.heap.size w w' := by
  have hb := (Below.refl w.heap.size w).alloc (Nat.le_refl _) (.cells (vecA L) 24)
  go_enter Try.func17, Try.ntmps17
  go_wp2_with fail
  refine (rregion_no z hz _).mono ?_
  rintro e w1 ⟨rfl, rfl⟩
  go_wp2_with fail
  go_ret2
  exact ⟨rfl, hb⟩
theorem rnext_all (L : List Nat) (h : L.length = 6) (z : Int) (w : World) : Calls Try.prog 17 #[.agg (vecA L), .int .i64 z] w fun e w' => e = .returned (.tuple #[.int .u64 ((nextV L z).1 : Int), .int .i64 (nextV L z).2]) ∧ Below w.heap.size w w' := by
  rcases reg_cases z with ⟨k, hk, rfl⟩ | hno
  · rw [nextV_yes L k hk (by omega)]
    by_cases hx : L[k] < 1099511627776
    · rw [if_pos hx]; exact rnext_yes L h k (by omega) w hx
    · rw [if_neg hx]; exact rnext_many L h k (by omega) w hx
  · rw [nextV_no L z hno]; exact rnext_no L z hno w
set_option maxRecDepth 100000 in
theorem has_no (L : List Nat) (z : Int) (hz : z < 1 ∨ 6 < z) (s : Int) (w : World) :
    Calls Try.prog 24 #[.agg (vecA L), .int .i64 z, .int .u64 s] w fun e w' => e = .returned (.bool false) ∧ Below w.heap.size w w' := by
  have hb := (Below.refl w.heap.size w).alloc (Nat.le_refl _) (.cells (vecA L) 24)
  go_enter Try.func24, Try.ntmps24
  go_wp2_with fail
  refine (region_no z hz _).mono ?_
  rintro e w1 ⟨rfl, rfl⟩
  go_wp2_with fail
  go_ret
  exact ⟨rfl, hb⟩
set_option maxRecDepth 100000 in
theorem rhas_no (L : List Nat) (z : Int) (hz : z < 1 ∨ 6 < z) (s : Int) (w : World) :
    Calls Try.prog 25 #[.agg (vecA L), .int .i64 z, .int .u64 s] w fun e w' => e = .returned (.bool false) ∧ Below w.heap.size w w' := by
  have hb := (Below.refl w.heap.size w).alloc (Nat.le_refl _) (.cells (vecA L) 24)
  go_enter Try.func25, Try.ntmps25
  go_wp2_with fail
  refine (rregion_no z hz _).mono ?_
  rintro e w1 ⟨rfl, rfl⟩
  go_wp2_with fail
  go_ret
  exact ⟨rfl, hb⟩
set_option maxRecDepth 100000 in
theorem rhas_yes (L : List Nat) (h : L.length = 6) (k : Nat) (hk : k < L.length) (s : Nat) (w : World) :
    Calls Try.prog 25 #[.agg (vecA L), .int .i64 ((k : Int) + 1), .int .u64 (s : Int)] w fun e w' => e = .returned (.bool (hasV L k s)) ∧ Below w.heap.size w w' := by
  have hb := (Below.refl w.heap.size w).alloc (Nat.le_refl _) (.cells (vecA L) 24)
  have hc := vcell w L 24 k hk
  have hk6 : k < 6 := by omega
  have hv : hasV L k s = (decide (1 ≤ s) && decide (s ≤ L[k])) := by unfold hasV; rw [List.getElem?_eq_getElem hk]; rfl
  rw [hv]
  clear h hv
  generalize L[k] = x at hc ⊢
  by_cases h1 : 1 ≤ s
  · have h1' : (1 : Int) ≤ (s : Int) := by omega
    rw [decide_eq_true h1]
    by_cases h2 : s ≤ x
    case' pos => 
      have h2' : (s : Int) ≤ (x : Int) := by omega
      rw [decide_eq_true h2]
    case' neg =>
      have h2' : ¬ (s : Int) ≤ (x : Int) := by omega
      rw [decide_eq_false h2]
    all_goals
      go_enter Try.func25, Try.ntmps25
      go_wp2_with fail
      refine (rregion_yes k hk6 _).mono ?_
      rintro e w1 ⟨rfl, rfl⟩
      go_wp2_with fail
      go_ret
      exact ⟨rfl, hb⟩
  · have h1' : ¬ (1 : Int) ≤ (s : Int) := by omega
    rw [decide_eq_false h1]
    go_enter Try.func25, Try.ntmps25
    go_wp2_with fail
    refine (rregion_yes k hk6 _).mono ?_
    rintro e w1 ⟨rfl, rfl⟩
    go_wp2_with fail
    go_ret
    exact ⟨rfl, hb⟩
theorem has_all (L : List Nat) (h : L.length = 6) (z : Int) (s : Nat) (w : World) : Calls Try.prog 24 #[.agg (vecA L), .int .i64 z, .int .u64 (s : Int)] w fun e w' => e = .returned (.bool (hasZ L z s)) ∧ Below w.heap.size w w' := by
  rcases reg_cases z with ⟨k, hk, rfl⟩ | hno
  · rw [hasZ_yes L k hk]; exact has_yes L h k (by omega) s w
  · rw [hasZ_no L z s hno]; exact has_no L z hno s w
theorem rhas_all (L : List Nat) (h : L.length = 6) (z : Int) (s : Nat) (w : World) : Calls Try.prog 25 #[.agg (vecA L), .int .i64 z, .int .u64 (s : Int)] w fun e w' => e = .returned (.bool (hasZ L z s)) ∧ Below w.heap.size w w' := by
  rcases reg_cases z with ⟨k, hk, rfl⟩ | hno
  · rw [hasZ_yes L k hk]; exact rhas_yes L h k (by omega) s w
  · rw [hasZ_no L z s hno]; exact rhas_no L z hno s w
set_option maxRecDepth 100000 in
theorem with_none (L : List Nat) (z : Int) (hz : z < 1 ∨ 6 < z) (s : Int) (w : World) :
    Calls Try.prog 18 #[.agg (vecA L), .int .i64 z, .int .u64 s] w fun e w' => e = .returned (.tuple #[.agg (vecA Z6), .int .i64 10]) ∧ Below w.heap.size w w' := by
  have hb := ((Below.refl w.heap.size w).alloc (Nat.le_refl _) (.cells (vecA L) 24)).alloc (by simp) (.cells (vecA Z6) 24)
  have hB : Blk ((w.alloc (.cells (vecA L) 24)).alloc (.cells #[.int .u64 0, .int .u64 0, .int .u64 0, .int .u64 0, .int .u64 0, .int .u64 0] 24)) (w.heap.size + 1) 24 (vecA Z6) := Blk.at_ _ _ _ _ (by simp)
  have st : ∀ W, Blk W (w.heap.size + 1) 24 (vecA Z6) → (storeV (.pointer (some ⟨w.heap.size + 1, 0, none⟩)) (.agg #[.int .u64 0, .int .u64 0, .int .u64 0, .int .u64 0, .int .u64 0, .int .u64 0])).run Try.prog W = .ok () (W.setRow (w.heap.size + 1) (vecA Z6)) := fun W h => run_storeV (L := Z6) rfl h rfl
  go_enter Try.func18, Try.ntmps18
  go_wp2_with fail
  refine (region_no z hz _).mono ?_
  rintro e w1 ⟨rfl, rfl⟩
  go_wp2_with fail
  exact bodyPost_ret (results_row_tmp Try.results18 _ _ _ 24 (vecA Z6) (0, 0) _ rfl (hB.row (vecA Z6)) Try.underlying24 rfl (infoV_of _ rfl)) rfl ⟨rfl, below_setRow hb (by omega) _⟩
set_option maxRecDepth 100000 in
theorem with_arg (L : List Nat) (k : Nat) (hk : k < 6) (s : Nat) (hs : ¬ s ≤ 1099511627776) (w : World) :
    Calls Try.prog 18 #[.agg (vecA L), .int .i64 ((k : Int) + 1), .int .u64 (s : Int)] w fun e w' => e = .returned (.tuple #[.agg (vecA Z6), .int .i64 1]) ∧ Below w.heap.size w w' := by
  have hb := ((Below.refl w.heap.size w).alloc (Nat.le_refl _) (.cells (vecA L) 24)).alloc (by simp) (.cells (vecA Z6) 24)
  have hB : Blk ((w.alloc (.cells (vecA L) 24)).alloc (.cells #[.int .u64 0, .int .u64 0, .int .u64 0, .int .u64 0, .int .u64 0, .int .u64 0] 24)) (w.heap.size + 1) 24 (vecA Z6) := Blk.at_ _ _ _ _ (by simp)
  have st : ∀ W, Blk W (w.heap.size + 1) 24 (vecA Z6) → (storeV (.pointer (some ⟨w.heap.size + 1, 0, none⟩)) (.agg #[.int .u64 0, .int .u64 0, .int .u64 0, .int .u64 0, .int .u64 0, .int .u64 0])).run Try.prog W = .ok () (W.setRow (w.heap.size + 1) (vecA Z6)) := fun W h => run_storeV (L := Z6) rfl h rfl
  have hs' : (1099511627776 : Int) < (s : Int) := by omega
  clear hs
  go_enter Try.func18, Try.ntmps18
  go_wp2_with fail
  refine (region_yes k hk _).mono ?_
  rintro e w1 ⟨rfl, rfl⟩
  go_wp2_with fail
  exact bodyPost_ret (results_row_tmp Try.results18 _ _ _ 24 (vecA Z6) (0, 0) _ rfl (hB.row (vecA Z6)) Try.underlying24 rfl (infoV_of _ rfl)) rfl ⟨rfl, below_setRow hb (by omega) _⟩
set_option maxRecDepth 100000 in
theorem rwith_none (L : List Nat) (z : Int) (hz : z < 1 ∨ 6 < z) (s : Int) (w : World) :
    Calls Try.prog 19 #[.agg (vecA L), .int .i64 z, .int .u64 s] w fun e w' => e = .returned (.tuple #[.agg (vecA Z6), .int .i64 10]) ∧ Below w.heap.size w w' := by
  have hb := ((Below.refl w.heap.size w).alloc (Nat.le_refl _) (.cells (vecA L) 24)).alloc (by simp) (.cells (vecA Z6) 24)
  have hB : Blk ((w.alloc (.cells (vecA L) 24)).alloc (.cells #[.int .u64 0, .int .u64 0, .int .u64 0, .int .u64 0, .int .u64 0, .int .u64 0] 24)) (w.heap.size + 1) 24 (vecA Z6) := Blk.at_ _ _ _ _ (by simp)
  have st : ∀ W, Blk W (w.heap.size + 1) 24 (vecA Z6) → (storeV (.pointer (some ⟨w.heap.size + 1, 0, none⟩)) (.agg #[.int .u64 0, .int .u64 0, .int .u64 0, .int .u64 0, .int .u64 0, .int .u64 0])).run Try.prog W = .ok () (W.setRow (w.heap.size + 1) (vecA Z6)) := fun W h => run_storeV (L := Z6) rfl h rfl
  go_enter Try.func19, Try.ntmps19
  go_wp2_with fail
  refine (rregion_no z hz _).mono ?_
  rintro e w1 ⟨rfl, rfl⟩
  go_wp2_with fail
  exact bodyPost_ret (results_row_tmp Try.results19 _ _ _ 24 (vecA Z6) (0, 0) _ rfl (hB.row (vecA Z6)) Try.underlying24 rfl (infoV_of _ rfl)) rfl ⟨rfl, below_setRow hb (by omega) _⟩
set_option maxRecDepth 100000 in
theorem rwith_arg (L : List Nat) (k : Nat) (hk : k < 6) (s : Nat) (hs : ¬ s ≤ 1099511627776) (w : World) :
    Calls Try.prog 19 #[.agg (vecA L), .int .i64 ((k : Int) + 1), .int .u64 (s : Int)] w fun e w' => e = .returned (.tuple #[.agg (vecA Z6), .int .i64 1]) ∧ Below w.heap.size w w' := by
  have hb := ((Below.refl w.heap.size w).alloc (Nat.le_refl _) (.cells (vecA L) 24)).alloc (by simp) (.cells (vecA Z6) 24)
  have hB : Blk ((w.alloc (.cells (vecA L) 24)).alloc (.cells #[.int .u64 0, .int .u64 0, .int .u64 0, .int .u64 0, .int .u64 0, .int .u64 0] 24)) (w.heap.size + 1) 24 (vecA Z6) := Blk.at_ _ _ _ _ (by simp)
  have st : ∀ W, Blk W (w.heap.size + 1) 24 (vecA Z6) → (storeV (.pointer (some ⟨w.heap.size + 1, 0, none⟩)) (.agg #[.int .u64 0, .int .u64 0, .int .u64 0, .int .u64 0, .int .u64 0, .int .u64 0])).run Try.prog W = .ok () (W.setRow (w.heap.size + 1) (vecA Z6)) := fun W h => run_storeV (L := Z6) rfl h rfl
  have hs' : (1099511627776 : Int) < (s : Int) := by omega
  clear hs
  go_enter Try.func19, Try.ntmps19
  go_wp2_with fail
  refine (rregion_yes k hk _).mono ?_
  rintro e w1 ⟨rfl, rfl⟩
  go_wp2_with fail
  exact bodyPost_ret (results_row_tmp Try.results19 _ _ _ 24 (vecA Z6) (0, 0) _ rfl (hB.row (vecA Z6)) Try.underlying24 rfl (infoV_of _ rfl)) rfl ⟨rfl, below_setRow hb (by omega) _⟩
set_option maxRecDepth 100000 in
theorem rwith_yes (L : List Nat) (h : L.length = 6) (k : Nat) (hk : k < 6) (s : Nat) (hs : s ≤ 1099511627776) (w : World) :
    Calls Try.prog 19 #[.agg (vecA L), .int .i64 ((k : Int) + 1), .int .u64 (s : Int)] w fun e w' => e = .returned (.tuple #[.agg (vecA (L.set k s)), .int .i64 0]) ∧ Below w.heap.size w w' := by
  have hkl : k < L.length := by omega
  obtain ⟨M, hM⟩ : ∃ M, Hid (L.set k s = M) := ⟨_, Lib.hid rfl⟩
  have HM6 : Hid (M.length = 6) := by show _ = _; rw [← hM.out, List.length_set]; exact h
  have hA0 := (Blk.new w 24 (vecA L)).alloc (.cells (vecA Z6) 24)
  have hA : Blk ((w.alloc (.cells (vecA L) 24)).alloc (.cells #[.int .u64 0, .int .u64 0, .int .u64 0, .int .u64 0, .int .u64 0, .int .u64 0] 24)) w.heap.size 24 (vecA L) := hA0
  have hB : Blk ((w.alloc (.cells (vecA L) 24)).alloc (.cells #[.int .u64 0, .int .u64 0, .int .u64 0, .int .u64 0, .int .u64 0, .int .u64 0] 24)) (w.heap.size + 1) 24 (vecA Z6) := Blk.at_ _ _ _ _ (by simp)
  have hb := ((Below.refl w.heap.size w).alloc (Nat.le_refl _) (.cells (vecA L) 24)).alloc (by simp) (.cells #[.int .u64 0, .int .u64 0, .int .u64 0, .int .u64 0, .int .u64 0, .int .u64 0] 24)
  generalize hW : (w.alloc (.cells (vecA L) 24)).alloc (.cells #[.int .u64 0, .int .u64 0, .int .u64 0, .int .u64 0, .int .u64 0, .int .u64 0] 24) = W1 at hA hB hb
  have HW := Lib.hid hW
  have c1 := hA.vat k hkl
  have c2 := hA.frozen k
  have hP : Blk (W1.setCell ⟨w.heap.size, k, none⟩ (.int .u64 (s : Int))) w.heap.size 24 (vecA M) := by rw [← hM.out, ← vecA_set]; exact hA.set_ k _
  have hQ : Blk (W1.setCell ⟨w.heap.size, k, none⟩ (.int .u64 (s : Int))) (w.heap.size + 1) 24 (vecA Z6) := hB.far (p := ⟨w.heap.size, k, none⟩) (by show w.heap.size + 1 ≠ w.heap.size; omega) _
  have hb2 := hb.setCell (p := ⟨w.heap.size, k, none⟩) (Nat.le_refl _) (.int .u64 (s : Int))
  have l1 := run_loadV HM6.out hP
  have s1 := run_storeV HM6.out hQ rfl
  have hs' : ¬ (1099511627776 : Int) < (s : Int) := by omega
  rw [hM.out]
  have HQ := Lib.hid hQ
  generalize L[k] = x at c1
  clear h hkl hA0 hA hB hb hs hP hQ hW
  go_enter Try.func19, Try.ntmps19
  go_wp2_with fail
  refine (rregion_yes k hk _).mono ?_
  rintro e w1 ⟨rfl, rfl⟩
  rw [HW.out]
  go_wp2_with fail
  exact bodyPost_ret (results_row_tmp Try.results19 _ _ _ 24 (vecA M) (0, 0) _ rfl (HQ.out.row (vecA M)) Try.underlying24 rfl (infoV_of _ HM6.out)) rfl ⟨rfl, below_setRow hb2 (by omega) _⟩
theorem with_all (L : List Nat) (h : L.length = 6) (z : Int) (s : Nat) (w : World) : Calls Try.prog 18 #[.agg (vecA L), .int .i64 z, .int .u64 (s : Int)] w fun e w' => e = .returned (.tuple #[.agg (vecA (withV L z s).1), .int .i64 (withV L z s).2]) ∧ Below w.heap.size w w' := by
  rcases reg_cases z with ⟨k, hk, rfl⟩ | hno
  · rw [withV_yes L k hk]
    by_cases hs : s ≤ 1099511627776
    · rw [if_pos hs]; exact with_yes L h k hk s hs w
    · rw [if_neg hs]; exact with_arg L k hk s hs w
  · rw [withV_no L z s hno]; exact with_none L z hno s w
theorem rwith_all (L : List Nat) (h : L.length = 6) (z : Int) (s : Nat) (w : World) : Calls Try.prog 19 #[.agg (vecA L), .int .i64 z, .int .u64 (s : Int)] w fun e w' => e = .returned (.tuple #[.agg (vecA (withV L z s).1), .int .i64 (withV L z s).2]) ∧ Below w.heap.size w w' := by
  rcases reg_cases z with ⟨k, hk, rfl⟩ | hno
  · rw [withV_yes L k hk]
    by_cases hs : s ≤ 1099511627776
    · rw [if_pos hs]; exact rwith_yes L h k hk s hs w
    · rw [if_neg hs]; exact rwith_arg L k hk s hs w
  · rw [withV_no L z s hno]; exact rwith_none L z hno s w
end Go.Proofs.Ytdliklkfhakmhaa
