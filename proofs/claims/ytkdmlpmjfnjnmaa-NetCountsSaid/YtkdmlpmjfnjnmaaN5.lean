import Derived.Test.YtkdmlpmjfnjnmaaN4
set_option linter.unusedSimpArgs false
namespace Go.Proofs.Ytkdmlpmjfnjnmaa
open Go Go.RowKit Sv
set_option linter.unusedVariables false
set_option maxRecDepth 100000
set_option maxHeartbeats 0
def zeroRow : List AV := [.int .u8 0, .int .i64 0, .int .i64 0, .int .u64 0, .int .u64 0, .int .u64 0, .int .u64 0, .int .u64 0, .int .u64 0, .nilSlice, .int .u64 0, .int .i64 0]
def takeR (c : Nat → Bool) (R : Nat → NM) (k : Nat) (i : Int) (x : AV) (G : List NewB) : Prop :=
  (¬ (0 ≤ i ∧ i < k) ∧ x = .tuple [.agg zeroRow, .bool false] ∧ G = netG c R k) ∨ ((0 ≤ i ∧ i < k) ∧ x = .tuple [.agg (R i.toNat).row, .bool true] ∧ G = netN c (delR R i.toNat) (k - 1))
theorem del_over {R : Nat → NM} {i k a b lo m lo2 : Nat} {z : Nat → List AV} (hi : i < k) (ha : a = i + 1) (hm : m = k - (i + 1)) (hl : lo = k - 1) (h2 : lo2 = i) : ∀ j, j < k - 1 → rowsN (delR R i) j = over lo b (over lo2 m (rowsN R) fun x => rowsN R (a + x)) z j := fun j hj => by
  rw [ha, hm, hl, h2]
  unfold rowsN delR over
  rw [if_pos hj]
  by_cases h : j < i
  · rw [if_pos h, if_pos h]
  · rw [if_neg h, if_neg h, if_pos (by omega)]
    congr 2
    omega
theorem atake (c : Nat → Bool) (R : Nat → NM) (k : Nat) (hk : k ≤ 128) (i : Int) (h1 : -9223372036854775808 ≤ i) (h2 : i ≤ 9223372036854775807) : RunsM Try.prog 10 (netG c R k) [.ptr 0 0, .sint .i64 i] (takeR c R k i) := by
  refine runs_treeM plain mixed (fun _ => false) 60 (netG c R k) ?_
  refine ok_sk (.both (.both (.l (.l (.l (.l (.r (.l (.l (.r (.l (.l (.l (.l (.l (.stop [0, 1, 4])))))))))))))) (.stop [0, 1])) (.stop [0, 1])) (S := .fork (decide (0 ≤ i)) (.fork (decide (i < (↑k : Int))) (.left (decide (0 ≤ i ∧ i.toNat < k)) (.left (decide (i.toNat < k)) (.left (decide ((-9223372036854775808 : Int) ≤ i + 1 ∧ i + 1 ≤ 9223372036854775807)) (.left (decide (0 ≤ i ∧ i ≤ i + 1 ∧ i + 1 ≤ (↑k : Int) ∧ (↑k : Int) ≤ (↑k : Int))) (.right (decide (i = i + 1)) (.left (decide ((0 : Int) = 0 ∧ 0 ≤ i ∧ i ≤ (↑k : Int))) (.left (decide (0 < k)) (.right (decide (i + 1 = 0 ∧ 0 ≤ (↑k : Int) ∧ (↑k : Int) ≤ (↑k : Int))) (.left (decide (0 < k ∧ 0 ≤ i + 1 ∧ i + 1 ≤ (↑k : Int) ∧ (↑k : Int) ≤ (↑k : Int))) (.left (decide ((i + 1).toNat + ((↑k : Int).toNat - (i + 1).toNat) ≤ k)) (.left (@decide (i.toNat + ((↑k : Int).toNat - (i + 1).toNat) ≤ k ∧ RowsOK 12 ((↑k : Int).toNat - (i + 1).toNat) fun (i_1 : Nat) => rowsN R ((i + 1).toNat + i_1)) pd) (.left (decide (0 ≤ (↑(i.toNat + ((↑k : Int).toNat - (i + 1).toNat)) : Int) ∧ (↑(i.toNat + ((↑k : Int).toNat - (i + 1).toNat)) : Int) ≤ (↑k : Int) ∧ (0 : Int) + (↑k : Int) ≤ (↑k : Int))) (.left (decide (0 + (↑(i.toNat + ((↑k : Int).toNat - (i + 1).toNat)) : Int).toNat + ((↑k : Int).toNat - (↑(i.toNat + ((↑k : Int).toNat - (i + 1).toNat)) : Int).toNat) ≤ k)) (.stop (.leaf (.tuple [.tuple [.agg ((R i.toNat).m.row (.data 14 (R i.toNat).q fun (i_1 : Nat) => ((R i.toNat).E i_1).row)), .bool true], .gsl 0 0, .gsl 1 0])) [0, 1, 4] ([(some (.cells 0 none [.part 4 0 (i.toNat + ((↑k : Int).toNat - (i + 1).toNat)), .sbool (c 0), .sbool (c 1), .sbool (c 2), .sbool (c 3), .sbool (c 4), .sbool (c 5), .sbool (c 6), .sbool (c 7), .sbool (c 8), .sbool (c 9), .sbool (c 10), .sbool (c 11), .sbool (c 12), .sbool (c 13), .sbool (c 14), .sbool (c 15), .sbool (c 16), .sbool (c 17), .sbool (c 18), .sbool (c 19), .sbool (c 20), .sbool (c 21), .sbool (c 22), .sbool (c 23), .sbool (c 24), .sbool (c 25), .sbool (c 26), .sbool (c 27), .sbool (c 28), .sbool (c 29), .sbool (c 30), .sbool (c 31), .sbool (c 32), .sbool (c 33), .sbool (c 34), .sbool (c 35)]), none), (some Blk.dead, none), bS 4 12 k (over (0 + (↑(i.toNat + ((↑k : Int).toNat - (i + 1).toNat)) : Int).toNat) ((↑k : Int).toNat - (↑(i.toNat + ((↑k : Int).toNat - (i + 1).toNat)) : Int).toNat) (over i.toNat ((↑k : Int).toNat - (i + 1).toNat) (rowsN R) fun (i_1 : Nat) => rowsN R ((i + 1).toNat + i_1)) fun (x : Nat) => [.int .u8 (0 : Int), .int .i64 (0 : Int), .int .i64 (0 : Int), .int .u64 (0 : Int), .int .u64 (0 : Int), .int .u64 (0 : Int), .int .u64 (0 : Int), .int .u64 (0 : Int), .int .u64 (0 : Int), .nilSlice, .int .u64 (0 : Int), .int .i64 (0 : Int)])]))))))))))))))) (.stop (.leaf (.tuple [.tuple [.agg [.int .u8 (0 : Int), .int .i64 (0 : Int), .int .i64 (0 : Int), .int .u64 (0 : Int), .int .u64 (0 : Int), .int .u64 (0 : Int), .int .u64 (0 : Int), .int .u64 (0 : Int), .int .u64 (0 : Int), .nilSlice, .int .u64 (0 : Int), .int .i64 (0 : Int)], .bool false], .gsl 0 0, .gsl 1 0])) [0, 1] ([bC 0 1 k c, bS 1 12 k (rowsN R)]))) (.stop (.leaf (.tuple [.tuple [.agg [.int .u8 (0 : Int), .int .i64 (0 : Int), .int .i64 (0 : Int), .int .u64 (0 : Int), .int .u64 (0 : Int), .int .u64 (0 : Int), .int .u64 (0 : Int), .int .u64 (0 : Int), .int .u64 (0 : Int), .nilSlice, .int .u64 (0 : Int), .int .i64 (0 : Int)], .bool false], .gsl 0 0, .gsl 1 0])) [0, 1] ([bC 0 1 k c, bS 1 12 k (rowsN R)]))) (by kernel_rfl) ?_
  refine hold_forkD (fun h0 => ?_) (fun h0 => ?_)
  ·
   refine hold_forkD (fun h1 => ?_) (fun h1 => ?_)
   ·
    iterate 4 refine hl (bc fun h2 => by omega) ?_
    refine hzr (fun h2 => by omega) ?_
    iterate 2 refine hl (bc fun h2 => by omega) ?_
    refine hzr (fun h2 => by omega) ?_
    iterate 2 refine hl (bc fun h2 => by omega) ?_
    refine hl (bc fun h2 => by exact h2 ⟨by omega, fun i hi => ⟨rfl, rfl⟩⟩) ?_
    iterate 2 refine hl (bc fun h2 => by omega) ?_
    exact hold_stop fun hd hb => leaf_new (J := 4) hd (by simp [NM.row, MsI.row, evs, fitA, fitsA, nf]) (look_cons hb).1 (by unfold fitA; exact ⟨rfl, by omega, rfl⟩) (look_cons (look_cons (look_cons hb).2.2).2.2).2.1 (by omega) (del_over (by omega) (by omega) (by omega) (by omega) rfl) (by decide) (.inr ⟨by omega, rfl, rfl⟩)
   exact hold_stop fun hd hb => leaf_same hd (by simp [zeroRow, fitA, fitsA, nf]) (look_cons hb).1 (fitsA_self _ rfl) (look_cons (look_cons hb).2.2).2.1 (by decide) (.inl ⟨by omega, rfl, rfl⟩)
  exact hold_stop fun hd hb => leaf_same hd (by simp [zeroRow, fitA, fitsA, nf]) (look_cons hb).1 (fitsA_self _ rfl) (look_cons (look_cons hb).2.2).2.1 (by decide) (.inl ⟨by omega, rfl, rfl⟩)
end Go.Proofs.Ytkdmlpmjfnjnmaa
