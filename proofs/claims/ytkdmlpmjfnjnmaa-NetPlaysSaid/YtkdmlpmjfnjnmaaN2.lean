import Derived.Test.YtkdmlpmjfnjnmaaN1
set_option linter.unusedSimpArgs false
namespace Go.Proofs.Ytkdmlpmjfnjnmaa
open Go Go.RowKit Sv
set_option linter.unusedVariables false
set_option maxRecDepth 100000
set_option maxHeartbeats 0
def putG (c : Nat → Bool) (R : Nat → NM) (k q : Nat) (E : Nat → EvI) : List NewB := [netC c 1 k, netR R k, .seq 14 q fun i => (E i).row]
theorem leaf_put0 {P : Program} {o lp : Nat → Bool} {n0 : Nat} {t : T} {R' : AV → List NewB → Prop} {x x0 : AV} {c : Nat → Bool} {R : Nat → NM} {k q c0 : Nat} {E : Nat → EvI} (hd : t.hd = .leaf (.tuple [x0, .gsl 0 0, .gsl 1 0, .gsl 2 0])) (hx : fitA [some 0, some 1, some 2] x x0)
    (h0 : t.heap.tr.get 0 = some (.cells c0 none (.gsl 1 k :: cutC c))) (h1 : seqAt t.heap 1 = some (12, k, rowsN R)) (h2 : seqAt t.heap 2 = some (14, q, fun i => (E i).row)) (hc : c0 ≠ 1 ∧ c0 ≠ 2) (hR : R' x (putG c R k q E)) : t.ok P o lp n0 (RM 3 R') := by
  have e0 := clsOf_cells h0
  have e1 := (seq_one h1).1
  have e2 := (seq_one h2).1
  refine ok_leafZ (fz := []) (ns := [some 0, some 1, some 2]) (y := .tuple [x, .gsl 0 0, .gsl 1 0, .gsl 2 0]) (G := putG c R k q E) hd ⟨zsA_of ⟨⟨hx, by simp [fitA], by simp [fitA], by simp [fitA], trivial⟩, trivial⟩, ⟨zB_net h0 rfl (by simp [fitA]), .inl ⟨k, _, h1, Nat.le_refl _, fun i hi => Ices.refl rfl⟩, .inl ⟨q, _, h2, Nat.le_refl _, fun i hi => Ices.refl rfl⟩, trivial⟩, ?_⟩ ⟨x, rfl, hR⟩
  simp [e0, e1, e2, hc]
theorem leaf_putN {P : Program} {o lp : Nat → Bool} {n0 : Nat} {t : T} {R' : AV → List NewB → Prop} {x x0 : AV} {c : Nat → Bool} {R : Nat → NM} {k q c0 J : Nat} {E : Nat → EvI} {n : NM} {f : Nat → List AV} (hd : t.hd = .leaf (.tuple [x0, .gsl 0 0, .gsl 1 0, .gsl 2 0])) (hx : fitA [some 0, none, some 2, some J] x x0)
    (h0 : t.heap.tr.get 0 = some (.cells c0 none (.gsl J (k + 1) :: cutC c))) (h2 : seqAt t.heap 2 = some (14, q, fun i => (E i).row)) (hJ : seqAt t.heap J = some (12, k + 1, glue k (rowsN R) f)) (hf : Ices t.heap [] n.row (f 0)) (hc : c0 ≠ 2 ∧ c0 ≠ J ∧ 2 ≠ J) (hR : R' x [netC c 3 (k + 1), .cells none [], .seq 14 q fun i => (E i).row, netR (putR R k n) (k + 1)]) : t.ok P o lp n0 (RM 3 R') := by
  have e0 := clsOf_cells h0
  have e1 := (seq_one hJ).1
  have e2 := (seq_one h2).1
  refine ok_leafZ (fz := []) (ns := [some 0, none, some 2, some J]) (y := .tuple [x, .gsl 0 0, .top, .gsl 2 0]) (G := [netC c 3 (k + 1), .cells none [], .seq 14 q fun i => (E i).row, netR (putR R k n) (k + 1)]) hd ⟨zsA_of ⟨⟨hx, by simp [fitA], by simp [fitA], by simp [fitA], trivial⟩, trivial⟩, ⟨zB_net h0 rfl (by simp [fitA]), trivial, .inl ⟨q, _, h2, Nat.le_refl _, fun i hi => Ices.refl rfl⟩, .inl ⟨k + 1, _, hJ, Nat.le_refl _, fun i hi => row_of hi hf⟩, trivial⟩, ?_⟩ ⟨x, rfl, hR⟩
  simp [e0, e1, e2, hc]
theorem leaf_putZ {P : Program} {o lp : Nat → Bool} {n0 : Nat} {t : T} {R' : AV → List NewB → Prop} {x x0 : AV} {c : Nat → Bool} {R : Nat → NM} {k q c0 J Z mz : Nat} {E : Nat → EvI} {m : MsI} {f fz : Nat → List AV} (hd : t.hd = .leaf (.tuple [x0, .gsl 0 0, .gsl 1 0, .gsl 2 0])) (hx : fitA [some 0, none, some 2, some J] x x0)
    (h0 : t.heap.tr.get 0 = some (.cells c0 none (.gsl J (k + 1) :: cutC c))) (h2 : seqAt t.heap 2 = some (14, q, fun i => (E i).row)) (hJ : seqAt t.heap J = some (12, k + 1, glue k (rowsN R) f)) (hZ : seqAt t.heap Z = some (14, mz, fz)) (hq : q ≤ mz) (hfz : ∀ i, i < q → fz i = (E i).row) (hf : f 0 = m.row (.gsl Z q)) (hc : c0 ≠ 2 ∧ c0 ≠ J ∧ 2 ≠ J ∧ c0 ≠ Z ∧ 2 ≠ Z ∧ J ≠ Z) (hR : R' x [netC c 3 (k + 1), .cells none [], .seq 14 q fun i => (E i).row, netR (putR R k ⟨m, q, E⟩) (k + 1)]) : t.ok P o lp n0 (RM 3 R') := by
  have e0 := clsOf_cells h0
  have e1 := (seq_one hJ).1
  have e2 := (seq_one h2).1
  have e3 := (seq_one hZ).1
  refine ok_leafZ (fz := [Z]) (ns := [some 0, none, some 2, some J]) (y := .tuple [x, .gsl 0 0, .top, .gsl 2 0]) (G := [netC c 3 (k + 1), .cells none [], .seq 14 q fun i => (E i).row, netR (putR R k ⟨m, q, E⟩) (k + 1)]) hd ⟨zsA_of ⟨⟨hx, by simp [fitA], by simp [fitA], by simp [fitA], trivial⟩, trivial⟩, ⟨zB_net h0 rfl (by simp [fitA]), trivial, .inl ⟨q, _, h2, Nat.le_refl _, fun i hi => Ices.refl rfl⟩, .inl ⟨k + 1, _, hJ, Nat.le_refl _, fun i hi => row_of hi (by rw [hf]; exact ice_row m (ice_evs (by simp) hZ hq hfz))⟩, trivial⟩, ?_⟩ ⟨x, rfl, hR⟩
  simp [e0, e1, e2, e3, hc]
theorem asend (c : Nat → Bool) (R : Nat → NM) (k : Nat) (hk : k ≤ 128) (m : MsI) (q : Nat) (E : Nat → EvI) (hq : q ≤ 1000) : RunsM Try.prog 22 (putG c R k q E) [.ptr 0 0, .agg (m.row (.gsl 2 q))] fun x G =>
    (128 ≤ k ∧ x = .int .i64 7 ∧ G = putG c R k q E) ∨ (k < 128 ∧ x = .int .i64 0 ∧ G = [netC c 3 (k + 1), .cells none [], .seq 14 q fun i => (E i).row, netR (putR R k ⟨m, q, E⟩) (k + 1)]) := by
  refine runs_treeM plain mixed (fun _ => false) 60 (putG c R k q E) ?_
  refine ok_sk (.both (.stop [0, 1, 2]) (.both (.l (.l (.l (.l (.l (.l (.l (.l (.l (.l (.l (.l (.l (.l (.l (.l (.l (.l (.l (.l (.l (.l (.l (.l (.l (.l (.l (.l (.l (.stop [0, 1, 2, 7, 5])))))))))))))))))))))))))))))) (.both (.l (.l (.l (.l (.l (.l (.l (.l (.l (.l (.l (.l (.l (.l (.l (.l (.l (.l (.l (.l (.l (.l (.l (.l (.l (.stop [0, 1, 2, 5])))))))))))))))))))))))))) (.l (.l (.l (.l (.l (.l (.l (.l (.l (.l (.l (.l (.l (.l (.l (.l (.l (.l (.l (.l (.l (.l (.l (.l (.l (.l (.l (.l (.l (.stop [0, 1, 2, 7, 5]))))))))))))))))))))))))))))))))) (S := .fork (decide (128 ≤ (↑k : Int))) (.stop (.leaf (.tuple [.int .i64 (7 : Int), .gsl 0 0, .gsl 1 0, .gsl 2 0])) [0, 1, 2] ([bC 0 1 k c, bS 1 12 k (rowsN R), bS 2 14 q (fun i => (E i).row)])) (.fork (decide (0 < q)) (.left (decide (q ≤ q)) (.left (@decide (q < 65536 ∧ RowsOK 14 q fun i => (E i).row) pd) (.left (decide (m.k = m.k)) (.left (decide (m.f = m.f)) (.left (decide (m.t = m.t)) (.left (decide (m.v0 = m.v0)) (.left (decide (m.v1 = m.v1)) (.left (decide (m.v2 = m.v2)) (.left (decide (m.v3 = m.v3)) (.left (decide (m.v4 = m.v4)) (.left (decide (m.v5 = m.v5)) (.left (decide (q = q)) (.left (decide (m.n = m.n)) (.left (decide (m.a = m.a)) (.left (decide (m.k = m.k)) (.left (decide (m.f = m.f)) (.left (decide (m.t = m.t)) (.left (decide (m.v0 = m.v0)) (.left (decide (m.v1 = m.v1)) (.left (decide (m.v2 = m.v2)) (.left (decide (m.v3 = m.v3)) (.left (decide (m.v4 = m.v4)) (.left (decide (m.v5 = m.v5)) (.left (decide (q = q)) (.left (decide (m.n = m.n)) (.left (decide (m.a = m.a)) (.left (decide (k = k)) (.left (@decide (1 < 65536 ∧ RowsOK 12 1 fun i => List.take 12 (List.drop (i * 12) (m.row (.gsl 5 q)))) pd) (.left (decide (k ≤ k ∧ k < 65536)) (.stop (.leaf (.tuple [.int .i64 (0 : Int), .gsl 0 0, .gsl 1 0, .gsl 2 0])) [0, 1, 2, 7, 5] ([bC 0 7 (k + 1) c, (some Blk.dead, none), bS 2 14 q (fun i => (E i).row), bS 7 12 (k + 1) (glue k (rowsN R) fun i => List.take 12 (List.drop (i * 12) (m.row (.gsl 5 q)))), bS 5 14 q (fun i => (E i).row)]))))))))))))))))))))))))))))))) (.conj (.left (decide (m.k = m.k)) (.left (decide (m.f = m.f)) (.left (decide (m.t = m.t)) (.left (decide (m.v0 = m.v0)) (.left (decide (m.v1 = m.v1)) (.left (decide (m.v2 = m.v2)) (.left (decide (m.v3 = m.v3)) (.left (decide (m.v4 = m.v4)) (.left (decide (m.v5 = m.v5)) (.left (decide (m.n = m.n)) (.left (decide (m.a = m.a)) (.left (decide (m.k = m.k)) (.left (decide (m.f = m.f)) (.left (decide (m.t = m.t)) (.left (decide (m.v0 = m.v0)) (.left (decide (m.v1 = m.v1)) (.left (decide (m.v2 = m.v2)) (.left (decide (m.v3 = m.v3)) (.left (decide (m.v4 = m.v4)) (.left (decide (m.v5 = m.v5)) (.left (decide (m.n = m.n)) (.left (decide (m.a = m.a)) (.left (decide (k = k)) (.left (@decide (1 < 65536 ∧ RowsOK 12 1 fun i => List.take 12 (List.drop (i * 12) (m.row .nilSlice))) pd) (.left (decide (k ≤ k ∧ k < 65536)) (.stop (.leaf (.tuple [.int .i64 (0 : Int), .gsl 0 0, .gsl 1 0, .gsl 2 0])) [0, 1, 2, 5] ([bC 0 5 (k + 1) c, (some Blk.dead, none), bS 2 14 q (fun i => (E i).row), bS 5 12 (k + 1) (glue k (rowsN R) fun i => List.take 12 (List.drop (i * 12) (m.row .nilSlice)))]))))))))))))))))))))))))))) (.left (decide (q ≤ q)) (.left (@decide (q < 65536 ∧ RowsOK 14 q fun i => (E i).row) pd) (.left (decide (m.k = m.k)) (.left (decide (m.f = m.f)) (.left (decide (m.t = m.t)) (.left (decide (m.v0 = m.v0)) (.left (decide (m.v1 = m.v1)) (.left (decide (m.v2 = m.v2)) (.left (decide (m.v3 = m.v3)) (.left (decide (m.v4 = m.v4)) (.left (decide (m.v5 = m.v5)) (.left (decide (q = q)) (.left (decide (m.n = m.n)) (.left (decide (m.a = m.a)) (.left (decide (m.k = m.k)) (.left (decide (m.f = m.f)) (.left (decide (m.t = m.t)) (.left (decide (m.v0 = m.v0)) (.left (decide (m.v1 = m.v1)) (.left (decide (m.v2 = m.v2)) (.left (decide (m.v3 = m.v3)) (.left (decide (m.v4 = m.v4)) (.left (decide (m.v5 = m.v5)) (.left (decide (q = q)) (.left (decide (m.n = m.n)) (.left (decide (m.a = m.a)) (.left (decide (k = k)) (.left (@decide (1 < 65536 ∧ RowsOK 12 1 fun i => List.take 12 (List.drop (i * 12) (m.row (.gsl 5 q)))) pd) (.left (decide (k ≤ k ∧ k < 65536)) (.stop (.leaf (.tuple [.int .i64 (0 : Int), .gsl 0 0, .gsl 1 0, .gsl 2 0])) [0, 1, 2, 7, 5] ([bC 0 7 (k + 1) c, (some Blk.dead, none), bS 2 14 q (fun i => (E i).row), bS 7 12 (k + 1) (glue k (rowsN R) fun i => List.take 12 (List.drop (i * 12) (m.row (.gsl 5 q)))), bS 5 14 q (fun i => (E i).row)])))))))))))))))))))))))))))))))))) (by kernel_rfl) ?_
  refine hold_forkD (fun h0 => ?_) (fun h0 => ?_)
  ·
   exact hold_stop fun hd hb => leaf_put0 hd (by simp [fitA, nf]) (look_cons hb).1 (look_cons (look_cons hb).2.2).2.1 (look_cons (look_cons (look_cons hb).2.2).2.2).2.1 (by decide) (.inl ⟨by omega, rfl, rfl⟩)
  refine hold_forkD (fun h1 => ?_) (fun h1 => ?_)
  ·
   refine hl (bc fun h2 => by omega) ?_
   refine hl (bc fun h2 => by exact h2 ⟨by omega, fun i hi => ⟨rfl, rfl⟩⟩) ?_
   iterate 25 refine hl (bc fun h2 => by omega) ?_
   refine hl (bc fun h2 => by exact h2 ⟨by omega, fun i hi => (by obtain rfl : i = 0 := (by omega); exact ⟨rfl, rfl⟩)⟩) ?_
   refine hl (bc fun h2 => by omega) ?_
   exact hold_stop fun hd hb => leaf_putZ (J := 7) (Z := 5) hd (by simp [fitA, nf]) (look_cons hb).1 (look_cons (look_cons (look_cons hb).2.2).2.2).2.1 (look_cons (look_cons (look_cons (look_cons hb).2.2).2.2).2.2).2.1 (look_cons (look_cons (look_cons (look_cons (look_cons hb).2.2).2.2).2.2).2.2).2.1 (Nat.le_refl _) (fun i hi => rfl) rfl (by decide) (.inr ⟨by omega, rfl, rfl⟩)
  refine hold_conj ?_ ?_
  ·
   iterate 23 refine hl (bc fun h2 => by omega) ?_
   refine hl (bc fun h2 => by exact h2 ⟨by omega, fun i hi => (by obtain rfl : i = 0 := (by omega); exact ⟨rfl, rfl⟩)⟩) ?_
   refine hl (bc fun h2 => by omega) ?_
   exact hold_stop fun hd hb => leaf_putN (J := 5) (n := ⟨m, q, E⟩) hd (by simp [fitA, nf]) (look_cons hb).1 (look_cons (look_cons (look_cons hb).2.2).2.2).2.1 (look_cons (look_cons (look_cons (look_cons hb).2.2).2.2).2.2).2.1 (ice_row m (by rw [show q = 0 by omega]; exact .nil _ _)) (by decide) (.inr ⟨by omega, rfl, rfl⟩)
  refine hl (bc fun h2 => by omega) ?_
  refine hl (bc fun h2 => by exact h2 ⟨by omega, fun i hi => (by obtain rfl : i = 0 := (by omega); exact ⟨rfl, rfl⟩)⟩) ?_
  iterate 25 refine hl (bc fun h2 => by omega) ?_
  refine hl (bc fun h2 => by exact h2 ⟨by omega, fun i hi => (by obtain rfl : i = 0 := (by omega); exact ⟨rfl, rfl⟩)⟩) ?_
  refine hl (bc fun h2 => by omega) ?_
  exact hold_stop fun hd hb => leaf_putZ (J := 7) (Z := 5) hd (by simp [fitA, nf]) (look_cons hb).1 (look_cons (look_cons (look_cons hb).2.2).2.2).2.1 (look_cons (look_cons (look_cons (look_cons hb).2.2).2.2).2.2).2.1 (look_cons (look_cons (look_cons (look_cons (look_cons hb).2.2).2.2).2.2).2.2).2.1 (Nat.le_refl _) (fun i hi => rfl) rfl (by decide) (.inr ⟨by omega, rfl, rfl⟩)
end Go.Proofs.Ytkdmlpmjfnjnmaa
