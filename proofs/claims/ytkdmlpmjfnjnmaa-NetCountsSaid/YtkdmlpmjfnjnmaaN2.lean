import Derived.Test.YtkdmlpmjfnjnmaaN1
set_option linter.unusedSimpArgs false
namespace Go.Proofs.Ytkdmlpmjfnjnmaa
open Go Go.RowKit Sv
set_option linter.unusedVariables false
set_option maxRecDepth 100000
set_option maxHeartbeats 0
def putG (c : Nat → Bool) (R : Nat → NM) (k q : Nat) (E : Nat → EvI) : List NewB := [netC c 1 k, netR R k, .seq 14 q fun i => (E i).row]
theorem leaf_put0 {P : Program} {o lp : Nat → Bool} {n0 : Nat} {t : T} {R' : AV → List NewB → Prop} {x x0 : AV} {c : Nat → Bool} {R : Nat → NM} {k q c0 : Nat} {E : Nat → EvI} (hd : t.hd = .leaf (.tuple [x0, .gsl 0 0, .gsl 1 0, .gsl 2 0])) (hx : fitA [some 0, some 1, some 2] x x0)
    (h0 : t.heap.tr.get 0 = some (.cells c0 none (.gsl 1 k :: cutC c))) (h1 : seqAt t.heap 1 = some (12, k, rowsN R)) (h2 : seqAt t.heap 2 = some (14, q, fun i => (E i).row)) (hc : c0 ≠ 1 ∧ c0 ≠ 2) (hR : R' x (putG c R k q E)) : t.ok P o lp n0 (RM 3 R') := by
  have e0 := clsOf_cells h0
  have e1 := (seq_one h1).1
  have e2 := (seq_one h2).1
  refine ok_leafZ (fz := []) (ns := [some 0, some 1, some 2]) (y := .tuple [x, .gsl 0 0, .gsl 1 0, .gsl 2 0]) (G := putG c R k q E) hd ⟨zsA_of ⟨⟨hx, by simp [fitA], by simp [fitA], by simp [fitA], trivial⟩, trivial⟩, ⟨zB_net h0 rfl (by simp [fitA]), .inl ⟨k, _, h1, Nat.le_refl _, fun i hi => Ices.refl rfl⟩, .inl ⟨q, _, h2, Nat.le_refl _, fun i hi => Ices.refl rfl⟩, trivial⟩, ?_⟩ ⟨x, rfl, hR⟩
  simp [e0, e1, e2, hc]
theorem leaf_putN {P : Program} {o lp : Nat → Bool} {n0 : Nat} {t : T} {R' : AV → List NewB → Prop} {x x0 : AV} {c : Nat → Bool} {R : Nat → NM} {k q c0 J : Nat} {E : Nat → EvI} {n : NM} {f : Nat → List AV} (hd : t.hd = .leaf (.tuple [x0, .gsl 0 0, .gsl 1 0, .gsl 2 0])) (hx : fitA [some 0, none, some 2, some J] x x0)
    (h0 : t.heap.tr.get 0 = some (.cells c0 none (.gsl J (k + 1) :: cutC c))) (h2 : seqAt t.heap 2 = some (14, q, fun i => (E i).row)) (hJ : seqAt t.heap J = some (12, k + 1, glue k (rowsN R) f)) (hf : Ices t.heap [] n.row (f 0)) (hc : c0 ≠ 2 ∧ c0 ≠ J ∧ 2 ≠ J) (hR : R' x [netC c 3 (k + 1), .cells none [], .seq 14 q fun i => (E i).row, netR (putR R k n) (k + 1)]) : t.ok P o lp n0 (RM 3 R') := by
  have e0 := clsOf_cells h0
  have e1 := (seq_one hJ).1
  have e2 := (seq_one h2).1
  refine ok_leafZ (fz := []) (ns := [some 0, none, some 2, some J]) (y := .tuple [x, .gsl 0 0, .top, .gsl 2 0]) (G := [netC c 3 (k + 1), .cells none [], .seq 14 q fun i => (E i).row, netR (putR R k n) (k + 1)]) hd ⟨zsA_of ⟨⟨hx, by simp [fitA], by simp [fitA], by simp [fitA], trivial⟩, trivial⟩, ⟨zB_net h0 rfl (by simp [fitA]), trivial, .inl ⟨q, _, h2, Nat.le_refl _, fun i hi => Ices.refl rfl⟩, .inl ⟨k + 1, _, hJ, Nat.le_refl _, fun i hi => row_of hi hf⟩, trivial⟩, ?_⟩ ⟨x, rfl, hR⟩
  simp [e0, e1, e2, hc]
theorem leaf_putZ {P : Program} {o lp : Nat → Bool} {n0 : Nat} {t : T} {R' : AV → List NewB → Prop} {x x0 : AV} {c : Nat → Bool} {R : Nat → NM} {k q c0 J Z mz : Nat} {E : Nat → EvI} {m : MsI} {f fz : Nat → List AV} (hd : t.hd = .leaf (.tuple [x0, .gsl 0 0, .gsl 1 0, .gsl 2 0])) (hx : fitA [some 0, none, some 2, some J] x x0)
    (h0 : t.heap.tr.get 0 = some (.cells c0 none (.gsl J (k + 1) :: cutC c))) (h2 : seqAt t.heap 2 = some (14, q, fun i => (E i).row)) (hJ : seqAt t.heap J = some (12, k + 1, glue k (rowsN R) f)) (hZ : seqAt t.heap Z = some (14, mz, fz)) (hq : q ≤ mz) (hfz : ∀ i, i < q → fz i = (E i).row) (hf : f 0 = m.row (.gsl Z q)) (hc : c0 ≠ 2 ∧ c0 ≠ J ∧ 2 ≠ J ∧ c0 ≠ Z ∧ 2 ≠ Z ∧ J ≠ Z) (hR : R' x [netC c 3 (k + 1), .cells none [], .seq 14 q fun i => (E i).row, netR (putR R k ⟨m, q, E⟩) (k + 1)]) : t.ok P o lp n0 (RM 3 R') := by
  have e0 := clsOf_cells h0
  have e1 := (seq_one hJ).1
  have e2 := (seq_one h2).1
  have e3 := (seq_one hZ).1
  refine ok_leafZ (fz := [Z]) (ns := [some 0, none, some 2, some J]) (y := .tuple [x, .gsl 0 0, .top, .gsl 2 0]) (G := [netC c 3 (k + 1), .cells none [], .seq 14 q fun i => (E i).row, netR (putR R k ⟨m, q, E⟩) (k + 1)]) hd ⟨zsA_of ⟨⟨hx, by simp [fitA], by simp [fitA], by simp [fitA], trivial⟩, trivial⟩, ⟨zB_net h0 rfl (by simp [fitA]), trivial, .inl ⟨q, _, h2, Nat.le_refl _, fun i hi => Ices.refl rfl⟩, .inl ⟨k + 1, _, hJ, Nat.le_refl _, fun i hi => row_of hi (by rw [hf]; exact ice_row m (ice_evs (by simp) hZ hq hfz))⟩, trivial⟩, ?_⟩ ⟨x, rfl, hR⟩
  simp [e0, e1, e2, e3, hc]
end Go.Proofs.Ytkdmlpmjfnjnmaa
