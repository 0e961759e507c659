import Derived.Test.YtkdmlpmjfnjnmaaN3
set_option linter.unusedSimpArgs false
namespace Go.Proofs.Ytkdmlpmjfnjnmaa
open Go Go.RowKit Sv
set_option linter.unusedVariables false
set_option maxRecDepth 100000
set_option maxHeartbeats 0
def netG (c : Nat → Bool) (R : Nat → NM) (k : Nat) : List NewB := [netC c 1 k, netR R k]
def netN (c : Nat → Bool) (R : Nat → NM) (k : Nat) : List NewB := [netC c 2 k, .cells none [], netR R k]
theorem leaf_same {P : Program} {o lp : Nat → Bool} {n0 : Nat} {t : T} {R' : AV → List NewB → Prop} {x x0 : AV} {c : Nat → Bool} {R : Nat → NM} {k c0 : Nat} {cs : List AV} (hd : t.hd = .leaf (.tuple [x0, .gsl 0 0, .gsl 1 0])) (hx : fitA [some 0, some 1] x x0)
    (h0 : t.heap.tr.get 0 = some (.cells c0 none (.gsl 1 k :: cs))) (hcs : fitsA [some 0, some 1] (cutC c) cs) (h1 : seqAt t.heap 1 = some (12, k, rowsN R)) (hc : c0 ≠ 1) (hR : R' x (netG c R k)) : t.ok P o lp n0 (RM 2 R') := by
  have e0 := clsOf_cells h0
  have e1 := (seq_one h1).1
  refine ok_leafZ (fz := []) (ns := [some 0, some 1]) (y := .tuple [x, .gsl 0 0, .gsl 1 0]) (G := netG c R k) hd ⟨zsA_of ⟨⟨hx, by simp [fitA], by simp [fitA], trivial⟩, trivial⟩, ⟨⟨_, _, h0, zsA_of ⟨by simp [fitA], hcs⟩⟩, .inl ⟨k, _, h1, Nat.le_refl _, fun i hi => Ices.refl rfl⟩, trivial⟩, ?_⟩ ⟨x, rfl, hR⟩
  simp [e0, e1, hc]
theorem leaf_new {P : Program} {o lp : Nat → Bool} {n0 : Nat} {t : T} {R' : AV → List NewB → Prop} {x x0 : AV} {c : Nat → Bool} {R : Nat → NM} {k k1 c0 J : Nat} {w : AV} {f : Nat → List AV} (hd : t.hd = .leaf (.tuple [x0, .gsl 0 0, .gsl 1 0])) (hx : fitA [some 0, none, some J] x x0)
    (h0 : t.heap.tr.get 0 = some (.cells c0 none (w :: cutC c))) (hw : fitA [some 0, none, some J] (.gsl 2 k) w) (hJ : seqAt t.heap J = some (12, k1, f)) (hn : k ≤ k1) (hf : ∀ i, i < k → rowsN R i = f i) (hc : c0 ≠ J) (hR : R' x (netN c R k)) : t.ok P o lp n0 (RM 2 R') := by
  have e0 := clsOf_cells h0
  have e1 := (seq_one hJ).1
  refine ok_leafZ (fz := []) (ns := [some 0, none, some J]) (y := .tuple [x, .gsl 0 0, .top]) (G := netN c R k) hd ⟨zsA_of ⟨⟨hx, by simp [fitA], by simp [fitA], trivial⟩, trivial⟩, ⟨⟨_, _, h0, zsA_of ⟨hw, fitsA_self _ rfl⟩⟩, trivial, .inl ⟨k1, _, hJ, hn, fun i hi => by rw [hf i hi]; exact hf i hi ▸ Ices.refl rfl⟩, trivial⟩, ?_⟩ ⟨x, rfl, hR⟩
  simp [e0, e1, hc]
theorem put_glue {R : Nat → NM} {k : Nat} {n : NM} {f : Nat → List AV} (hf : f 0 = n.row) : ∀ i, i < k + 1 → rowsN (putR R k n) i = glue k (rowsN R) f i := fun i hi => by
  unfold rowsN putR glue
  by_cases h : i < k
  · rw [if_pos h, if_pos h]
  · rw [if_neg h, if_neg h, show i - k = 0 by omega]; exact hf.symm
theorem bput (c : Nat → Bool) (R : Nat → NM) (k : Nat) (hk : k ≤ 128) (m : MsI) (q : Nat) (E : Nat → EvI) (hq : q ≤ 1000) (hr : m.rng) (hE : ∀ j, j < q → (E j).rng) : RunsM Try.prog 9 (netG c R k) [.ptr 0 0, .agg (m.row (evs q E))] fun x G =>
    (¬ m.may q E ∧ x = .int .i64 1 ∧ G = netG c R k) ∨ (m.may q E ∧ c (at_ m.f m.t) = true ∧ x = .int .i64 0 ∧ G = netG c R k) ∨ (m.may q E ∧ c (at_ m.f m.t) = false ∧ 128 ≤ k ∧ x = .int .i64 7 ∧ G = netG c R k) ∨
    (m.may q E ∧ c (at_ m.f m.t) = false ∧ k < 128 ∧ x = .int .i64 0 ∧ G = netN c (putR R k ⟨m, q, E⟩) (k + 1)) := by
  refine runs_treeM plain mixed (fun g => Nat.beq g 23) 60 (netG c R k) ?_
  refine ok_sk (.stop []) (S := .stop (.call 23 [.agg (m.row (.data 14 q fun i => (E i).row))]) [] ([])) (by kernel_rfl) ?_
  refine hold_stop (fun hd hb => ?_)
  refine ok_call0 hd (rmayM m q E (by omega) hr hE) rfl ?_
  rintro x G ⟨rfl, ⟨rfl, my⟩ | ⟨rfl, my⟩⟩ <;> refine ⟨rfl, fun g hg => (by cases hg), ?_⟩ <;> try have mf : 1 ≤ m.f ∧ m.f ≤ 6 ∧ 1 ≤ m.t ∧ m.t ≤ 6 ∧ m.f ≠ m.t := my.1
  ·
   refine ok_sk (.l (.l (.both (.r (.both (.both (.stop [0, 1]) (.both (.stop [0, 1]) (.l (.l (.l (.l (.l (.l (.l (.l (.l (.l (.l (.l (.l (.l (.l (.l (.l (.l (.l (.l (.l (.l (.l (.l (.l (.l (.l (.stop [0, 1, 4])))))))))))))))))))))))))))))) (.both (.both (.stop [0, 1]) (.both (.stop [0, 1]) (.l (.l (.l (.l (.l (.l (.l (.l (.l (.l (.l (.l (.l (.l (.l (.l (.l (.l (.l (.l (.l (.l (.l (.l (.l (.l (.l (.stop [0, 1, 4])))))))))))))))))))))))))))))) (.both (.both (.stop [0, 1]) (.both (.stop [0, 1]) (.l (.l (.l (.l (.l (.l (.l (.l (.l (.l (.l (.l (.l (.l (.l (.l (.l (.l (.l (.l (.l (.l (.l (.l (.l (.l (.l (.stop [0, 1, 4])))))))))))))))))))))))))))))) (.both (.both (.stop [0, 1]) (.both (.stop [0, 1]) (.l (.l (.l (.l (.l (.l (.l (.l (.l (.l (.l (.l (.l (.l (.l (.l (.l (.l (.l (.l (.l (.l (.l (.l (.l (.l (.l (.stop [0, 1, 4])))))))))))))))))))))))))))))) (.l (.both (.stop [0, 1]) (.both (.stop [0, 1]) (.l (.l (.l (.l (.l (.l (.l (.l (.l (.l (.l (.l (.l (.l (.l (.l (.l (.l (.l (.l (.l (.l (.l (.l (.l (.l (.l (.stop [0, 1, 4])))))))))))))))))))))))))))))))))))) (.both (.both (.both (.stop [0, 1]) (.both (.stop [0, 1]) (.l (.l (.l (.l (.l (.l (.l (.l (.l (.l (.l (.l (.l (.l (.l (.l (.l (.l (.l (.l (.l (.l (.l (.l (.l (.l (.l (.stop [0, 1, 4])))))))))))))))))))))))))))))) (.r (.both (.both (.stop [0, 1]) (.both (.stop [0, 1]) (.l (.l (.l (.l (.l (.l (.l (.l (.l (.l (.l (.l (.l (.l (.l (.l (.l (.l (.l (.l (.l (.l (.l (.l (.l (.l (.l (.stop [0, 1, 4])))))))))))))))))))))))))))))) (.both (.both (.stop [0, 1]) (.both (.stop [0, 1]) (.l (.l (.l (.l (.l (.l (.l (.l (.l (.l (.l (.l (.l (.l (.l (.l (.l (.l (.l (.l (.l (.l (.l (.l (.l (.l (.l (.stop [0, 1, 4])))))))))))))))))))))))))))))) (.both (.both (.stop [0, 1]) (.both (.stop [0, 1]) (.l (.l (.l (.l (.l (.l (.l (.l (.l (.l (.l (.l (.l (.l (.l (.l (.l (.l (.l (.l (.l (.l (.l (.l (.l (.l (.l (.stop [0, 1, 4])))))))))))))))))))))))))))))) (.l (.both (.stop [0, 1]) (.both (.stop [0, 1]) (.l (.l (.l (.l (.l (.l (.l (.l (.l (.l (.l (.l (.l (.l (.l (.l (.l (.l (.l (.l (.l (.l (.l (.l (.l (.l (.l (.stop [0, 1, 4])))))))))))))))))))))))))))))))))))) (.both (.both (.both (.stop [0, 1]) (.both (.stop [0, 1]) (.l (.l (.l (.l (.l (.l (.l (.l (.l (.l (.l (.l (.l (.l (.l (.l (.l (.l (.l (.l (.l (.l (.l (.l (.l (.l (.l (.stop [0, 1, 4])))))))))))))))))))))))))))))) (.both (.both (.stop [0, 1]) (.both (.stop [0, 1]) (.l (.l (.l (.l (.l (.l (.l (.l (.l (.l (.l (.l (.l (.l (.l (.l (.l (.l (.l (.l (.l (.l (.l (.l (.l (.l (.l (.stop [0, 1, 4])))))))))))))))))))))))))))))) (.r (.both (.both (.stop [0, 1]) (.both (.stop [0, 1]) (.l (.l (.l (.l (.l (.l (.l (.l (.l (.l (.l (.l (.l (.l (.l (.l (.l (.l (.l (.l (.l (.l (.l (.l (.l (.l (.l (.stop [0, 1, 4])))))))))))))))))))))))))))))) (.both (.both (.stop [0, 1]) (.both (.stop [0, 1]) (.l (.l (.l (.l (.l (.l (.l (.l (.l (.l (.l (.l (.l (.l (.l (.l (.l (.l (.l (.l (.l (.l (.l (.l (.l (.l (.l (.stop [0, 1, 4])))))))))))))))))))))))))))))) (.l (.both (.stop [0, 1]) (.both (.stop [0, 1]) (.l (.l (.l (.l (.l (.l (.l (.l (.l (.l (.l (.l (.l (.l (.l (.l (.l (.l (.l (.l (.l (.l (.l (.l (.l (.l (.l (.stop [0, 1, 4])))))))))))))))))))))))))))))))))))) (.both (.both (.both (.stop [0, 1]) (.both (.stop [0, 1]) (.l (.l (.l (.l (.l (.l (.l (.l (.l (.l (.l (.l (.l (.l (.l (.l (.l (.l (.l (.l (.l (.l (.l (.l (.l (.l (.l (.stop [0, 1, 4])))))))))))))))))))))))))))))) (.both (.both (.stop [0, 1]) (.both (.stop [0, 1]) (.l (.l (.l (.l (.l (.l (.l (.l (.l (.l (.l (.l (.l (.l (.l (.l (.l (.l (.l (.l (.l (.l (.l (.l (.l (.l (.l (.stop [0, 1, 4])))))))))))))))))))))))))))))) (.both (.both (.stop [0, 1]) (.both (.stop [0, 1]) (.l (.l (.l (.l (.l (.l (.l (.l (.l (.l (.l (.l (.l (.l (.l (.l (.l (.l (.l (.l (.l (.l (.l (.l (.l (.l (.l (.stop [0, 1, 4])))))))))))))))))))))))))))))) (.r (.both (.both (.stop [0, 1]) (.both (.stop [0, 1]) (.l (.l (.l (.l (.l (.l (.l (.l (.l (.l (.l (.l (.l (.l (.l (.l (.l (.l (.l (.l (.l (.l (.l (.l (.l (.l (.l (.stop [0, 1, 4])))))))))))))))))))))))))))))) (.l (.both (.stop [0, 1]) (.both (.stop [0, 1]) (.l (.l (.l (.l (.l (.l (.l (.l (.l (.l (.l (.l (.l (.l (.l (.l (.l (.l (.l (.l (.l (.l (.l (.l (.l (.l (.l (.stop [0, 1, 4])))))))))))))))))))))))))))))))))))) (.both (.both (.both (.stop [0, 1]) (.both (.stop [0, 1]) (.l (.l (.l (.l (.l (.l (.l (.l (.l (.l (.l (.l (.l (.l (.l (.l (.l (.l (.l (.l (.l (.l (.l (.l (.l (.l (.l (.stop [0, 1, 4])))))))))))))))))))))))))))))) (.both (.both (.stop [0, 1]) (.both (.stop [0, 1]) (.l (.l (.l (.l (.l (.l (.l (.l (.l (.l (.l (.l (.l (.l (.l (.l (.l (.l (.l (.l (.l (.l (.l (.l (.l (.l (.l (.stop [0, 1, 4])))))))))))))))))))))))))))))) (.both (.both (.stop [0, 1]) (.both (.stop [0, 1]) (.l (.l (.l (.l (.l (.l (.l (.l (.l (.l (.l (.l (.l (.l (.l (.l (.l (.l (.l (.l (.l (.l (.l (.l (.l (.l (.l (.stop [0, 1, 4])))))))))))))))))))))))))))))) (.both (.both (.stop [0, 1]) (.both (.stop [0, 1]) (.l (.l (.l (.l (.l (.l (.l (.l (.l (.l (.l (.l (.l (.l (.l (.l (.l (.l (.l (.l (.l (.l (.l (.l (.l (.l (.l (.stop [0, 1, 4])))))))))))))))))))))))))))))) (.r (.l (.both (.stop [0, 1]) (.both (.stop [0, 1]) (.l (.l (.l (.l (.l (.l (.l (.l (.l (.l (.l (.l (.l (.l (.l (.l (.l (.l (.l (.l (.l (.l (.l (.l (.l (.l (.l (.stop [0, 1, 4])))))))))))))))))))))))))))))))))))) (.l (.both (.both (.stop [0, 1]) (.both (.stop [0, 1]) (.l (.l (.l (.l (.l (.l (.l (.l (.l (.l (.l (.l (.l (.l (.l (.l (.l (.l (.l (.l (.l (.l (.l (.l (.l (.l (.l (.stop [0, 1, 4])))))))))))))))))))))))))))))) (.both (.both (.stop [0, 1]) (.both (.stop [0, 1]) (.l (.l (.l (.l (.l (.l (.l (.l (.l (.l (.l (.l (.l (.l (.l (.l (.l (.l (.l (.l (.l (.l (.l (.l (.l (.l (.l (.stop [0, 1, 4])))))))))))))))))))))))))))))) (.both (.both (.stop [0, 1]) (.both (.stop [0, 1]) (.l (.l (.l (.l (.l (.l (.l (.l (.l (.l (.l (.l (.l (.l (.l (.l (.l (.l (.l (.l (.l (.l (.l (.l (.l (.l (.l (.stop [0, 1, 4])))))))))))))))))))))))))))))) (.both (.both (.stop [0, 1]) (.both (.stop [0, 1]) (.l (.l (.l (.l (.l (.l (.l (.l (.l (.l (.l (.l (.l (.l (.l (.l (.l (.l (.l (.l (.l (.l (.l (.l (.l (.l (.l (.stop [0, 1, 4])))))))))))))))))))))))))))))) (.l (.both (.stop [0, 1]) (.both (.stop [0, 1]) (.l (.l (.l (.l (.l (.l (.l (.l (.l (.l (.l (.l (.l (.l (.l (.l (.l (.l (.l (.l (.l (.l (.l (.l (.l (.l (.l (.stop [0, 1, 4]))))))))))))))))))))))))))))))))))))))))))) (S := .left (decide ((-9223372036854775808 : Int) ≤ m.f - 1 ∧ m.f - 1 ≤ 9223372036854775807)) (.left (decide ((-9223372036854775808 : Int) ≤ m.t - 1 ∧ m.t - 1 ≤ 9223372036854775807)) (.fork (decide (m.f - 1 = 5)) (.right (decide (m.t - 1 = 5)) (.fork (decide (m.t - 1 = 4)) (.fork (c 34) (.stop (.leaf (.tuple [.int .i64 (0 : Int), .gsl 0 0, .gsl 1 0])) [0, 1] ([bC 0 1 k c, bS 1 12 k (rowsN R)])) (.fork (decide (128 ≤ (↑k : Int))) (.stop (.leaf (.tuple [.int .i64 (7 : Int), .gsl 0 0, .gsl 1 0])) [0, 1] ([bC 0 1 k c, bS 1 12 k (rowsN R)])) (.left (decide (m.k = m.k)) (.left (decide (m.f = m.f)) (.left (decide (m.t = m.t)) (.left (decide (m.v0 = m.v0)) (.left (decide (m.v1 = m.v1)) (.left (decide (m.v2 = m.v2)) (.left (decide (m.v3 = m.v3)) (.left (decide (m.v4 = m.v4)) (.left (decide (m.v5 = m.v5)) (.left (@decide (14 = 14 ∧ q = q ∧ (fun i => (E i).row) = fun i => (E i).row) pd) (.left (decide (m.n = m.n)) (.left (decide (m.a = m.a)) (.left (decide (m.k = m.k)) (.left (decide (m.f = m.f)) (.left (decide (m.t = m.t)) (.left (decide (m.v0 = m.v0)) (.left (decide (m.v1 = m.v1)) (.left (decide (m.v2 = m.v2)) (.left (decide (m.v3 = m.v3)) (.left (decide (m.v4 = m.v4)) (.left (decide (m.v5 = m.v5)) (.left (@decide (14 = 14 ∧ q = q ∧ (fun i => (E i).row) = fun i => (E i).row) pd) (.left (decide (m.n = m.n)) (.left (decide (m.a = m.a)) (.left (decide (k = k)) (.left (@decide (1 < 65536 ∧ RowsOK 12 1 fun i => List.take 12 (List.drop (i * 12) (m.row (.data 14 q fun i => (E i).row)))) pd) (.left (decide (k ≤ k ∧ k < 65536)) (.stop (.leaf (.tuple [.int .i64 (0 : Int), .gsl 0 0, .gsl 1 0])) [0, 1, 4] ([bC 0 4 (k + 1) c, (some Blk.dead, none), bS 4 12 (k + 1) (glue k (rowsN R) fun i => List.take 12 (List.drop (i * 12) (m.row (.data 14 q fun i => (E i).row))))]))))))))))))))))))))))))))))))) (.fork (decide (m.t - 1 = 3)) (.fork (c 33) (.stop (.leaf (.tuple [.int .i64 (0 : Int), .gsl 0 0, .gsl 1 0])) [0, 1] ([bC 0 1 k c, bS 1 12 k (rowsN R)])) (.fork (decide (128 ≤ (↑k : Int))) (.stop (.leaf (.tuple [.int .i64 (7 : Int), .gsl 0 0, .gsl 1 0])) [0, 1] ([bC 0 1 k c, bS 1 12 k (rowsN R)])) (.left (decide (m.k = m.k)) (.left (decide (m.f = m.f)) (.left (decide (m.t = m.t)) (.left (decide (m.v0 = m.v0)) (.left (decide (m.v1 = m.v1)) (.left (decide (m.v2 = m.v2)) (.left (decide (m.v3 = m.v3)) (.left (decide (m.v4 = m.v4)) (.left (decide (m.v5 = m.v5)) (.left (@decide (14 = 14 ∧ q = q ∧ (fun i => (E i).row) = fun i => (E i).row) pd) (.left (decide (m.n = m.n)) (.left (decide (m.a = m.a)) (.left (decide (m.k = m.k)) (.left (decide (m.f = m.f)) (.left (decide (m.t = m.t)) (.left (decide (m.v0 = m.v0)) (.left (decide (m.v1 = m.v1)) (.left (decide (m.v2 = m.v2)) (.left (decide (m.v3 = m.v3)) (.left (decide (m.v4 = m.v4)) (.left (decide (m.v5 = m.v5)) (.left (@decide (14 = 14 ∧ q = q ∧ (fun i => (E i).row) = fun i => (E i).row) pd) (.left (decide (m.n = m.n)) (.left (decide (m.a = m.a)) (.left (decide (k = k)) (.left (@decide (1 < 65536 ∧ RowsOK 12 1 fun i => List.take 12 (List.drop (i * 12) (m.row (.data 14 q fun i => (E i).row)))) pd) (.left (decide (k ≤ k ∧ k < 65536)) (.stop (.leaf (.tuple [.int .i64 (0 : Int), .gsl 0 0, .gsl 1 0])) [0, 1, 4] ([bC 0 4 (k + 1) c, (some Blk.dead, none), bS 4 12 (k + 1) (glue k (rowsN R) fun i => List.take 12 (List.drop (i * 12) (m.row (.data 14 q fun i => (E i).row))))]))))))))))))))))))))))))))))))) (.fork (decide (m.t - 1 = 2)) (.fork (c 32) (.stop (.leaf (.tuple [.int .i64 (0 : Int), .gsl 0 0, .gsl 1 0])) [0, 1] ([bC 0 1 k c, bS 1 12 k (rowsN R)])) (.fork (decide (128 ≤ (↑k : Int))) (.stop (.leaf (.tuple [.int .i64 (7 : Int), .gsl 0 0, .gsl 1 0])) [0, 1] ([bC 0 1 k c, bS 1 12 k (rowsN R)])) (.left (decide (m.k = m.k)) (.left (decide (m.f = m.f)) (.left (decide (m.t = m.t)) (.left (decide (m.v0 = m.v0)) (.left (decide (m.v1 = m.v1)) (.left (decide (m.v2 = m.v2)) (.left (decide (m.v3 = m.v3)) (.left (decide (m.v4 = m.v4)) (.left (decide (m.v5 = m.v5)) (.left (@decide (14 = 14 ∧ q = q ∧ (fun i => (E i).row) = fun i => (E i).row) pd) (.left (decide (m.n = m.n)) (.left (decide (m.a = m.a)) (.left (decide (m.k = m.k)) (.left (decide (m.f = m.f)) (.left (decide (m.t = m.t)) (.left (decide (m.v0 = m.v0)) (.left (decide (m.v1 = m.v1)) (.left (decide (m.v2 = m.v2)) (.left (decide (m.v3 = m.v3)) (.left (decide (m.v4 = m.v4)) (.left (decide (m.v5 = m.v5)) (.left (@decide (14 = 14 ∧ q = q ∧ (fun i => (E i).row) = fun i => (E i).row) pd) (.left (decide (m.n = m.n)) (.left (decide (m.a = m.a)) (.left (decide (k = k)) (.left (@decide (1 < 65536 ∧ RowsOK 12 1 fun i => List.take 12 (List.drop (i * 12) (m.row (.data 14 q fun i => (E i).row)))) pd) (.left (decide (k ≤ k ∧ k < 65536)) (.stop (.leaf (.tuple [.int .i64 (0 : Int), .gsl 0 0, .gsl 1 0])) [0, 1, 4] ([bC 0 4 (k + 1) c, (some Blk.dead, none), bS 4 12 (k + 1) (glue k (rowsN R) fun i => List.take 12 (List.drop (i * 12) (m.row (.data 14 q fun i => (E i).row))))]))))))))))))))))))))))))))))))) (.fork (decide (m.t - 1 = 1)) (.fork (c 31) (.stop (.leaf (.tuple [.int .i64 (0 : Int), .gsl 0 0, .gsl 1 0])) [0, 1] ([bC 0 1 k c, bS 1 12 k (rowsN R)])) (.fork (decide (128 ≤ (↑k : Int))) (.stop (.leaf (.tuple [.int .i64 (7 : Int), .gsl 0 0, .gsl 1 0])) [0, 1] ([bC 0 1 k c, bS 1 12 k (rowsN R)])) (.left (decide (m.k = m.k)) (.left (decide (m.f = m.f)) (.left (decide (m.t = m.t)) (.left (decide (m.v0 = m.v0)) (.left (decide (m.v1 = m.v1)) (.left (decide (m.v2 = m.v2)) (.left (decide (m.v3 = m.v3)) (.left (decide (m.v4 = m.v4)) (.left (decide (m.v5 = m.v5)) (.left (@decide (14 = 14 ∧ q = q ∧ (fun i => (E i).row) = fun i => (E i).row) pd) (.left (decide (m.n = m.n)) (.left (decide (m.a = m.a)) (.left (decide (m.k = m.k)) (.left (decide (m.f = m.f)) (.left (decide (m.t = m.t)) (.left (decide (m.v0 = m.v0)) (.left (decide (m.v1 = m.v1)) (.left (decide (m.v2 = m.v2)) (.left (decide (m.v3 = m.v3)) (.left (decide (m.v4 = m.v4)) (.left (decide (m.v5 = m.v5)) (.left (@decide (14 = 14 ∧ q = q ∧ (fun i => (E i).row) = fun i => (E i).row) pd) (.left (decide (m.n = m.n)) (.left (decide (m.a = m.a)) (.left (decide (k = k)) (.left (@decide (1 < 65536 ∧ RowsOK 12 1 fun i => List.take 12 (List.drop (i * 12) (m.row (.data 14 q fun i => (E i).row)))) pd) (.left (decide (k ≤ k ∧ k < 65536)) (.stop (.leaf (.tuple [.int .i64 (0 : Int), .gsl 0 0, .gsl 1 0])) [0, 1, 4] ([bC 0 4 (k + 1) c, (some Blk.dead, none), bS 4 12 (k + 1) (glue k (rowsN R) fun i => List.take 12 (List.drop (i * 12) (m.row (.data 14 q fun i => (E i).row))))]))))))))))))))))))))))))))))))) (.left (decide (m.t - 1 = 0)) (.fork (c 30) (.stop (.leaf (.tuple [.int .i64 (0 : Int), .gsl 0 0, .gsl 1 0])) [0, 1] ([bC 0 1 k c, bS 1 12 k (rowsN R)])) (.fork (decide (128 ≤ (↑k : Int))) (.stop (.leaf (.tuple [.int .i64 (7 : Int), .gsl 0 0, .gsl 1 0])) [0, 1] ([bC 0 1 k c, bS 1 12 k (rowsN R)])) (.left (decide (m.k = m.k)) (.left (decide (m.f = m.f)) (.left (decide (m.t = m.t)) (.left (decide (m.v0 = m.v0)) (.left (decide (m.v1 = m.v1)) (.left (decide (m.v2 = m.v2)) (.left (decide (m.v3 = m.v3)) (.left (decide (m.v4 = m.v4)) (.left (decide (m.v5 = m.v5)) (.left (@decide (14 = 14 ∧ q = q ∧ (fun i => (E i).row) = fun i => (E i).row) pd) (.left (decide (m.n = m.n)) (.left (decide (m.a = m.a)) (.left (decide (m.k = m.k)) (.left (decide (m.f = m.f)) (.left (decide (m.t = m.t)) (.left (decide (m.v0 = m.v0)) (.left (decide (m.v1 = m.v1)) (.left (decide (m.v2 = m.v2)) (.left (decide (m.v3 = m.v3)) (.left (decide (m.v4 = m.v4)) (.left (decide (m.v5 = m.v5)) (.left (@decide (14 = 14 ∧ q = q ∧ (fun i => (E i).row) = fun i => (E i).row) pd) (.left (decide (m.n = m.n)) (.left (decide (m.a = m.a)) (.left (decide (k = k)) (.left (@decide (1 < 65536 ∧ RowsOK 12 1 fun i => List.take 12 (List.drop (i * 12) (m.row (.data 14 q fun i => (E i).row)))) pd) (.left (decide (k ≤ k ∧ k < 65536)) (.stop (.leaf (.tuple [.int .i64 (0 : Int), .gsl 0 0, .gsl 1 0])) [0, 1, 4] ([bC 0 4 (k + 1) c, (some Blk.dead, none), bS 4 12 (k + 1) (glue k (rowsN R) fun i => List.take 12 (List.drop (i * 12) (m.row (.data 14 q fun i => (E i).row))))]))))))))))))))))))))))))))))))))))))) (.fork (decide (m.f - 1 = 4)) (.fork (decide (m.t - 1 = 5)) (.fork (c 29) (.stop (.leaf (.tuple [.int .i64 (0 : Int), .gsl 0 0, .gsl 1 0])) [0, 1] ([bC 0 1 k c, bS 1 12 k (rowsN R)])) (.fork (decide (128 ≤ (↑k : Int))) (.stop (.leaf (.tuple [.int .i64 (7 : Int), .gsl 0 0, .gsl 1 0])) [0, 1] ([bC 0 1 k c, bS 1 12 k (rowsN R)])) (.left (decide (m.k = m.k)) (.left (decide (m.f = m.f)) (.left (decide (m.t = m.t)) (.left (decide (m.v0 = m.v0)) (.left (decide (m.v1 = m.v1)) (.left (decide (m.v2 = m.v2)) (.left (decide (m.v3 = m.v3)) (.left (decide (m.v4 = m.v4)) (.left (decide (m.v5 = m.v5)) (.left (@decide (14 = 14 ∧ q = q ∧ (fun i => (E i).row) = fun i => (E i).row) pd) (.left (decide (m.n = m.n)) (.left (decide (m.a = m.a)) (.left (decide (m.k = m.k)) (.left (decide (m.f = m.f)) (.left (decide (m.t = m.t)) (.left (decide (m.v0 = m.v0)) (.left (decide (m.v1 = m.v1)) (.left (decide (m.v2 = m.v2)) (.left (decide (m.v3 = m.v3)) (.left (decide (m.v4 = m.v4)) (.left (decide (m.v5 = m.v5)) (.left (@decide (14 = 14 ∧ q = q ∧ (fun i => (E i).row) = fun i => (E i).row) pd) (.left (decide (m.n = m.n)) (.left (decide (m.a = m.a)) (.left (decide (k = k)) (.left (@decide (1 < 65536 ∧ RowsOK 12 1 fun i => List.take 12 (List.drop (i * 12) (m.row (.data 14 q fun i => (E i).row)))) pd) (.left (decide (k ≤ k ∧ k < 65536)) (.stop (.leaf (.tuple [.int .i64 (0 : Int), .gsl 0 0, .gsl 1 0])) [0, 1, 4] ([bC 0 4 (k + 1) c, (some Blk.dead, none), bS 4 12 (k + 1) (glue k (rowsN R) fun i => List.take 12 (List.drop (i * 12) (m.row (.data 14 q fun i => (E i).row))))]))))))))))))))))))))))))))))))) (.right (decide (m.t - 1 = 4)) (.fork (decide (m.t - 1 = 3)) (.fork (c 27) (.stop (.leaf (.tuple [.int .i64 (0 : Int), .gsl 0 0, .gsl 1 0])) [0, 1] ([bC 0 1 k c, bS 1 12 k (rowsN R)])) (.fork (decide (128 ≤ (↑k : Int))) (.stop (.leaf (.tuple [.int .i64 (7 : Int), .gsl 0 0, .gsl 1 0])) [0, 1] ([bC 0 1 k c, bS 1 12 k (rowsN R)])) (.left (decide (m.k = m.k)) (.left (decide (m.f = m.f)) (.left (decide (m.t = m.t)) (.left (decide (m.v0 = m.v0)) (.left (decide (m.v1 = m.v1)) (.left (decide (m.v2 = m.v2)) (.left (decide (m.v3 = m.v3)) (.left (decide (m.v4 = m.v4)) (.left (decide (m.v5 = m.v5)) (.left (@decide (14 = 14 ∧ q = q ∧ (fun i => (E i).row) = fun i => (E i).row) pd) (.left (decide (m.n = m.n)) (.left (decide (m.a = m.a)) (.left (decide (m.k = m.k)) (.left (decide (m.f = m.f)) (.left (decide (m.t = m.t)) (.left (decide (m.v0 = m.v0)) (.left (decide (m.v1 = m.v1)) (.left (decide (m.v2 = m.v2)) (.left (decide (m.v3 = m.v3)) (.left (decide (m.v4 = m.v4)) (.left (decide (m.v5 = m.v5)) (.left (@decide (14 = 14 ∧ q = q ∧ (fun i => (E i).row) = fun i => (E i).row) pd) (.left (decide (m.n = m.n)) (.left (decide (m.a = m.a)) (.left (decide (k = k)) (.left (@decide (1 < 65536 ∧ RowsOK 12 1 fun i => List.take 12 (List.drop (i * 12) (m.row (.data 14 q fun i => (E i).row)))) pd) (.left (decide (k ≤ k ∧ k < 65536)) (.stop (.leaf (.tuple [.int .i64 (0 : Int), .gsl 0 0, .gsl 1 0])) [0, 1, 4] ([bC 0 4 (k + 1) c, (some Blk.dead, none), bS 4 12 (k + 1) (glue k (rowsN R) fun i => List.take 12 (List.drop (i * 12) (m.row (.data 14 q fun i => (E i).row))))]))))))))))))))))))))))))))))))) (.fork (decide (m.t - 1 = 2)) (.fork (c 26) (.stop (.leaf (.tuple [.int .i64 (0 : Int), .gsl 0 0, .gsl 1 0])) [0, 1] ([bC 0 1 k c, bS 1 12 k (rowsN R)])) (.fork (decide (128 ≤ (↑k : Int))) (.stop (.leaf (.tuple [.int .i64 (7 : Int), .gsl 0 0, .gsl 1 0])) [0, 1] ([bC 0 1 k c, bS 1 12 k (rowsN R)])) (.left (decide (m.k = m.k)) (.left (decide (m.f = m.f)) (.left (decide (m.t = m.t)) (.left (decide (m.v0 = m.v0)) (.left (decide (m.v1 = m.v1)) (.left (decide (m.v2 = m.v2)) (.left (decide (m.v3 = m.v3)) (.left (decide (m.v4 = m.v4)) (.left (decide (m.v5 = m.v5)) (.left (@decide (14 = 14 ∧ q = q ∧ (fun i => (E i).row) = fun i => (E i).row) pd) (.left (decide (m.n = m.n)) (.left (decide (m.a = m.a)) (.left (decide (m.k = m.k)) (.left (decide (m.f = m.f)) (.left (decide (m.t = m.t)) (.left (decide (m.v0 = m.v0)) (.left (decide (m.v1 = m.v1)) (.left (decide (m.v2 = m.v2)) (.left (decide (m.v3 = m.v3)) (.left (decide (m.v4 = m.v4)) (.left (decide (m.v5 = m.v5)) (.left (@decide (14 = 14 ∧ q = q ∧ (fun i => (E i).row) = fun i => (E i).row) pd) (.left (decide (m.n = m.n)) (.left (decide (m.a = m.a)) (.left (decide (k = k)) (.left (@decide (1 < 65536 ∧ RowsOK 12 1 fun i => List.take 12 (List.drop (i * 12) (m.row (.data 14 q fun i => (E i).row)))) pd) (.left (decide (k ≤ k ∧ k < 65536)) (.stop (.leaf (.tuple [.int .i64 (0 : Int), .gsl 0 0, .gsl 1 0])) [0, 1, 4] ([bC 0 4 (k + 1) c, (some Blk.dead, none), bS 4 12 (k + 1) (glue k (rowsN R) fun i => List.take 12 (List.drop (i * 12) (m.row (.data 14 q fun i => (E i).row))))]))))))))))))))))))))))))))))))) (.fork (decide (m.t - 1 = 1)) (.fork (c 25) (.stop (.leaf (.tuple [.int .i64 (0 : Int), .gsl 0 0, .gsl 1 0])) [0, 1] ([bC 0 1 k c, bS 1 12 k (rowsN R)])) (.fork (decide (128 ≤ (↑k : Int))) (.stop (.leaf (.tuple [.int .i64 (7 : Int), .gsl 0 0, .gsl 1 0])) [0, 1] ([bC 0 1 k c, bS 1 12 k (rowsN R)])) (.left (decide (m.k = m.k)) (.left (decide (m.f = m.f)) (.left (decide (m.t = m.t)) (.left (decide (m.v0 = m.v0)) (.left (decide (m.v1 = m.v1)) (.left (decide (m.v2 = m.v2)) (.left (decide (m.v3 = m.v3)) (.left (decide (m.v4 = m.v4)) (.left (decide (m.v5 = m.v5)) (.left (@decide (14 = 14 ∧ q = q ∧ (fun i => (E i).row) = fun i => (E i).row) pd) (.left (decide (m.n = m.n)) (.left (decide (m.a = m.a)) (.left (decide (m.k = m.k)) (.left (decide (m.f = m.f)) (.left (decide (m.t = m.t)) (.left (decide (m.v0 = m.v0)) (.left (decide (m.v1 = m.v1)) (.left (decide (m.v2 = m.v2)) (.left (decide (m.v3 = m.v3)) (.left (decide (m.v4 = m.v4)) (.left (decide (m.v5 = m.v5)) (.left (@decide (14 = 14 ∧ q = q ∧ (fun i => (E i).row) = fun i => (E i).row) pd) (.left (decide (m.n = m.n)) (.left (decide (m.a = m.a)) (.left (decide (k = k)) (.left (@decide (1 < 65536 ∧ RowsOK 12 1 fun i => List.take 12 (List.drop (i * 12) (m.row (.data 14 q fun i => (E i).row)))) pd) (.left (decide (k ≤ k ∧ k < 65536)) (.stop (.leaf (.tuple [.int .i64 (0 : Int), .gsl 0 0, .gsl 1 0])) [0, 1, 4] ([bC 0 4 (k + 1) c, (some Blk.dead, none), bS 4 12 (k + 1) (glue k (rowsN R) fun i => List.take 12 (List.drop (i * 12) (m.row (.data 14 q fun i => (E i).row))))]))))))))))))))))))))))))))))))) (.left (decide (m.t - 1 = 0)) (.fork (c 24) (.stop (.leaf (.tuple [.int .i64 (0 : Int), .gsl 0 0, .gsl 1 0])) [0, 1] ([bC 0 1 k c, bS 1 12 k (rowsN R)])) (.fork (decide (128 ≤ (↑k : Int))) (.stop (.leaf (.tuple [.int .i64 (7 : Int), .gsl 0 0, .gsl 1 0])) [0, 1] ([bC 0 1 k c, bS 1 12 k (rowsN R)])) (.left (decide (m.k = m.k)) (.left (decide (m.f = m.f)) (.left (decide (m.t = m.t)) (.left (decide (m.v0 = m.v0)) (.left (decide (m.v1 = m.v1)) (.left (decide (m.v2 = m.v2)) (.left (decide (m.v3 = m.v3)) (.left (decide (m.v4 = m.v4)) (.left (decide (m.v5 = m.v5)) (.left (@decide (14 = 14 ∧ q = q ∧ (fun i => (E i).row) = fun i => (E i).row) pd) (.left (decide (m.n = m.n)) (.left (decide (m.a = m.a)) (.left (decide (m.k = m.k)) (.left (decide (m.f = m.f)) (.left (decide (m.t = m.t)) (.left (decide (m.v0 = m.v0)) (.left (decide (m.v1 = m.v1)) (.left (decide (m.v2 = m.v2)) (.left (decide (m.v3 = m.v3)) (.left (decide (m.v4 = m.v4)) (.left (decide (m.v5 = m.v5)) (.left (@decide (14 = 14 ∧ q = q ∧ (fun i => (E i).row) = fun i => (E i).row) pd) (.left (decide (m.n = m.n)) (.left (decide (m.a = m.a)) (.left (decide (k = k)) (.left (@decide (1 < 65536 ∧ RowsOK 12 1 fun i => List.take 12 (List.drop (i * 12) (m.row (.data 14 q fun i => (E i).row)))) pd) (.left (decide (k ≤ k ∧ k < 65536)) (.stop (.leaf (.tuple [.int .i64 (0 : Int), .gsl 0 0, .gsl 1 0])) [0, 1, 4] ([bC 0 4 (k + 1) c, (some Blk.dead, none), bS 4 12 (k + 1) (glue k (rowsN R) fun i => List.take 12 (List.drop (i * 12) (m.row (.data 14 q fun i => (E i).row))))]))))))))))))))))))))))))))))))))))))) (.fork (decide (m.f - 1 = 3)) (.fork (decide (m.t - 1 = 5)) (.fork (c 23) (.stop (.leaf (.tuple [.int .i64 (0 : Int), .gsl 0 0, .gsl 1 0])) [0, 1] ([bC 0 1 k c, bS 1 12 k (rowsN R)])) (.fork (decide (128 ≤ (↑k : Int))) (.stop (.leaf (.tuple [.int .i64 (7 : Int), .gsl 0 0, .gsl 1 0])) [0, 1] ([bC 0 1 k c, bS 1 12 k (rowsN R)])) (.left (decide (m.k = m.k)) (.left (decide (m.f = m.f)) (.left (decide (m.t = m.t)) (.left (decide (m.v0 = m.v0)) (.left (decide (m.v1 = m.v1)) (.left (decide (m.v2 = m.v2)) (.left (decide (m.v3 = m.v3)) (.left (decide (m.v4 = m.v4)) (.left (decide (m.v5 = m.v5)) (.left (@decide (14 = 14 ∧ q = q ∧ (fun i => (E i).row) = fun i => (E i).row) pd) (.left (decide (m.n = m.n)) (.left (decide (m.a = m.a)) (.left (decide (m.k = m.k)) (.left (decide (m.f = m.f)) (.left (decide (m.t = m.t)) (.left (decide (m.v0 = m.v0)) (.left (decide (m.v1 = m.v1)) (.left (decide (m.v2 = m.v2)) (.left (decide (m.v3 = m.v3)) (.left (decide (m.v4 = m.v4)) (.left (decide (m.v5 = m.v5)) (.left (@decide (14 = 14 ∧ q = q ∧ (fun i => (E i).row) = fun i => (E i).row) pd) (.left (decide (m.n = m.n)) (.left (decide (m.a = m.a)) (.left (decide (k = k)) (.left (@decide (1 < 65536 ∧ RowsOK 12 1 fun i => List.take 12 (List.drop (i * 12) (m.row (.data 14 q fun i => (E i).row)))) pd) (.left (decide (k ≤ k ∧ k < 65536)) (.stop (.leaf (.tuple [.int .i64 (0 : Int), .gsl 0 0, .gsl 1 0])) [0, 1, 4] ([bC 0 4 (k + 1) c, (some Blk.dead, none), bS 4 12 (k + 1) (glue k (rowsN R) fun i => List.take 12 (List.drop (i * 12) (m.row (.data 14 q fun i => (E i).row))))]))))))))))))))))))))))))))))))) (.fork (decide (m.t - 1 = 4)) (.fork (c 22) (.stop (.leaf (.tuple [.int .i64 (0 : Int), .gsl 0 0, .gsl 1 0])) [0, 1] ([bC 0 1 k c, bS 1 12 k (rowsN R)])) (.fork (decide (128 ≤ (↑k : Int))) (.stop (.leaf (.tuple [.int .i64 (7 : Int), .gsl 0 0, .gsl 1 0])) [0, 1] ([bC 0 1 k c, bS 1 12 k (rowsN R)])) (.left (decide (m.k = m.k)) (.left (decide (m.f = m.f)) (.left (decide (m.t = m.t)) (.left (decide (m.v0 = m.v0)) (.left (decide (m.v1 = m.v1)) (.left (decide (m.v2 = m.v2)) (.left (decide (m.v3 = m.v3)) (.left (decide (m.v4 = m.v4)) (.left (decide (m.v5 = m.v5)) (.left (@decide (14 = 14 ∧ q = q ∧ (fun i => (E i).row) = fun i => (E i).row) pd) (.left (decide (m.n = m.n)) (.left (decide (m.a = m.a)) (.left (decide (m.k = m.k)) (.left (decide (m.f = m.f)) (.left (decide (m.t = m.t)) (.left (decide (m.v0 = m.v0)) (.left (decide (m.v1 = m.v1)) (.left (decide (m.v2 = m.v2)) (.left (decide (m.v3 = m.v3)) (.left (decide (m.v4 = m.v4)) (.left (decide (m.v5 = m.v5)) (.left (@decide (14 = 14 ∧ q = q ∧ (fun i => (E i).row) = fun i => (E i).row) pd) (.left (decide (m.n = m.n)) (.left (decide (m.a = m.a)) (.left (decide (k = k)) (.left (@decide (1 < 65536 ∧ RowsOK 12 1 fun i => List.take 12 (List.drop (i * 12) (m.row (.data 14 q fun i => (E i).row)))) pd) (.left (decide (k ≤ k ∧ k < 65536)) (.stop (.leaf (.tuple [.int .i64 (0 : Int), .gsl 0 0, .gsl 1 0])) [0, 1, 4] ([bC 0 4 (k + 1) c, (some Blk.dead, none), bS 4 12 (k + 1) (glue k (rowsN R) fun i => List.take 12 (List.drop (i * 12) (m.row (.data 14 q fun i => (E i).row))))]))))))))))))))))))))))))))))))) (.right (decide (m.t - 1 = 3)) (.fork (decide (m.t - 1 = 2)) (.fork (c 20) (.stop (.leaf (.tuple [.int .i64 (0 : Int), .gsl 0 0, .gsl 1 0])) [0, 1] ([bC 0 1 k c, bS 1 12 k (rowsN R)])) (.fork (decide (128 ≤ (↑k : Int))) (.stop (.leaf (.tuple [.int .i64 (7 : Int), .gsl 0 0, .gsl 1 0])) [0, 1] ([bC 0 1 k c, bS 1 12 k (rowsN R)])) (.left (decide (m.k = m.k)) (.left (decide (m.f = m.f)) (.left (decide (m.t = m.t)) (.left (decide (m.v0 = m.v0)) (.left (decide (m.v1 = m.v1)) (.left (decide (m.v2 = m.v2)) (.left (decide (m.v3 = m.v3)) (.left (decide (m.v4 = m.v4)) (.left (decide (m.v5 = m.v5)) (.left (@decide (14 = 14 ∧ q = q ∧ (fun i => (E i).row) = fun i => (E i).row) pd) (.left (decide (m.n = m.n)) (.left (decide (m.a = m.a)) (.left (decide (m.k = m.k)) (.left (decide (m.f = m.f)) (.left (decide (m.t = m.t)) (.left (decide (m.v0 = m.v0)) (.left (decide (m.v1 = m.v1)) (.left (decide (m.v2 = m.v2)) (.left (decide (m.v3 = m.v3)) (.left (decide (m.v4 = m.v4)) (.left (decide (m.v5 = m.v5)) (.left (@decide (14 = 14 ∧ q = q ∧ (fun i => (E i).row) = fun i => (E i).row) pd) (.left (decide (m.n = m.n)) (.left (decide (m.a = m.a)) (.left (decide (k = k)) (.left (@decide (1 < 65536 ∧ RowsOK 12 1 fun i => List.take 12 (List.drop (i * 12) (m.row (.data 14 q fun i => (E i).row)))) pd) (.left (decide (k ≤ k ∧ k < 65536)) (.stop (.leaf (.tuple [.int .i64 (0 : Int), .gsl 0 0, .gsl 1 0])) [0, 1, 4] ([bC 0 4 (k + 1) c, (some Blk.dead, none), bS 4 12 (k + 1) (glue k (rowsN R) fun i => List.take 12 (List.drop (i * 12) (m.row (.data 14 q fun i => (E i).row))))]))))))))))))))))))))))))))))))) (.fork (decide (m.t - 1 = 1)) (.fork (c 19) (.stop (.leaf (.tuple [.int .i64 (0 : Int), .gsl 0 0, .gsl 1 0])) [0, 1] ([bC 0 1 k c, bS 1 12 k (rowsN R)])) (.fork (decide (128 ≤ (↑k : Int))) (.stop (.leaf (.tuple [.int .i64 (7 : Int), .gsl 0 0, .gsl 1 0])) [0, 1] ([bC 0 1 k c, bS 1 12 k (rowsN R)])) (.left (decide (m.k = m.k)) (.left (decide (m.f = m.f)) (.left (decide (m.t = m.t)) (.left (decide (m.v0 = m.v0)) (.left (decide (m.v1 = m.v1)) (.left (decide (m.v2 = m.v2)) (.left (decide (m.v3 = m.v3)) (.left (decide (m.v4 = m.v4)) (.left (decide (m.v5 = m.v5)) (.left (@decide (14 = 14 ∧ q = q ∧ (fun i => (E i).row) = fun i => (E i).row) pd) (.left (decide (m.n = m.n)) (.left (decide (m.a = m.a)) (.left (decide (m.k = m.k)) (.left (decide (m.f = m.f)) (.left (decide (m.t = m.t)) (.left (decide (m.v0 = m.v0)) (.left (decide (m.v1 = m.v1)) (.left (decide (m.v2 = m.v2)) (.left (decide (m.v3 = m.v3)) (.left (decide (m.v4 = m.v4)) (.left (decide (m.v5 = m.v5)) (.left (@decide (14 = 14 ∧ q = q ∧ (fun i => (E i).row) = fun i => (E i).row) pd) (.left (decide (m.n = m.n)) (.left (decide (m.a = m.a)) (.left (decide (k = k)) (.left (@decide (1 < 65536 ∧ RowsOK 12 1 fun i => List.take 12 (List.drop (i * 12) (m.row (.data 14 q fun i => (E i).row)))) pd) (.left (decide (k ≤ k ∧ k < 65536)) (.stop (.leaf (.tuple [.int .i64 (0 : Int), .gsl 0 0, .gsl 1 0])) [0, 1, 4] ([bC 0 4 (k + 1) c, (some Blk.dead, none), bS 4 12 (k + 1) (glue k (rowsN R) fun i => List.take 12 (List.drop (i * 12) (m.row (.data 14 q fun i => (E i).row))))]))))))))))))))))))))))))))))))) (.left (decide (m.t - 1 = 0)) (.fork (c 18) (.stop (.leaf (.tuple [.int .i64 (0 : Int), .gsl 0 0, .gsl 1 0])) [0, 1] ([bC 0 1 k c, bS 1 12 k (rowsN R)])) (.fork (decide (128 ≤ (↑k : Int))) (.stop (.leaf (.tuple [.int .i64 (7 : Int), .gsl 0 0, .gsl 1 0])) [0, 1] ([bC 0 1 k c, bS 1 12 k (rowsN R)])) (.left (decide (m.k = m.k)) (.left (decide (m.f = m.f)) (.left (decide (m.t = m.t)) (.left (decide (m.v0 = m.v0)) (.left (decide (m.v1 = m.v1)) (.left (decide (m.v2 = m.v2)) (.left (decide (m.v3 = m.v3)) (.left (decide (m.v4 = m.v4)) (.left (decide (m.v5 = m.v5)) (.left (@decide (14 = 14 ∧ q = q ∧ (fun i => (E i).row) = fun i => (E i).row) pd) (.left (decide (m.n = m.n)) (.left (decide (m.a = m.a)) (.left (decide (m.k = m.k)) (.left (decide (m.f = m.f)) (.left (decide (m.t = m.t)) (.left (decide (m.v0 = m.v0)) (.left (decide (m.v1 = m.v1)) (.left (decide (m.v2 = m.v2)) (.left (decide (m.v3 = m.v3)) (.left (decide (m.v4 = m.v4)) (.left (decide (m.v5 = m.v5)) (.left (@decide (14 = 14 ∧ q = q ∧ (fun i => (E i).row) = fun i => (E i).row) pd) (.left (decide (m.n = m.n)) (.left (decide (m.a = m.a)) (.left (decide (k = k)) (.left (@decide (1 < 65536 ∧ RowsOK 12 1 fun i => List.take 12 (List.drop (i * 12) (m.row (.data 14 q fun i => (E i).row)))) pd) (.left (decide (k ≤ k ∧ k < 65536)) (.stop (.leaf (.tuple [.int .i64 (0 : Int), .gsl 0 0, .gsl 1 0])) [0, 1, 4] ([bC 0 4 (k + 1) c, (some Blk.dead, none), bS 4 12 (k + 1) (glue k (rowsN R) fun i => List.take 12 (List.drop (i * 12) (m.row (.data 14 q fun i => (E i).row))))]))))))))))))))))))))))))))))))))))))) (.fork (decide (m.f - 1 = 2)) (.fork (decide (m.t - 1 = 5)) (.fork (c 17) (.stop (.leaf (.tuple [.int .i64 (0 : Int), .gsl 0 0, .gsl 1 0])) [0, 1] ([bC 0 1 k c, bS 1 12 k (rowsN R)])) (.fork (decide (128 ≤ (↑k : Int))) (.stop (.leaf (.tuple [.int .i64 (7 : Int), .gsl 0 0, .gsl 1 0])) [0, 1] ([bC 0 1 k c, bS 1 12 k (rowsN R)])) (.left (decide (m.k = m.k)) (.left (decide (m.f = m.f)) (.left (decide (m.t = m.t)) (.left (decide (m.v0 = m.v0)) (.left (decide (m.v1 = m.v1)) (.left (decide (m.v2 = m.v2)) (.left (decide (m.v3 = m.v3)) (.left (decide (m.v4 = m.v4)) (.left (decide (m.v5 = m.v5)) (.left (@decide (14 = 14 ∧ q = q ∧ (fun i => (E i).row) = fun i => (E i).row) pd) (.left (decide (m.n = m.n)) (.left (decide (m.a = m.a)) (.left (decide (m.k = m.k)) (.left (decide (m.f = m.f)) (.left (decide (m.t = m.t)) (.left (decide (m.v0 = m.v0)) (.left (decide (m.v1 = m.v1)) (.left (decide (m.v2 = m.v2)) (.left (decide (m.v3 = m.v3)) (.left (decide (m.v4 = m.v4)) (.left (decide (m.v5 = m.v5)) (.left (@decide (14 = 14 ∧ q = q ∧ (fun i => (E i).row) = fun i => (E i).row) pd) (.left (decide (m.n = m.n)) (.left (decide (m.a = m.a)) (.left (decide (k = k)) (.left (@decide (1 < 65536 ∧ RowsOK 12 1 fun i => List.take 12 (List.drop (i * 12) (m.row (.data 14 q fun i => (E i).row)))) pd) (.left (decide (k ≤ k ∧ k < 65536)) (.stop (.leaf (.tuple [.int .i64 (0 : Int), .gsl 0 0, .gsl 1 0])) [0, 1, 4] ([bC 0 4 (k + 1) c, (some Blk.dead, none), bS 4 12 (k + 1) (glue k (rowsN R) fun i => List.take 12 (List.drop (i * 12) (m.row (.data 14 q fun i => (E i).row))))]))))))))))))))))))))))))))))))) (.fork (decide (m.t - 1 = 4)) (.fork (c 16) (.stop (.leaf (.tuple [.int .i64 (0 : Int), .gsl 0 0, .gsl 1 0])) [0, 1] ([bC 0 1 k c, bS 1 12 k (rowsN R)])) (.fork (decide (128 ≤ (↑k : Int))) (.stop (.leaf (.tuple [.int .i64 (7 : Int), .gsl 0 0, .gsl 1 0])) [0, 1] ([bC 0 1 k c, bS 1 12 k (rowsN R)])) (.left (decide (m.k = m.k)) (.left (decide (m.f = m.f)) (.left (decide (m.t = m.t)) (.left (decide (m.v0 = m.v0)) (.left (decide (m.v1 = m.v1)) (.left (decide (m.v2 = m.v2)) (.left (decide (m.v3 = m.v3)) (.left (decide (m.v4 = m.v4)) (.left (decide (m.v5 = m.v5)) (.left (@decide (14 = 14 ∧ q = q ∧ (fun i => (E i).row) = fun i => (E i).row) pd) (.left (decide (m.n = m.n)) (.left (decide (m.a = m.a)) (.left (decide (m.k = m.k)) (.left (decide (m.f = m.f)) (.left (decide (m.t = m.t)) (.left (decide (m.v0 = m.v0)) (.left (decide (m.v1 = m.v1)) (.left (decide (m.v2 = m.v2)) (.left (decide (m.v3 = m.v3)) (.left (decide (m.v4 = m.v4)) (.left (decide (m.v5 = m.v5)) (.left (@decide (14 = 14 ∧ q = q ∧ (fun i => (E i).row) = fun i => (E i).row) pd) (.left (decide (m.n = m.n)) (.left (decide (m.a = m.a)) (.left (decide (k = k)) (.left (@decide (1 < 65536 ∧ RowsOK 12 1 fun i => List.take 12 (List.drop (i * 12) (m.row (.data 14 q fun i => (E i).row)))) pd) (.left (decide (k ≤ k ∧ k < 65536)) (.stop (.leaf (.tuple [.int .i64 (0 : Int), .gsl 0 0, .gsl 1 0])) [0, 1, 4] ([bC 0 4 (k + 1) c, (some Blk.dead, none), bS 4 12 (k + 1) (glue k (rowsN R) fun i => List.take 12 (List.drop (i * 12) (m.row (.data 14 q fun i => (E i).row))))]))))))))))))))))))))))))))))))) (.fork (decide (m.t - 1 = 3)) (.fork (c 15) (.stop (.leaf (.tuple [.int .i64 (0 : Int), .gsl 0 0, .gsl 1 0])) [0, 1] ([bC 0 1 k c, bS 1 12 k (rowsN R)])) (.fork (decide (128 ≤ (↑k : Int))) (.stop (.leaf (.tuple [.int .i64 (7 : Int), .gsl 0 0, .gsl 1 0])) [0, 1] ([bC 0 1 k c, bS 1 12 k (rowsN R)])) (.left (decide (m.k = m.k)) (.left (decide (m.f = m.f)) (.left (decide (m.t = m.t)) (.left (decide (m.v0 = m.v0)) (.left (decide (m.v1 = m.v1)) (.left (decide (m.v2 = m.v2)) (.left (decide (m.v3 = m.v3)) (.left (decide (m.v4 = m.v4)) (.left (decide (m.v5 = m.v5)) (.left (@decide (14 = 14 ∧ q = q ∧ (fun i => (E i).row) = fun i => (E i).row) pd) (.left (decide (m.n = m.n)) (.left (decide (m.a = m.a)) (.left (decide (m.k = m.k)) (.left (decide (m.f = m.f)) (.left (decide (m.t = m.t)) (.left (decide (m.v0 = m.v0)) (.left (decide (m.v1 = m.v1)) (.left (decide (m.v2 = m.v2)) (.left (decide (m.v3 = m.v3)) (.left (decide (m.v4 = m.v4)) (.left (decide (m.v5 = m.v5)) (.left (@decide (14 = 14 ∧ q = q ∧ (fun i => (E i).row) = fun i => (E i).row) pd) (.left (decide (m.n = m.n)) (.left (decide (m.a = m.a)) (.left (decide (k = k)) (.left (@decide (1 < 65536 ∧ RowsOK 12 1 fun i => List.take 12 (List.drop (i * 12) (m.row (.data 14 q fun i => (E i).row)))) pd) (.left (decide (k ≤ k ∧ k < 65536)) (.stop (.leaf (.tuple [.int .i64 (0 : Int), .gsl 0 0, .gsl 1 0])) [0, 1, 4] ([bC 0 4 (k + 1) c, (some Blk.dead, none), bS 4 12 (k + 1) (glue k (rowsN R) fun i => List.take 12 (List.drop (i * 12) (m.row (.data 14 q fun i => (E i).row))))]))))))))))))))))))))))))))))))) (.right (decide (m.t - 1 = 2)) (.fork (decide (m.t - 1 = 1)) (.fork (c 13) (.stop (.leaf (.tuple [.int .i64 (0 : Int), .gsl 0 0, .gsl 1 0])) [0, 1] ([bC 0 1 k c, bS 1 12 k (rowsN R)])) (.fork (decide (128 ≤ (↑k : Int))) (.stop (.leaf (.tuple [.int .i64 (7 : Int), .gsl 0 0, .gsl 1 0])) [0, 1] ([bC 0 1 k c, bS 1 12 k (rowsN R)])) (.left (decide (m.k = m.k)) (.left (decide (m.f = m.f)) (.left (decide (m.t = m.t)) (.left (decide (m.v0 = m.v0)) (.left (decide (m.v1 = m.v1)) (.left (decide (m.v2 = m.v2)) (.left (decide (m.v3 = m.v3)) (.left (decide (m.v4 = m.v4)) (.left (decide (m.v5 = m.v5)) (.left (@decide (14 = 14 ∧ q = q ∧ (fun i => (E i).row) = fun i => (E i).row) pd) (.left (decide (m.n = m.n)) (.left (decide (m.a = m.a)) (.left (decide (m.k = m.k)) (.left (decide (m.f = m.f)) (.left (decide (m.t = m.t)) (.left (decide (m.v0 = m.v0)) (.left (decide (m.v1 = m.v1)) (.left (decide (m.v2 = m.v2)) (.left (decide (m.v3 = m.v3)) (.left (decide (m.v4 = m.v4)) (.left (decide (m.v5 = m.v5)) (.left (@decide (14 = 14 ∧ q = q ∧ (fun i => (E i).row) = fun i => (E i).row) pd) (.left (decide (m.n = m.n)) (.left (decide (m.a = m.a)) (.left (decide (k = k)) (.left (@decide (1 < 65536 ∧ RowsOK 12 1 fun i => List.take 12 (List.drop (i * 12) (m.row (.data 14 q fun i => (E i).row)))) pd) (.left (decide (k ≤ k ∧ k < 65536)) (.stop (.leaf (.tuple [.int .i64 (0 : Int), .gsl 0 0, .gsl 1 0])) [0, 1, 4] ([bC 0 4 (k + 1) c, (some Blk.dead, none), bS 4 12 (k + 1) (glue k (rowsN R) fun i => List.take 12 (List.drop (i * 12) (m.row (.data 14 q fun i => (E i).row))))]))))))))))))))))))))))))))))))) (.left (decide (m.t - 1 = 0)) (.fork (c 12) (.stop (.leaf (.tuple [.int .i64 (0 : Int), .gsl 0 0, .gsl 1 0])) [0, 1] ([bC 0 1 k c, bS 1 12 k (rowsN R)])) (.fork (decide (128 ≤ (↑k : Int))) (.stop (.leaf (.tuple [.int .i64 (7 : Int), .gsl 0 0, .gsl 1 0])) [0, 1] ([bC 0 1 k c, bS 1 12 k (rowsN R)])) (.left (decide (m.k = m.k)) (.left (decide (m.f = m.f)) (.left (decide (m.t = m.t)) (.left (decide (m.v0 = m.v0)) (.left (decide (m.v1 = m.v1)) (.left (decide (m.v2 = m.v2)) (.left (decide (m.v3 = m.v3)) (.left (decide (m.v4 = m.v4)) (.left (decide (m.v5 = m.v5)) (.left (@decide (14 = 14 ∧ q = q ∧ (fun i => (E i).row) = fun i => (E i).row) pd) (.left (decide (m.n = m.n)) (.left (decide (m.a = m.a)) (.left (decide (m.k = m.k)) (.left (decide (m.f = m.f)) (.left (decide (m.t = m.t)) (.left (decide (m.v0 = m.v0)) (.left (decide (m.v1 = m.v1)) (.left (decide (m.v2 = m.v2)) (.left (decide (m.v3 = m.v3)) (.left (decide (m.v4 = m.v4)) (.left (decide (m.v5 = m.v5)) (.left (@decide (14 = 14 ∧ q = q ∧ (fun i => (E i).row) = fun i => (E i).row) pd) (.left (decide (m.n = m.n)) (.left (decide (m.a = m.a)) (.left (decide (k = k)) (.left (@decide (1 < 65536 ∧ RowsOK 12 1 fun i => List.take 12 (List.drop (i * 12) (m.row (.data 14 q fun i => (E i).row)))) pd) (.left (decide (k ≤ k ∧ k < 65536)) (.stop (.leaf (.tuple [.int .i64 (0 : Int), .gsl 0 0, .gsl 1 0])) [0, 1, 4] ([bC 0 4 (k + 1) c, (some Blk.dead, none), bS 4 12 (k + 1) (glue k (rowsN R) fun i => List.take 12 (List.drop (i * 12) (m.row (.data 14 q fun i => (E i).row))))]))))))))))))))))))))))))))))))))))))) (.fork (decide (m.f - 1 = 1)) (.fork (decide (m.t - 1 = 5)) (.fork (c 11) (.stop (.leaf (.tuple [.int .i64 (0 : Int), .gsl 0 0, .gsl 1 0])) [0, 1] ([bC 0 1 k c, bS 1 12 k (rowsN R)])) (.fork (decide (128 ≤ (↑k : Int))) (.stop (.leaf (.tuple [.int .i64 (7 : Int), .gsl 0 0, .gsl 1 0])) [0, 1] ([bC 0 1 k c, bS 1 12 k (rowsN R)])) (.left (decide (m.k = m.k)) (.left (decide (m.f = m.f)) (.left (decide (m.t = m.t)) (.left (decide (m.v0 = m.v0)) (.left (decide (m.v1 = m.v1)) (.left (decide (m.v2 = m.v2)) (.left (decide (m.v3 = m.v3)) (.left (decide (m.v4 = m.v4)) (.left (decide (m.v5 = m.v5)) (.left (@decide (14 = 14 ∧ q = q ∧ (fun i => (E i).row) = fun i => (E i).row) pd) (.left (decide (m.n = m.n)) (.left (decide (m.a = m.a)) (.left (decide (m.k = m.k)) (.left (decide (m.f = m.f)) (.left (decide (m.t = m.t)) (.left (decide (m.v0 = m.v0)) (.left (decide (m.v1 = m.v1)) (.left (decide (m.v2 = m.v2)) (.left (decide (m.v3 = m.v3)) (.left (decide (m.v4 = m.v4)) (.left (decide (m.v5 = m.v5)) (.left (@decide (14 = 14 ∧ q = q ∧ (fun i => (E i).row) = fun i => (E i).row) pd) (.left (decide (m.n = m.n)) (.left (decide (m.a = m.a)) (.left (decide (k = k)) (.left (@decide (1 < 65536 ∧ RowsOK 12 1 fun i => List.take 12 (List.drop (i * 12) (m.row (.data 14 q fun i => (E i).row)))) pd) (.left (decide (k ≤ k ∧ k < 65536)) (.stop (.leaf (.tuple [.int .i64 (0 : Int), .gsl 0 0, .gsl 1 0])) [0, 1, 4] ([bC 0 4 (k + 1) c, (some Blk.dead, none), bS 4 12 (k + 1) (glue k (rowsN R) fun i => List.take 12 (List.drop (i * 12) (m.row (.data 14 q fun i => (E i).row))))]))))))))))))))))))))))))))))))) (.fork (decide (m.t - 1 = 4)) (.fork (c 10) (.stop (.leaf (.tuple [.int .i64 (0 : Int), .gsl 0 0, .gsl 1 0])) [0, 1] ([bC 0 1 k c, bS 1 12 k (rowsN R)])) (.fork (decide (128 ≤ (↑k : Int))) (.stop (.leaf (.tuple [.int .i64 (7 : Int), .gsl 0 0, .gsl 1 0])) [0, 1] ([bC 0 1 k c, bS 1 12 k (rowsN R)])) (.left (decide (m.k = m.k)) (.left (decide (m.f = m.f)) (.left (decide (m.t = m.t)) (.left (decide (m.v0 = m.v0)) (.left (decide (m.v1 = m.v1)) (.left (decide (m.v2 = m.v2)) (.left (decide (m.v3 = m.v3)) (.left (decide (m.v4 = m.v4)) (.left (decide (m.v5 = m.v5)) (.left (@decide (14 = 14 ∧ q = q ∧ (fun i => (E i).row) = fun i => (E i).row) pd) (.left (decide (m.n = m.n)) (.left (decide (m.a = m.a)) (.left (decide (m.k = m.k)) (.left (decide (m.f = m.f)) (.left (decide (m.t = m.t)) (.left (decide (m.v0 = m.v0)) (.left (decide (m.v1 = m.v1)) (.left (decide (m.v2 = m.v2)) (.left (decide (m.v3 = m.v3)) (.left (decide (m.v4 = m.v4)) (.left (decide (m.v5 = m.v5)) (.left (@decide (14 = 14 ∧ q = q ∧ (fun i => (E i).row) = fun i => (E i).row) pd) (.left (decide (m.n = m.n)) (.left (decide (m.a = m.a)) (.left (decide (k = k)) (.left (@decide (1 < 65536 ∧ RowsOK 12 1 fun i => List.take 12 (List.drop (i * 12) (m.row (.data 14 q fun i => (E i).row)))) pd) (.left (decide (k ≤ k ∧ k < 65536)) (.stop (.leaf (.tuple [.int .i64 (0 : Int), .gsl 0 0, .gsl 1 0])) [0, 1, 4] ([bC 0 4 (k + 1) c, (some Blk.dead, none), bS 4 12 (k + 1) (glue k (rowsN R) fun i => List.take 12 (List.drop (i * 12) (m.row (.data 14 q fun i => (E i).row))))]))))))))))))))))))))))))))))))) (.fork (decide (m.t - 1 = 3)) (.fork (c 9) (.stop (.leaf (.tuple [.int .i64 (0 : Int), .gsl 0 0, .gsl 1 0])) [0, 1] ([bC 0 1 k c, bS 1 12 k (rowsN R)])) (.fork (decide (128 ≤ (↑k : Int))) (.stop (.leaf (.tuple [.int .i64 (7 : Int), .gsl 0 0, .gsl 1 0])) [0, 1] ([bC 0 1 k c, bS 1 12 k (rowsN R)])) (.left (decide (m.k = m.k)) (.left (decide (m.f = m.f)) (.left (decide (m.t = m.t)) (.left (decide (m.v0 = m.v0)) (.left (decide (m.v1 = m.v1)) (.left (decide (m.v2 = m.v2)) (.left (decide (m.v3 = m.v3)) (.left (decide (m.v4 = m.v4)) (.left (decide (m.v5 = m.v5)) (.left (@decide (14 = 14 ∧ q = q ∧ (fun i => (E i).row) = fun i => (E i).row) pd) (.left (decide (m.n = m.n)) (.left (decide (m.a = m.a)) (.left (decide (m.k = m.k)) (.left (decide (m.f = m.f)) (.left (decide (m.t = m.t)) (.left (decide (m.v0 = m.v0)) (.left (decide (m.v1 = m.v1)) (.left (decide (m.v2 = m.v2)) (.left (decide (m.v3 = m.v3)) (.left (decide (m.v4 = m.v4)) (.left (decide (m.v5 = m.v5)) (.left (@decide (14 = 14 ∧ q = q ∧ (fun i => (E i).row) = fun i => (E i).row) pd) (.left (decide (m.n = m.n)) (.left (decide (m.a = m.a)) (.left (decide (k = k)) (.left (@decide (1 < 65536 ∧ RowsOK 12 1 fun i => List.take 12 (List.drop (i * 12) (m.row (.data 14 q fun i => (E i).row)))) pd) (.left (decide (k ≤ k ∧ k < 65536)) (.stop (.leaf (.tuple [.int .i64 (0 : Int), .gsl 0 0, .gsl 1 0])) [0, 1, 4] ([bC 0 4 (k + 1) c, (some Blk.dead, none), bS 4 12 (k + 1) (glue k (rowsN R) fun i => List.take 12 (List.drop (i * 12) (m.row (.data 14 q fun i => (E i).row))))]))))))))))))))))))))))))))))))) (.fork (decide (m.t - 1 = 2)) (.fork (c 8) (.stop (.leaf (.tuple [.int .i64 (0 : Int), .gsl 0 0, .gsl 1 0])) [0, 1] ([bC 0 1 k c, bS 1 12 k (rowsN R)])) (.fork (decide (128 ≤ (↑k : Int))) (.stop (.leaf (.tuple [.int .i64 (7 : Int), .gsl 0 0, .gsl 1 0])) [0, 1] ([bC 0 1 k c, bS 1 12 k (rowsN R)])) (.left (decide (m.k = m.k)) (.left (decide (m.f = m.f)) (.left (decide (m.t = m.t)) (.left (decide (m.v0 = m.v0)) (.left (decide (m.v1 = m.v1)) (.left (decide (m.v2 = m.v2)) (.left (decide (m.v3 = m.v3)) (.left (decide (m.v4 = m.v4)) (.left (decide (m.v5 = m.v5)) (.left (@decide (14 = 14 ∧ q = q ∧ (fun i => (E i).row) = fun i => (E i).row) pd) (.left (decide (m.n = m.n)) (.left (decide (m.a = m.a)) (.left (decide (m.k = m.k)) (.left (decide (m.f = m.f)) (.left (decide (m.t = m.t)) (.left (decide (m.v0 = m.v0)) (.left (decide (m.v1 = m.v1)) (.left (decide (m.v2 = m.v2)) (.left (decide (m.v3 = m.v3)) (.left (decide (m.v4 = m.v4)) (.left (decide (m.v5 = m.v5)) (.left (@decide (14 = 14 ∧ q = q ∧ (fun i => (E i).row) = fun i => (E i).row) pd) (.left (decide (m.n = m.n)) (.left (decide (m.a = m.a)) (.left (decide (k = k)) (.left (@decide (1 < 65536 ∧ RowsOK 12 1 fun i => List.take 12 (List.drop (i * 12) (m.row (.data 14 q fun i => (E i).row)))) pd) (.left (decide (k ≤ k ∧ k < 65536)) (.stop (.leaf (.tuple [.int .i64 (0 : Int), .gsl 0 0, .gsl 1 0])) [0, 1, 4] ([bC 0 4 (k + 1) c, (some Blk.dead, none), bS 4 12 (k + 1) (glue k (rowsN R) fun i => List.take 12 (List.drop (i * 12) (m.row (.data 14 q fun i => (E i).row))))]))))))))))))))))))))))))))))))) (.right (decide (m.t - 1 = 1)) (.left (decide (m.t - 1 = 0)) (.fork (c 6) (.stop (.leaf (.tuple [.int .i64 (0 : Int), .gsl 0 0, .gsl 1 0])) [0, 1] ([bC 0 1 k c, bS 1 12 k (rowsN R)])) (.fork (decide (128 ≤ (↑k : Int))) (.stop (.leaf (.tuple [.int .i64 (7 : Int), .gsl 0 0, .gsl 1 0])) [0, 1] ([bC 0 1 k c, bS 1 12 k (rowsN R)])) (.left (decide (m.k = m.k)) (.left (decide (m.f = m.f)) (.left (decide (m.t = m.t)) (.left (decide (m.v0 = m.v0)) (.left (decide (m.v1 = m.v1)) (.left (decide (m.v2 = m.v2)) (.left (decide (m.v3 = m.v3)) (.left (decide (m.v4 = m.v4)) (.left (decide (m.v5 = m.v5)) (.left (@decide (14 = 14 ∧ q = q ∧ (fun i => (E i).row) = fun i => (E i).row) pd) (.left (decide (m.n = m.n)) (.left (decide (m.a = m.a)) (.left (decide (m.k = m.k)) (.left (decide (m.f = m.f)) (.left (decide (m.t = m.t)) (.left (decide (m.v0 = m.v0)) (.left (decide (m.v1 = m.v1)) (.left (decide (m.v2 = m.v2)) (.left (decide (m.v3 = m.v3)) (.left (decide (m.v4 = m.v4)) (.left (decide (m.v5 = m.v5)) (.left (@decide (14 = 14 ∧ q = q ∧ (fun i => (E i).row) = fun i => (E i).row) pd) (.left (decide (m.n = m.n)) (.left (decide (m.a = m.a)) (.left (decide (k = k)) (.left (@decide (1 < 65536 ∧ RowsOK 12 1 fun i => List.take 12 (List.drop (i * 12) (m.row (.data 14 q fun i => (E i).row)))) pd) (.left (decide (k ≤ k ∧ k < 65536)) (.stop (.leaf (.tuple [.int .i64 (0 : Int), .gsl 0 0, .gsl 1 0])) [0, 1, 4] ([bC 0 4 (k + 1) c, (some Blk.dead, none), bS 4 12 (k + 1) (glue k (rowsN R) fun i => List.take 12 (List.drop (i * 12) (m.row (.data 14 q fun i => (E i).row))))]))))))))))))))))))))))))))))))))))))) (.left (decide (m.f - 1 = 0)) (.fork (decide (m.t - 1 = 5)) (.fork (c 5) (.stop (.leaf (.tuple [.int .i64 (0 : Int), .gsl 0 0, .gsl 1 0])) [0, 1] ([bC 0 1 k c, bS 1 12 k (rowsN R)])) (.fork (decide (128 ≤ (↑k : Int))) (.stop (.leaf (.tuple [.int .i64 (7 : Int), .gsl 0 0, .gsl 1 0])) [0, 1] ([bC 0 1 k c, bS 1 12 k (rowsN R)])) (.left (decide (m.k = m.k)) (.left (decide (m.f = m.f)) (.left (decide (m.t = m.t)) (.left (decide (m.v0 = m.v0)) (.left (decide (m.v1 = m.v1)) (.left (decide (m.v2 = m.v2)) (.left (decide (m.v3 = m.v3)) (.left (decide (m.v4 = m.v4)) (.left (decide (m.v5 = m.v5)) (.left (@decide (14 = 14 ∧ q = q ∧ (fun i => (E i).row) = fun i => (E i).row) pd) (.left (decide (m.n = m.n)) (.left (decide (m.a = m.a)) (.left (decide (m.k = m.k)) (.left (decide (m.f = m.f)) (.left (decide (m.t = m.t)) (.left (decide (m.v0 = m.v0)) (.left (decide (m.v1 = m.v1)) (.left (decide (m.v2 = m.v2)) (.left (decide (m.v3 = m.v3)) (.left (decide (m.v4 = m.v4)) (.left (decide (m.v5 = m.v5)) (.left (@decide (14 = 14 ∧ q = q ∧ (fun i => (E i).row) = fun i => (E i).row) pd) (.left (decide (m.n = m.n)) (.left (decide (m.a = m.a)) (.left (decide (k = k)) (.left (@decide (1 < 65536 ∧ RowsOK 12 1 fun i => List.take 12 (List.drop (i * 12) (m.row (.data 14 q fun i => (E i).row)))) pd) (.left (decide (k ≤ k ∧ k < 65536)) (.stop (.leaf (.tuple [.int .i64 (0 : Int), .gsl 0 0, .gsl 1 0])) [0, 1, 4] ([bC 0 4 (k + 1) c, (some Blk.dead, none), bS 4 12 (k + 1) (glue k (rowsN R) fun i => List.take 12 (List.drop (i * 12) (m.row (.data 14 q fun i => (E i).row))))]))))))))))))))))))))))))))))))) (.fork (decide (m.t - 1 = 4)) (.fork (c 4) (.stop (.leaf (.tuple [.int .i64 (0 : Int), .gsl 0 0, .gsl 1 0])) [0, 1] ([bC 0 1 k c, bS 1 12 k (rowsN R)])) (.fork (decide (128 ≤ (↑k : Int))) (.stop (.leaf (.tuple [.int .i64 (7 : Int), .gsl 0 0, .gsl 1 0])) [0, 1] ([bC 0 1 k c, bS 1 12 k (rowsN R)])) (.left (decide (m.k = m.k)) (.left (decide (m.f = m.f)) (.left (decide (m.t = m.t)) (.left (decide (m.v0 = m.v0)) (.left (decide (m.v1 = m.v1)) (.left (decide (m.v2 = m.v2)) (.left (decide (m.v3 = m.v3)) (.left (decide (m.v4 = m.v4)) (.left (decide (m.v5 = m.v5)) (.left (@decide (14 = 14 ∧ q = q ∧ (fun i => (E i).row) = fun i => (E i).row) pd) (.left (decide (m.n = m.n)) (.left (decide (m.a = m.a)) (.left (decide (m.k = m.k)) (.left (decide (m.f = m.f)) (.left (decide (m.t = m.t)) (.left (decide (m.v0 = m.v0)) (.left (decide (m.v1 = m.v1)) (.left (decide (m.v2 = m.v2)) (.left (decide (m.v3 = m.v3)) (.left (decide (m.v4 = m.v4)) (.left (decide (m.v5 = m.v5)) (.left (@decide (14 = 14 ∧ q = q ∧ (fun i => (E i).row) = fun i => (E i).row) pd) (.left (decide (m.n = m.n)) (.left (decide (m.a = m.a)) (.left (decide (k = k)) (.left (@decide (1 < 65536 ∧ RowsOK 12 1 fun i => List.take 12 (List.drop (i * 12) (m.row (.data 14 q fun i => (E i).row)))) pd) (.left (decide (k ≤ k ∧ k < 65536)) (.stop (.leaf (.tuple [.int .i64 (0 : Int), .gsl 0 0, .gsl 1 0])) [0, 1, 4] ([bC 0 4 (k + 1) c, (some Blk.dead, none), bS 4 12 (k + 1) (glue k (rowsN R) fun i => List.take 12 (List.drop (i * 12) (m.row (.data 14 q fun i => (E i).row))))]))))))))))))))))))))))))))))))) (.fork (decide (m.t - 1 = 3)) (.fork (c 3) (.stop (.leaf (.tuple [.int .i64 (0 : Int), .gsl 0 0, .gsl 1 0])) [0, 1] ([bC 0 1 k c, bS 1 12 k (rowsN R)])) (.fork (decide (128 ≤ (↑k : Int))) (.stop (.leaf (.tuple [.int .i64 (7 : Int), .gsl 0 0, .gsl 1 0])) [0, 1] ([bC 0 1 k c, bS 1 12 k (rowsN R)])) (.left (decide (m.k = m.k)) (.left (decide (m.f = m.f)) (.left (decide (m.t = m.t)) (.left (decide (m.v0 = m.v0)) (.left (decide (m.v1 = m.v1)) (.left (decide (m.v2 = m.v2)) (.left (decide (m.v3 = m.v3)) (.left (decide (m.v4 = m.v4)) (.left (decide (m.v5 = m.v5)) (.left (@decide (14 = 14 ∧ q = q ∧ (fun i => (E i).row) = fun i => (E i).row) pd) (.left (decide (m.n = m.n)) (.left (decide (m.a = m.a)) (.left (decide (m.k = m.k)) (.left (decide (m.f = m.f)) (.left (decide (m.t = m.t)) (.left (decide (m.v0 = m.v0)) (.left (decide (m.v1 = m.v1)) (.left (decide (m.v2 = m.v2)) (.left (decide (m.v3 = m.v3)) (.left (decide (m.v4 = m.v4)) (.left (decide (m.v5 = m.v5)) (.left (@decide (14 = 14 ∧ q = q ∧ (fun i => (E i).row) = fun i => (E i).row) pd) (.left (decide (m.n = m.n)) (.left (decide (m.a = m.a)) (.left (decide (k = k)) (.left (@decide (1 < 65536 ∧ RowsOK 12 1 fun i => List.take 12 (List.drop (i * 12) (m.row (.data 14 q fun i => (E i).row)))) pd) (.left (decide (k ≤ k ∧ k < 65536)) (.stop (.leaf (.tuple [.int .i64 (0 : Int), .gsl 0 0, .gsl 1 0])) [0, 1, 4] ([bC 0 4 (k + 1) c, (some Blk.dead, none), bS 4 12 (k + 1) (glue k (rowsN R) fun i => List.take 12 (List.drop (i * 12) (m.row (.data 14 q fun i => (E i).row))))]))))))))))))))))))))))))))))))) (.fork (decide (m.t - 1 = 2)) (.fork (c 2) (.stop (.leaf (.tuple [.int .i64 (0 : Int), .gsl 0 0, .gsl 1 0])) [0, 1] ([bC 0 1 k c, bS 1 12 k (rowsN R)])) (.fork (decide (128 ≤ (↑k : Int))) (.stop (.leaf (.tuple [.int .i64 (7 : Int), .gsl 0 0, .gsl 1 0])) [0, 1] ([bC 0 1 k c, bS 1 12 k (rowsN R)])) (.left (decide (m.k = m.k)) (.left (decide (m.f = m.f)) (.left (decide (m.t = m.t)) (.left (decide (m.v0 = m.v0)) (.left (decide (m.v1 = m.v1)) (.left (decide (m.v2 = m.v2)) (.left (decide (m.v3 = m.v3)) (.left (decide (m.v4 = m.v4)) (.left (decide (m.v5 = m.v5)) (.left (@decide (14 = 14 ∧ q = q ∧ (fun i => (E i).row) = fun i => (E i).row) pd) (.left (decide (m.n = m.n)) (.left (decide (m.a = m.a)) (.left (decide (m.k = m.k)) (.left (decide (m.f = m.f)) (.left (decide (m.t = m.t)) (.left (decide (m.v0 = m.v0)) (.left (decide (m.v1 = m.v1)) (.left (decide (m.v2 = m.v2)) (.left (decide (m.v3 = m.v3)) (.left (decide (m.v4 = m.v4)) (.left (decide (m.v5 = m.v5)) (.left (@decide (14 = 14 ∧ q = q ∧ (fun i => (E i).row) = fun i => (E i).row) pd) (.left (decide (m.n = m.n)) (.left (decide (m.a = m.a)) (.left (decide (k = k)) (.left (@decide (1 < 65536 ∧ RowsOK 12 1 fun i => List.take 12 (List.drop (i * 12) (m.row (.data 14 q fun i => (E i).row)))) pd) (.left (decide (k ≤ k ∧ k < 65536)) (.stop (.leaf (.tuple [.int .i64 (0 : Int), .gsl 0 0, .gsl 1 0])) [0, 1, 4] ([bC 0 4 (k + 1) c, (some Blk.dead, none), bS 4 12 (k + 1) (glue k (rowsN R) fun i => List.take 12 (List.drop (i * 12) (m.row (.data 14 q fun i => (E i).row))))]))))))))))))))))))))))))))))))) (.left (decide (m.t - 1 = 1)) (.fork (c 1) (.stop (.leaf (.tuple [.int .i64 (0 : Int), .gsl 0 0, .gsl 1 0])) [0, 1] ([bC 0 1 k c, bS 1 12 k (rowsN R)])) (.fork (decide (128 ≤ (↑k : Int))) (.stop (.leaf (.tuple [.int .i64 (7 : Int), .gsl 0 0, .gsl 1 0])) [0, 1] ([bC 0 1 k c, bS 1 12 k (rowsN R)])) (.left (decide (m.k = m.k)) (.left (decide (m.f = m.f)) (.left (decide (m.t = m.t)) (.left (decide (m.v0 = m.v0)) (.left (decide (m.v1 = m.v1)) (.left (decide (m.v2 = m.v2)) (.left (decide (m.v3 = m.v3)) (.left (decide (m.v4 = m.v4)) (.left (decide (m.v5 = m.v5)) (.left (@decide (14 = 14 ∧ q = q ∧ (fun i => (E i).row) = fun i => (E i).row) pd) (.left (decide (m.n = m.n)) (.left (decide (m.a = m.a)) (.left (decide (m.k = m.k)) (.left (decide (m.f = m.f)) (.left (decide (m.t = m.t)) (.left (decide (m.v0 = m.v0)) (.left (decide (m.v1 = m.v1)) (.left (decide (m.v2 = m.v2)) (.left (decide (m.v3 = m.v3)) (.left (decide (m.v4 = m.v4)) (.left (decide (m.v5 = m.v5)) (.left (@decide (14 = 14 ∧ q = q ∧ (fun i => (E i).row) = fun i => (E i).row) pd) (.left (decide (m.n = m.n)) (.left (decide (m.a = m.a)) (.left (decide (k = k)) (.left (@decide (1 < 65536 ∧ RowsOK 12 1 fun i => List.take 12 (List.drop (i * 12) (m.row (.data 14 q fun i => (E i).row)))) pd) (.left (decide (k ≤ k ∧ k < 65536)) (.stop (.leaf (.tuple [.int .i64 (0 : Int), .gsl 0 0, .gsl 1 0])) [0, 1, 4] ([bC 0 4 (k + 1) c, (some Blk.dead, none), bS 4 12 (k + 1) (glue k (rowsN R) fun i => List.take 12 (List.drop (i * 12) (m.row (.data 14 q fun i => (E i).row))))])))))))))))))))))))))))))))))))))))))))))))) (by kernel_rfl) ?_
   iterate 2 refine hl (bc fun h1 => by omega) ?_
   refine hold_forkD (fun h1 => ?_) (fun h1 => ?_)
   ·
    refine hzr (fun h2 => by omega) ?_
    refine hold_forkD (fun h2 => ?_) (fun h2 => ?_)
    ·
     refine hold_fork (fun h3 => ?_) (fun h3 => ?_)
     ·
      exact hold_stop fun hd hb => leaf_same hd (by simp [fitA, nf]) (look_cons hb).1 (fitsA_self _ rfl) (look_cons (look_cons hb).2.2).2.1 (by decide) (.inr (.inl ⟨my, at_c (by assumption) (by unfold at_; omega), rfl, rfl⟩))
     refine hold_forkD (fun h4 => ?_) (fun h4 => ?_)
     ·
      exact hold_stop fun hd hb => leaf_same hd (by simp [fitA, nf]) (look_cons hb).1 (fitsA_self _ rfl) (look_cons (look_cons hb).2.2).2.1 (by decide) (.inr (.inr (.inl ⟨my, at_c (by assumption) (by unfold at_; omega), by omega, rfl, rfl⟩)))
     iterate 9 refine hl (bc fun h5 => by omega) ?_
     refine hl (bc fun h5 => by exact h5 ⟨rfl, rfl, rfl⟩) ?_
     iterate 11 refine hl (bc fun h5 => by omega) ?_
     refine hl (bc fun h5 => by exact h5 ⟨rfl, rfl, rfl⟩) ?_
     iterate 3 refine hl (bc fun h5 => by omega) ?_
     refine hl (bc fun h5 => by exact h5 ⟨by omega, fun i hi => (by obtain rfl : i = 0 := (by omega); exact ⟨rfl, rfl⟩)⟩) ?_
     refine hl (bc fun h5 => by omega) ?_
     exact hold_stop fun hd hb => leaf_new (J := 4) hd (by simp [fitA, nf]) (look_cons hb).1 (by simp [fitA]) (look_cons (look_cons (look_cons hb).2.2).2.2).2.1 (Nat.le_refl _) (put_glue rfl) (by decide) (.inr (.inr (.inr ⟨my, at_c (by assumption) (by unfold at_; omega), by omega, rfl, rfl⟩)))
    refine hold_forkD (fun h3 => ?_) (fun h3 => ?_)
    ·
     refine hold_fork (fun h4 => ?_) (fun h4 => ?_)
     ·
      exact hold_stop fun hd hb => leaf_same hd (by simp [fitA, nf]) (look_cons hb).1 (fitsA_self _ rfl) (look_cons (look_cons hb).2.2).2.1 (by decide) (.inr (.inl ⟨my, at_c (by assumption) (by unfold at_; omega), rfl, rfl⟩))
     refine hold_forkD (fun h5 => ?_) (fun h5 => ?_)
     ·
      exact hold_stop fun hd hb => leaf_same hd (by simp [fitA, nf]) (look_cons hb).1 (fitsA_self _ rfl) (look_cons (look_cons hb).2.2).2.1 (by decide) (.inr (.inr (.inl ⟨my, at_c (by assumption) (by unfold at_; omega), by omega, rfl, rfl⟩)))
     iterate 9 refine hl (bc fun h6 => by omega) ?_
     refine hl (bc fun h6 => by exact h6 ⟨rfl, rfl, rfl⟩) ?_
     iterate 11 refine hl (bc fun h6 => by omega) ?_
     refine hl (bc fun h6 => by exact h6 ⟨rfl, rfl, rfl⟩) ?_
     iterate 3 refine hl (bc fun h6 => by omega) ?_
     refine hl (bc fun h6 => by exact h6 ⟨by omega, fun i hi => (by obtain rfl : i = 0 := (by omega); exact ⟨rfl, rfl⟩)⟩) ?_
     refine hl (bc fun h6 => by omega) ?_
     exact hold_stop fun hd hb => leaf_new (J := 4) hd (by simp [fitA, nf]) (look_cons hb).1 (by simp [fitA]) (look_cons (look_cons (look_cons hb).2.2).2.2).2.1 (Nat.le_refl _) (put_glue rfl) (by decide) (.inr (.inr (.inr ⟨my, at_c (by assumption) (by unfold at_; omega), by omega, rfl, rfl⟩)))
    refine hold_forkD (fun h4 => ?_) (fun h4 => ?_)
    ·
     refine hold_fork (fun h5 => ?_) (fun h5 => ?_)
     ·
      exact hold_stop fun hd hb => leaf_same hd (by simp [fitA, nf]) (look_cons hb).1 (fitsA_self _ rfl) (look_cons (look_cons hb).2.2).2.1 (by decide) (.inr (.inl ⟨my, at_c (by assumption) (by unfold at_; omega), rfl, rfl⟩))
     refine hold_forkD (fun h6 => ?_) (fun h6 => ?_)
     ·
      exact hold_stop fun hd hb => leaf_same hd (by simp [fitA, nf]) (look_cons hb).1 (fitsA_self _ rfl) (look_cons (look_cons hb).2.2).2.1 (by decide) (.inr (.inr (.inl ⟨my, at_c (by assumption) (by unfold at_; omega), by omega, rfl, rfl⟩)))
     iterate 9 refine hl (bc fun h7 => by omega) ?_
     refine hl (bc fun h7 => by exact h7 ⟨rfl, rfl, rfl⟩) ?_
     iterate 11 refine hl (bc fun h7 => by omega) ?_
     refine hl (bc fun h7 => by exact h7 ⟨rfl, rfl, rfl⟩) ?_
     iterate 3 refine hl (bc fun h7 => by omega) ?_
     refine hl (bc fun h7 => by exact h7 ⟨by omega, fun i hi => (by obtain rfl : i = 0 := (by omega); exact ⟨rfl, rfl⟩)⟩) ?_
     refine hl (bc fun h7 => by omega) ?_
     exact hold_stop fun hd hb => leaf_new (J := 4) hd (by simp [fitA, nf]) (look_cons hb).1 (by simp [fitA]) (look_cons (look_cons (look_cons hb).2.2).2.2).2.1 (Nat.le_refl _) (put_glue rfl) (by decide) (.inr (.inr (.inr ⟨my, at_c (by assumption) (by unfold at_; omega), by omega, rfl, rfl⟩)))
    refine hold_forkD (fun h5 => ?_) (fun h5 => ?_)
    ·
     refine hold_fork (fun h6 => ?_) (fun h6 => ?_)
     ·
      exact hold_stop fun hd hb => leaf_same hd (by simp [fitA, nf]) (look_cons hb).1 (fitsA_self _ rfl) (look_cons (look_cons hb).2.2).2.1 (by decide) (.inr (.inl ⟨my, at_c (by assumption) (by unfold at_; omega), rfl, rfl⟩))
     refine hold_forkD (fun h7 => ?_) (fun h7 => ?_)
     ·
      exact hold_stop fun hd hb => leaf_same hd (by simp [fitA, nf]) (look_cons hb).1 (fitsA_self _ rfl) (look_cons (look_cons hb).2.2).2.1 (by decide) (.inr (.inr (.inl ⟨my, at_c (by assumption) (by unfold at_; omega), by omega, rfl, rfl⟩)))
     iterate 9 refine hl (bc fun h8 => by omega) ?_
     refine hl (bc fun h8 => by exact h8 ⟨rfl, rfl, rfl⟩) ?_
     iterate 11 refine hl (bc fun h8 => by omega) ?_
     refine hl (bc fun h8 => by exact h8 ⟨rfl, rfl, rfl⟩) ?_
     iterate 3 refine hl (bc fun h8 => by omega) ?_
     refine hl (bc fun h8 => by exact h8 ⟨by omega, fun i hi => (by obtain rfl : i = 0 := (by omega); exact ⟨rfl, rfl⟩)⟩) ?_
     refine hl (bc fun h8 => by omega) ?_
     exact hold_stop fun hd hb => leaf_new (J := 4) hd (by simp [fitA, nf]) (look_cons hb).1 (by simp [fitA]) (look_cons (look_cons (look_cons hb).2.2).2.2).2.1 (Nat.le_refl _) (put_glue rfl) (by decide) (.inr (.inr (.inr ⟨my, at_c (by assumption) (by unfold at_; omega), by omega, rfl, rfl⟩)))
    refine hl (bc fun h6 => by omega) ?_
    refine hold_fork (fun h6 => ?_) (fun h6 => ?_)
    ·
     exact hold_stop fun hd hb => leaf_same hd (by simp [fitA, nf]) (look_cons hb).1 (fitsA_self _ rfl) (look_cons (look_cons hb).2.2).2.1 (by decide) (.inr (.inl ⟨my, at_c (by assumption) (by unfold at_; omega), rfl, rfl⟩))
    refine hold_forkD (fun h7 => ?_) (fun h7 => ?_)
    ·
     exact hold_stop fun hd hb => leaf_same hd (by simp [fitA, nf]) (look_cons hb).1 (fitsA_self _ rfl) (look_cons (look_cons hb).2.2).2.1 (by decide) (.inr (.inr (.inl ⟨my, at_c (by assumption) (by unfold at_; omega), by omega, rfl, rfl⟩)))
    iterate 9 refine hl (bc fun h8 => by omega) ?_
    refine hl (bc fun h8 => by exact h8 ⟨rfl, rfl, rfl⟩) ?_
    iterate 11 refine hl (bc fun h8 => by omega) ?_
    refine hl (bc fun h8 => by exact h8 ⟨rfl, rfl, rfl⟩) ?_
    iterate 3 refine hl (bc fun h8 => by omega) ?_
    refine hl (bc fun h8 => by exact h8 ⟨by omega, fun i hi => (by obtain rfl : i = 0 := (by omega); exact ⟨rfl, rfl⟩)⟩) ?_
    refine hl (bc fun h8 => by omega) ?_
    exact hold_stop fun hd hb => leaf_new (J := 4) hd (by simp [fitA, nf]) (look_cons hb).1 (by simp [fitA]) (look_cons (look_cons (look_cons hb).2.2).2.2).2.1 (Nat.le_refl _) (put_glue rfl) (by decide) (.inr (.inr (.inr ⟨my, at_c (by assumption) (by unfold at_; omega), by omega, rfl, rfl⟩)))
   refine hold_forkD (fun h2 => ?_) (fun h2 => ?_)
   ·
    refine hold_forkD (fun h3 => ?_) (fun h3 => ?_)
    ·
     refine hold_fork (fun h4 => ?_) (fun h4 => ?_)
     ·
      exact hold_stop fun hd hb => leaf_same hd (by simp [fitA, nf]) (look_cons hb).1 (fitsA_self _ rfl) (look_cons (look_cons hb).2.2).2.1 (by decide) (.inr (.inl ⟨my, at_c (by assumption) (by unfold at_; omega), rfl, rfl⟩))
     refine hold_forkD (fun h5 => ?_) (fun h5 => ?_)
     ·
      exact hold_stop fun hd hb => leaf_same hd (by simp [fitA, nf]) (look_cons hb).1 (fitsA_self _ rfl) (look_cons (look_cons hb).2.2).2.1 (by decide) (.inr (.inr (.inl ⟨my, at_c (by assumption) (by unfold at_; omega), by omega, rfl, rfl⟩)))
     iterate 9 refine hl (bc fun h6 => by omega) ?_
     refine hl (bc fun h6 => by exact h6 ⟨rfl, rfl, rfl⟩) ?_
     iterate 11 refine hl (bc fun h6 => by omega) ?_
     refine hl (bc fun h6 => by exact h6 ⟨rfl, rfl, rfl⟩) ?_
     iterate 3 refine hl (bc fun h6 => by omega) ?_
     refine hl (bc fun h6 => by exact h6 ⟨by omega, fun i hi => (by obtain rfl : i = 0 := (by omega); exact ⟨rfl, rfl⟩)⟩) ?_
     refine hl (bc fun h6 => by omega) ?_
     exact hold_stop fun hd hb => leaf_new (J := 4) hd (by simp [fitA, nf]) (look_cons hb).1 (by simp [fitA]) (look_cons (look_cons (look_cons hb).2.2).2.2).2.1 (Nat.le_refl _) (put_glue rfl) (by decide) (.inr (.inr (.inr ⟨my, at_c (by assumption) (by unfold at_; omega), by omega, rfl, rfl⟩)))
    refine hzr (fun h4 => by omega) ?_
    refine hold_forkD (fun h4 => ?_) (fun h4 => ?_)
    ·
     refine hold_fork (fun h5 => ?_) (fun h5 => ?_)
     ·
      exact hold_stop fun hd hb => leaf_same hd (by simp [fitA, nf]) (look_cons hb).1 (fitsA_self _ rfl) (look_cons (look_cons hb).2.2).2.1 (by decide) (.inr (.inl ⟨my, at_c (by assumption) (by unfold at_; omega), rfl, rfl⟩))
     refine hold_forkD (fun h6 => ?_) (fun h6 => ?_)
     ·
      exact hold_stop fun hd hb => leaf_same hd (by simp [fitA, nf]) (look_cons hb).1 (fitsA_self _ rfl) (look_cons (look_cons hb).2.2).2.1 (by decide) (.inr (.inr (.inl ⟨my, at_c (by assumption) (by unfold at_; omega), by omega, rfl, rfl⟩)))
     iterate 9 refine hl (bc fun h7 => by omega) ?_
     refine hl (bc fun h7 => by exact h7 ⟨rfl, rfl, rfl⟩) ?_
     iterate 11 refine hl (bc fun h7 => by omega) ?_
     refine hl (bc fun h7 => by exact h7 ⟨rfl, rfl, rfl⟩) ?_
     iterate 3 refine hl (bc fun h7 => by omega) ?_
     refine hl (bc fun h7 => by exact h7 ⟨by omega, fun i hi => (by obtain rfl : i = 0 := (by omega); exact ⟨rfl, rfl⟩)⟩) ?_
     refine hl (bc fun h7 => by omega) ?_
     exact hold_stop fun hd hb => leaf_new (J := 4) hd (by simp [fitA, nf]) (look_cons hb).1 (by simp [fitA]) (look_cons (look_cons (look_cons hb).2.2).2.2).2.1 (Nat.le_refl _) (put_glue rfl) (by decide) (.inr (.inr (.inr ⟨my, at_c (by assumption) (by unfold at_; omega), by omega, rfl, rfl⟩)))
    refine hold_forkD (fun h5 => ?_) (fun h5 => ?_)
    ·
     refine hold_fork (fun h6 => ?_) (fun h6 => ?_)
     ·
      exact hold_stop fun hd hb => leaf_same hd (by simp [fitA, nf]) (look_cons hb).1 (fitsA_self _ rfl) (look_cons (look_cons hb).2.2).2.1 (by decide) (.inr (.inl ⟨my, at_c (by assumption) (by unfold at_; omega), rfl, rfl⟩))
     refine hold_forkD (fun h7 => ?_) (fun h7 => ?_)
     ·
      exact hold_stop fun hd hb => leaf_same hd (by simp [fitA, nf]) (look_cons hb).1 (fitsA_self _ rfl) (look_cons (look_cons hb).2.2).2.1 (by decide) (.inr (.inr (.inl ⟨my, at_c (by assumption) (by unfold at_; omega), by omega, rfl, rfl⟩)))
     iterate 9 refine hl (bc fun h8 => by omega) ?_
     refine hl (bc fun h8 => by exact h8 ⟨rfl, rfl, rfl⟩) ?_
     iterate 11 refine hl (bc fun h8 => by omega) ?_
     refine hl (bc fun h8 => by exact h8 ⟨rfl, rfl, rfl⟩) ?_
     iterate 3 refine hl (bc fun h8 => by omega) ?_
     refine hl (bc fun h8 => by exact h8 ⟨by omega, fun i hi => (by obtain rfl : i = 0 := (by omega); exact ⟨rfl, rfl⟩)⟩) ?_
     refine hl (bc fun h8 => by omega) ?_
     exact hold_stop fun hd hb => leaf_new (J := 4) hd (by simp [fitA, nf]) (look_cons hb).1 (by simp [fitA]) (look_cons (look_cons (look_cons hb).2.2).2.2).2.1 (Nat.le_refl _) (put_glue rfl) (by decide) (.inr (.inr (.inr ⟨my, at_c (by assumption) (by unfold at_; omega), by omega, rfl, rfl⟩)))
    refine hold_forkD (fun h6 => ?_) (fun h6 => ?_)
    ·
     refine hold_fork (fun h7 => ?_) (fun h7 => ?_)
     ·
      exact hold_stop fun hd hb => leaf_same hd (by simp [fitA, nf]) (look_cons hb).1 (fitsA_self _ rfl) (look_cons (look_cons hb).2.2).2.1 (by decide) (.inr (.inl ⟨my, at_c (by assumption) (by unfold at_; omega), rfl, rfl⟩))
     refine hold_forkD (fun h8 => ?_) (fun h8 => ?_)
     ·
      exact hold_stop fun hd hb => leaf_same hd (by simp [fitA, nf]) (look_cons hb).1 (fitsA_self _ rfl) (look_cons (look_cons hb).2.2).2.1 (by decide) (.inr (.inr (.inl ⟨my, at_c (by assumption) (by unfold at_; omega), by omega, rfl, rfl⟩)))
     iterate 9 refine hl (bc fun h9 => by omega) ?_
     refine hl (bc fun h9 => by exact h9 ⟨rfl, rfl, rfl⟩) ?_
     iterate 11 refine hl (bc fun h9 => by omega) ?_
     refine hl (bc fun h9 => by exact h9 ⟨rfl, rfl, rfl⟩) ?_
     iterate 3 refine hl (bc fun h9 => by omega) ?_
     refine hl (bc fun h9 => by exact h9 ⟨by omega, fun i hi => (by obtain rfl : i = 0 := (by omega); exact ⟨rfl, rfl⟩)⟩) ?_
     refine hl (bc fun h9 => by omega) ?_
     exact hold_stop fun hd hb => leaf_new (J := 4) hd (by simp [fitA, nf]) (look_cons hb).1 (by simp [fitA]) (look_cons (look_cons (look_cons hb).2.2).2.2).2.1 (Nat.le_refl _) (put_glue rfl) (by decide) (.inr (.inr (.inr ⟨my, at_c (by assumption) (by unfold at_; omega), by omega, rfl, rfl⟩)))
    refine hl (bc fun h7 => by omega) ?_
    refine hold_fork (fun h7 => ?_) (fun h7 => ?_)
    ·
     exact hold_stop fun hd hb => leaf_same hd (by simp [fitA, nf]) (look_cons hb).1 (fitsA_self _ rfl) (look_cons (look_cons hb).2.2).2.1 (by decide) (.inr (.inl ⟨my, at_c (by assumption) (by unfold at_; omega), rfl, rfl⟩))
    refine hold_forkD (fun h8 => ?_) (fun h8 => ?_)
    ·
     exact hold_stop fun hd hb => leaf_same hd (by simp [fitA, nf]) (look_cons hb).1 (fitsA_self _ rfl) (look_cons (look_cons hb).2.2).2.1 (by decide) (.inr (.inr (.inl ⟨my, at_c (by assumption) (by unfold at_; omega), by omega, rfl, rfl⟩)))
    iterate 9 refine hl (bc fun h9 => by omega) ?_
    refine hl (bc fun h9 => by exact h9 ⟨rfl, rfl, rfl⟩) ?_
    iterate 11 refine hl (bc fun h9 => by omega) ?_
    refine hl (bc fun h9 => by exact h9 ⟨rfl, rfl, rfl⟩) ?_
    iterate 3 refine hl (bc fun h9 => by omega) ?_
    refine hl (bc fun h9 => by exact h9 ⟨by omega, fun i hi => (by obtain rfl : i = 0 := (by omega); exact ⟨rfl, rfl⟩)⟩) ?_
    refine hl (bc fun h9 => by omega) ?_
    exact hold_stop fun hd hb => leaf_new (J := 4) hd (by simp [fitA, nf]) (look_cons hb).1 (by simp [fitA]) (look_cons (look_cons (look_cons hb).2.2).2.2).2.1 (Nat.le_refl _) (put_glue rfl) (by decide) (.inr (.inr (.inr ⟨my, at_c (by assumption) (by unfold at_; omega), by omega, rfl, rfl⟩)))
   refine hold_forkD (fun h3 => ?_) (fun h3 => ?_)
   ·
    refine hold_forkD (fun h4 => ?_) (fun h4 => ?_)
    ·
     refine hold_fork (fun h5 => ?_) (fun h5 => ?_)
     ·
      exact hold_stop fun hd hb => leaf_same hd (by simp [fitA, nf]) (look_cons hb).1 (fitsA_self _ rfl) (look_cons (look_cons hb).2.2).2.1 (by decide) (.inr (.inl ⟨my, at_c (by assumption) (by unfold at_; omega), rfl, rfl⟩))
     refine hold_forkD (fun h6 => ?_) (fun h6 => ?_)
     ·
      exact hold_stop fun hd hb => leaf_same hd (by simp [fitA, nf]) (look_cons hb).1 (fitsA_self _ rfl) (look_cons (look_cons hb).2.2).2.1 (by decide) (.inr (.inr (.inl ⟨my, at_c (by assumption) (by unfold at_; omega), by omega, rfl, rfl⟩)))
     iterate 9 refine hl (bc fun h7 => by omega) ?_
     refine hl (bc fun h7 => by exact h7 ⟨rfl, rfl, rfl⟩) ?_
     iterate 11 refine hl (bc fun h7 => by omega) ?_
     refine hl (bc fun h7 => by exact h7 ⟨rfl, rfl, rfl⟩) ?_
     iterate 3 refine hl (bc fun h7 => by omega) ?_
     refine hl (bc fun h7 => by exact h7 ⟨by omega, fun i hi => (by obtain rfl : i = 0 := (by omega); exact ⟨rfl, rfl⟩)⟩) ?_
     refine hl (bc fun h7 => by omega) ?_
     exact hold_stop fun hd hb => leaf_new (J := 4) hd (by simp [fitA, nf]) (look_cons hb).1 (by simp [fitA]) (look_cons (look_cons (look_cons hb).2.2).2.2).2.1 (Nat.le_refl _) (put_glue rfl) (by decide) (.inr (.inr (.inr ⟨my, at_c (by assumption) (by unfold at_; omega), by omega, rfl, rfl⟩)))
    refine hold_forkD (fun h5 => ?_) (fun h5 => ?_)
    ·
     refine hold_fork (fun h6 => ?_) (fun h6 => ?_)
     ·
      exact hold_stop fun hd hb => leaf_same hd (by simp [fitA, nf]) (look_cons hb).1 (fitsA_self _ rfl) (look_cons (look_cons hb).2.2).2.1 (by decide) (.inr (.inl ⟨my, at_c (by assumption) (by unfold at_; omega), rfl, rfl⟩))
     refine hold_forkD (fun h7 => ?_) (fun h7 => ?_)
     ·
      exact hold_stop fun hd hb => leaf_same hd (by simp [fitA, nf]) (look_cons hb).1 (fitsA_self _ rfl) (look_cons (look_cons hb).2.2).2.1 (by decide) (.inr (.inr (.inl ⟨my, at_c (by assumption) (by unfold at_; omega), by omega, rfl, rfl⟩)))
     iterate 9 refine hl (bc fun h8 => by omega) ?_
     refine hl (bc fun h8 => by exact h8 ⟨rfl, rfl, rfl⟩) ?_
     iterate 11 refine hl (bc fun h8 => by omega) ?_
     refine hl (bc fun h8 => by exact h8 ⟨rfl, rfl, rfl⟩) ?_
     iterate 3 refine hl (bc fun h8 => by omega) ?_
     refine hl (bc fun h8 => by exact h8 ⟨by omega, fun i hi => (by obtain rfl : i = 0 := (by omega); exact ⟨rfl, rfl⟩)⟩) ?_
     refine hl (bc fun h8 => by omega) ?_
     exact hold_stop fun hd hb => leaf_new (J := 4) hd (by simp [fitA, nf]) (look_cons hb).1 (by simp [fitA]) (look_cons (look_cons (look_cons hb).2.2).2.2).2.1 (Nat.le_refl _) (put_glue rfl) (by decide) (.inr (.inr (.inr ⟨my, at_c (by assumption) (by unfold at_; omega), by omega, rfl, rfl⟩)))
    refine hzr (fun h6 => by omega) ?_
    refine hold_forkD (fun h6 => ?_) (fun h6 => ?_)
    ·
     refine hold_fork (fun h7 => ?_) (fun h7 => ?_)
     ·
      exact hold_stop fun hd hb => leaf_same hd (by simp [fitA, nf]) (look_cons hb).1 (fitsA_self _ rfl) (look_cons (look_cons hb).2.2).2.1 (by decide) (.inr (.inl ⟨my, at_c (by assumption) (by unfold at_; omega), rfl, rfl⟩))
     refine hold_forkD (fun h8 => ?_) (fun h8 => ?_)
     ·
      exact hold_stop fun hd hb => leaf_same hd (by simp [fitA, nf]) (look_cons hb).1 (fitsA_self _ rfl) (look_cons (look_cons hb).2.2).2.1 (by decide) (.inr (.inr (.inl ⟨my, at_c (by assumption) (by unfold at_; omega), by omega, rfl, rfl⟩)))
     iterate 9 refine hl (bc fun h9 => by omega) ?_
     refine hl (bc fun h9 => by exact h9 ⟨rfl, rfl, rfl⟩) ?_
     iterate 11 refine hl (bc fun h9 => by omega) ?_
     refine hl (bc fun h9 => by exact h9 ⟨rfl, rfl, rfl⟩) ?_
     iterate 3 refine hl (bc fun h9 => by omega) ?_
     refine hl (bc fun h9 => by exact h9 ⟨by omega, fun i hi => (by obtain rfl : i = 0 := (by omega); exact ⟨rfl, rfl⟩)⟩) ?_
     refine hl (bc fun h9 => by omega) ?_
     exact hold_stop fun hd hb => leaf_new (J := 4) hd (by simp [fitA, nf]) (look_cons hb).1 (by simp [fitA]) (look_cons (look_cons (look_cons hb).2.2).2.2).2.1 (Nat.le_refl _) (put_glue rfl) (by decide) (.inr (.inr (.inr ⟨my, at_c (by assumption) (by unfold at_; omega), by omega, rfl, rfl⟩)))
    refine hold_forkD (fun h7 => ?_) (fun h7 => ?_)
    ·
     refine hold_fork (fun h8 => ?_) (fun h8 => ?_)
     ·
      exact hold_stop fun hd hb => leaf_same hd (by simp [fitA, nf]) (look_cons hb).1 (fitsA_self _ rfl) (look_cons (look_cons hb).2.2).2.1 (by decide) (.inr (.inl ⟨my, at_c (by assumption) (by unfold at_; omega), rfl, rfl⟩))
     refine hold_forkD (fun h9 => ?_) (fun h9 => ?_)
     ·
      exact hold_stop fun hd hb => leaf_same hd (by simp [fitA, nf]) (look_cons hb).1 (fitsA_self _ rfl) (look_cons (look_cons hb).2.2).2.1 (by decide) (.inr (.inr (.inl ⟨my, at_c (by assumption) (by unfold at_; omega), by omega, rfl, rfl⟩)))
     iterate 9 refine hl (bc fun h10 => by omega) ?_
     refine hl (bc fun h10 => by exact h10 ⟨rfl, rfl, rfl⟩) ?_
     iterate 11 refine hl (bc fun h10 => by omega) ?_
     refine hl (bc fun h10 => by exact h10 ⟨rfl, rfl, rfl⟩) ?_
     iterate 3 refine hl (bc fun h10 => by omega) ?_
     refine hl (bc fun h10 => by exact h10 ⟨by omega, fun i hi => (by obtain rfl : i = 0 := (by omega); exact ⟨rfl, rfl⟩)⟩) ?_
     refine hl (bc fun h10 => by omega) ?_
     exact hold_stop fun hd hb => leaf_new (J := 4) hd (by simp [fitA, nf]) (look_cons hb).1 (by simp [fitA]) (look_cons (look_cons (look_cons hb).2.2).2.2).2.1 (Nat.le_refl _) (put_glue rfl) (by decide) (.inr (.inr (.inr ⟨my, at_c (by assumption) (by unfold at_; omega), by omega, rfl, rfl⟩)))
    refine hl (bc fun h8 => by omega) ?_
    refine hold_fork (fun h8 => ?_) (fun h8 => ?_)
    ·
     exact hold_stop fun hd hb => leaf_same hd (by simp [fitA, nf]) (look_cons hb).1 (fitsA_self _ rfl) (look_cons (look_cons hb).2.2).2.1 (by decide) (.inr (.inl ⟨my, at_c (by assumption) (by unfold at_; omega), rfl, rfl⟩))
    refine hold_forkD (fun h9 => ?_) (fun h9 => ?_)
    ·
     exact hold_stop fun hd hb => leaf_same hd (by simp [fitA, nf]) (look_cons hb).1 (fitsA_self _ rfl) (look_cons (look_cons hb).2.2).2.1 (by decide) (.inr (.inr (.inl ⟨my, at_c (by assumption) (by unfold at_; omega), by omega, rfl, rfl⟩)))
    iterate 9 refine hl (bc fun h10 => by omega) ?_
    refine hl (bc fun h10 => by exact h10 ⟨rfl, rfl, rfl⟩) ?_
    iterate 11 refine hl (bc fun h10 => by omega) ?_
    refine hl (bc fun h10 => by exact h10 ⟨rfl, rfl, rfl⟩) ?_
    iterate 3 refine hl (bc fun h10 => by omega) ?_
    refine hl (bc fun h10 => by exact h10 ⟨by omega, fun i hi => (by obtain rfl : i = 0 := (by omega); exact ⟨rfl, rfl⟩)⟩) ?_
    refine hl (bc fun h10 => by omega) ?_
    exact hold_stop fun hd hb => leaf_new (J := 4) hd (by simp [fitA, nf]) (look_cons hb).1 (by simp [fitA]) (look_cons (look_cons (look_cons hb).2.2).2.2).2.1 (Nat.le_refl _) (put_glue rfl) (by decide) (.inr (.inr (.inr ⟨my, at_c (by assumption) (by unfold at_; omega), by omega, rfl, rfl⟩)))
   refine hold_forkD (fun h4 => ?_) (fun h4 => ?_)
   ·
    refine hold_forkD (fun h5 => ?_) (fun h5 => ?_)
    ·
     refine hold_fork (fun h6 => ?_) (fun h6 => ?_)
     ·
      exact hold_stop fun hd hb => leaf_same hd (by simp [fitA, nf]) (look_cons hb).1 (fitsA_self _ rfl) (look_cons (look_cons hb).2.2).2.1 (by decide) (.inr (.inl ⟨my, at_c (by assumption) (by unfold at_; omega), rfl, rfl⟩))
     refine hold_forkD (fun h7 => ?_) (fun h7 => ?_)
     ·
      exact hold_stop fun hd hb => leaf_same hd (by simp [fitA, nf]) (look_cons hb).1 (fitsA_self _ rfl) (look_cons (look_cons hb).2.2).2.1 (by decide) (.inr (.inr (.inl ⟨my, at_c (by assumption) (by unfold at_; omega), by omega, rfl, rfl⟩)))
     iterate 9 refine hl (bc fun h8 => by omega) ?_
     refine hl (bc fun h8 => by exact h8 ⟨rfl, rfl, rfl⟩) ?_
     iterate 11 refine hl (bc fun h8 => by omega) ?_
     refine hl (bc fun h8 => by exact h8 ⟨rfl, rfl, rfl⟩) ?_
     iterate 3 refine hl (bc fun h8 => by omega) ?_
     refine hl (bc fun h8 => by exact h8 ⟨by omega, fun i hi => (by obtain rfl : i = 0 := (by omega); exact ⟨rfl, rfl⟩)⟩) ?_
     refine hl (bc fun h8 => by omega) ?_
     exact hold_stop fun hd hb => leaf_new (J := 4) hd (by simp [fitA, nf]) (look_cons hb).1 (by simp [fitA]) (look_cons (look_cons (look_cons hb).2.2).2.2).2.1 (Nat.le_refl _) (put_glue rfl) (by decide) (.inr (.inr (.inr ⟨my, at_c (by assumption) (by unfold at_; omega), by omega, rfl, rfl⟩)))
    refine hold_forkD (fun h6 => ?_) (fun h6 => ?_)
    ·
     refine hold_fork (fun h7 => ?_) (fun h7 => ?_)
     ·
      exact hold_stop fun hd hb => leaf_same hd (by simp [fitA, nf]) (look_cons hb).1 (fitsA_self _ rfl) (look_cons (look_cons hb).2.2).2.1 (by decide) (.inr (.inl ⟨my, at_c (by assumption) (by unfold at_; omega), rfl, rfl⟩))
     refine hold_forkD (fun h8 => ?_) (fun h8 => ?_)
     ·
      exact hold_stop fun hd hb => leaf_same hd (by simp [fitA, nf]) (look_cons hb).1 (fitsA_self _ rfl) (look_cons (look_cons hb).2.2).2.1 (by decide) (.inr (.inr (.inl ⟨my, at_c (by assumption) (by unfold at_; omega), by omega, rfl, rfl⟩)))
     iterate 9 refine hl (bc fun h9 => by omega) ?_
     refine hl (bc fun h9 => by exact h9 ⟨rfl, rfl, rfl⟩) ?_
     iterate 11 refine hl (bc fun h9 => by omega) ?_
     refine hl (bc fun h9 => by exact h9 ⟨rfl, rfl, rfl⟩) ?_
     iterate 3 refine hl (bc fun h9 => by omega) ?_
     refine hl (bc fun h9 => by exact h9 ⟨by omega, fun i hi => (by obtain rfl : i = 0 := (by omega); exact ⟨rfl, rfl⟩)⟩) ?_
     refine hl (bc fun h9 => by omega) ?_
     exact hold_stop fun hd hb => leaf_new (J := 4) hd (by simp [fitA, nf]) (look_cons hb).1 (by simp [fitA]) (look_cons (look_cons (look_cons hb).2.2).2.2).2.1 (Nat.le_refl _) (put_glue rfl) (by decide) (.inr (.inr (.inr ⟨my, at_c (by assumption) (by unfold at_; omega), by omega, rfl, rfl⟩)))
    refine hold_forkD (fun h7 => ?_) (fun h7 => ?_)
    ·
     refine hold_fork (fun h8 => ?_) (fun h8 => ?_)
     ·
      exact hold_stop fun hd hb => leaf_same hd (by simp [fitA, nf]) (look_cons hb).1 (fitsA_self _ rfl) (look_cons (look_cons hb).2.2).2.1 (by decide) (.inr (.inl ⟨my, at_c (by assumption) (by unfold at_; omega), rfl, rfl⟩))
     refine hold_forkD (fun h9 => ?_) (fun h9 => ?_)
     ·
      exact hold_stop fun hd hb => leaf_same hd (by simp [fitA, nf]) (look_cons hb).1 (fitsA_self _ rfl) (look_cons (look_cons hb).2.2).2.1 (by decide) (.inr (.inr (.inl ⟨my, at_c (by assumption) (by unfold at_; omega), by omega, rfl, rfl⟩)))
     iterate 9 refine hl (bc fun h10 => by omega) ?_
     refine hl (bc fun h10 => by exact h10 ⟨rfl, rfl, rfl⟩) ?_
     iterate 11 refine hl (bc fun h10 => by omega) ?_
     refine hl (bc fun h10 => by exact h10 ⟨rfl, rfl, rfl⟩) ?_
     iterate 3 refine hl (bc fun h10 => by omega) ?_
     refine hl (bc fun h10 => by exact h10 ⟨by omega, fun i hi => (by obtain rfl : i = 0 := (by omega); exact ⟨rfl, rfl⟩)⟩) ?_
     refine hl (bc fun h10 => by omega) ?_
     exact hold_stop fun hd hb => leaf_new (J := 4) hd (by simp [fitA, nf]) (look_cons hb).1 (by simp [fitA]) (look_cons (look_cons (look_cons hb).2.2).2.2).2.1 (Nat.le_refl _) (put_glue rfl) (by decide) (.inr (.inr (.inr ⟨my, at_c (by assumption) (by unfold at_; omega), by omega, rfl, rfl⟩)))
    refine hzr (fun h8 => by omega) ?_
    refine hold_forkD (fun h8 => ?_) (fun h8 => ?_)
    ·
     refine hold_fork (fun h9 => ?_) (fun h9 => ?_)
     ·
      exact hold_stop fun hd hb => leaf_same hd (by simp [fitA, nf]) (look_cons hb).1 (fitsA_self _ rfl) (look_cons (look_cons hb).2.2).2.1 (by decide) (.inr (.inl ⟨my, at_c (by assumption) (by unfold at_; omega), rfl, rfl⟩))
     refine hold_forkD (fun h10 => ?_) (fun h10 => ?_)
     ·
      exact hold_stop fun hd hb => leaf_same hd (by simp [fitA, nf]) (look_cons hb).1 (fitsA_self _ rfl) (look_cons (look_cons hb).2.2).2.1 (by decide) (.inr (.inr (.inl ⟨my, at_c (by assumption) (by unfold at_; omega), by omega, rfl, rfl⟩)))
     iterate 9 refine hl (bc fun h11 => by omega) ?_
     refine hl (bc fun h11 => by exact h11 ⟨rfl, rfl, rfl⟩) ?_
     iterate 11 refine hl (bc fun h11 => by omega) ?_
     refine hl (bc fun h11 => by exact h11 ⟨rfl, rfl, rfl⟩) ?_
     iterate 3 refine hl (bc fun h11 => by omega) ?_
     refine hl (bc fun h11 => by exact h11 ⟨by omega, fun i hi => (by obtain rfl : i = 0 := (by omega); exact ⟨rfl, rfl⟩)⟩) ?_
     refine hl (bc fun h11 => by omega) ?_
     exact hold_stop fun hd hb => leaf_new (J := 4) hd (by simp [fitA, nf]) (look_cons hb).1 (by simp [fitA]) (look_cons (look_cons (look_cons hb).2.2).2.2).2.1 (Nat.le_refl _) (put_glue rfl) (by decide) (.inr (.inr (.inr ⟨my, at_c (by assumption) (by unfold at_; omega), by omega, rfl, rfl⟩)))
    refine hl (bc fun h9 => by omega) ?_
    refine hold_fork (fun h9 => ?_) (fun h9 => ?_)
    ·
     exact hold_stop fun hd hb => leaf_same hd (by simp [fitA, nf]) (look_cons hb).1 (fitsA_self _ rfl) (look_cons (look_cons hb).2.2).2.1 (by decide) (.inr (.inl ⟨my, at_c (by assumption) (by unfold at_; omega), rfl, rfl⟩))
    refine hold_forkD (fun h10 => ?_) (fun h10 => ?_)
    ·
     exact hold_stop fun hd hb => leaf_same hd (by simp [fitA, nf]) (look_cons hb).1 (fitsA_self _ rfl) (look_cons (look_cons hb).2.2).2.1 (by decide) (.inr (.inr (.inl ⟨my, at_c (by assumption) (by unfold at_; omega), by omega, rfl, rfl⟩)))
    iterate 9 refine hl (bc fun h11 => by omega) ?_
    refine hl (bc fun h11 => by exact h11 ⟨rfl, rfl, rfl⟩) ?_
    iterate 11 refine hl (bc fun h11 => by omega) ?_
    refine hl (bc fun h11 => by exact h11 ⟨rfl, rfl, rfl⟩) ?_
    iterate 3 refine hl (bc fun h11 => by omega) ?_
    refine hl (bc fun h11 => by exact h11 ⟨by omega, fun i hi => (by obtain rfl : i = 0 := (by omega); exact ⟨rfl, rfl⟩)⟩) ?_
    refine hl (bc fun h11 => by omega) ?_
    exact hold_stop fun hd hb => leaf_new (J := 4) hd (by simp [fitA, nf]) (look_cons hb).1 (by simp [fitA]) (look_cons (look_cons (look_cons hb).2.2).2.2).2.1 (Nat.le_refl _) (put_glue rfl) (by decide) (.inr (.inr (.inr ⟨my, at_c (by assumption) (by unfold at_; omega), by omega, rfl, rfl⟩)))
   refine hold_forkD (fun h5 => ?_) (fun h5 => ?_)
   ·
    refine hold_forkD (fun h6 => ?_) (fun h6 => ?_)
    ·
     refine hold_fork (fun h7 => ?_) (fun h7 => ?_)
     ·
      exact hold_stop fun hd hb => leaf_same hd (by simp [fitA, nf]) (look_cons hb).1 (fitsA_self _ rfl) (look_cons (look_cons hb).2.2).2.1 (by decide) (.inr (.inl ⟨my, at_c (by assumption) (by unfold at_; omega), rfl, rfl⟩))
     refine hold_forkD (fun h8 => ?_) (fun h8 => ?_)
     ·
      exact hold_stop fun hd hb => leaf_same hd (by simp [fitA, nf]) (look_cons hb).1 (fitsA_self _ rfl) (look_cons (look_cons hb).2.2).2.1 (by decide) (.inr (.inr (.inl ⟨my, at_c (by assumption) (by unfold at_; omega), by omega, rfl, rfl⟩)))
     iterate 9 refine hl (bc fun h9 => by omega) ?_
     refine hl (bc fun h9 => by exact h9 ⟨rfl, rfl, rfl⟩) ?_
     iterate 11 refine hl (bc fun h9 => by omega) ?_
     refine hl (bc fun h9 => by exact h9 ⟨rfl, rfl, rfl⟩) ?_
     iterate 3 refine hl (bc fun h9 => by omega) ?_
     refine hl (bc fun h9 => by exact h9 ⟨by omega, fun i hi => (by obtain rfl : i = 0 := (by omega); exact ⟨rfl, rfl⟩)⟩) ?_
     refine hl (bc fun h9 => by omega) ?_
     exact hold_stop fun hd hb => leaf_new (J := 4) hd (by simp [fitA, nf]) (look_cons hb).1 (by simp [fitA]) (look_cons (look_cons (look_cons hb).2.2).2.2).2.1 (Nat.le_refl _) (put_glue rfl) (by decide) (.inr (.inr (.inr ⟨my, at_c (by assumption) (by unfold at_; omega), by omega, rfl, rfl⟩)))
    refine hold_forkD (fun h7 => ?_) (fun h7 => ?_)
    ·
     refine hold_fork (fun h8 => ?_) (fun h8 => ?_)
     ·
      exact hold_stop fun hd hb => leaf_same hd (by simp [fitA, nf]) (look_cons hb).1 (fitsA_self _ rfl) (look_cons (look_cons hb).2.2).2.1 (by decide) (.inr (.inl ⟨my, at_c (by assumption) (by unfold at_; omega), rfl, rfl⟩))
     refine hold_forkD (fun h9 => ?_) (fun h9 => ?_)
     ·
      exact hold_stop fun hd hb => leaf_same hd (by simp [fitA, nf]) (look_cons hb).1 (fitsA_self _ rfl) (look_cons (look_cons hb).2.2).2.1 (by decide) (.inr (.inr (.inl ⟨my, at_c (by assumption) (by unfold at_; omega), by omega, rfl, rfl⟩)))
     iterate 9 refine hl (bc fun h10 => by omega) ?_
     refine hl (bc fun h10 => by exact h10 ⟨rfl, rfl, rfl⟩) ?_
     iterate 11 refine hl (bc fun h10 => by omega) ?_
     refine hl (bc fun h10 => by exact h10 ⟨rfl, rfl, rfl⟩) ?_
     iterate 3 refine hl (bc fun h10 => by omega) ?_
     refine hl (bc fun h10 => by exact h10 ⟨by omega, fun i hi => (by obtain rfl : i = 0 := (by omega); exact ⟨rfl, rfl⟩)⟩) ?_
     refine hl (bc fun h10 => by omega) ?_
     exact hold_stop fun hd hb => leaf_new (J := 4) hd (by simp [fitA, nf]) (look_cons hb).1 (by simp [fitA]) (look_cons (look_cons (look_cons hb).2.2).2.2).2.1 (Nat.le_refl _) (put_glue rfl) (by decide) (.inr (.inr (.inr ⟨my, at_c (by assumption) (by unfold at_; omega), by omega, rfl, rfl⟩)))
    refine hold_forkD (fun h8 => ?_) (fun h8 => ?_)
    ·
     refine hold_fork (fun h9 => ?_) (fun h9 => ?_)
     ·
      exact hold_stop fun hd hb => leaf_same hd (by simp [fitA, nf]) (look_cons hb).1 (fitsA_self _ rfl) (look_cons (look_cons hb).2.2).2.1 (by decide) (.inr (.inl ⟨my, at_c (by assumption) (by unfold at_; omega), rfl, rfl⟩))
     refine hold_forkD (fun h10 => ?_) (fun h10 => ?_)
     ·
      exact hold_stop fun hd hb => leaf_same hd (by simp [fitA, nf]) (look_cons hb).1 (fitsA_self _ rfl) (look_cons (look_cons hb).2.2).2.1 (by decide) (.inr (.inr (.inl ⟨my, at_c (by assumption) (by unfold at_; omega), by omega, rfl, rfl⟩)))
     iterate 9 refine hl (bc fun h11 => by omega) ?_
     refine hl (bc fun h11 => by exact h11 ⟨rfl, rfl, rfl⟩) ?_
     iterate 11 refine hl (bc fun h11 => by omega) ?_
     refine hl (bc fun h11 => by exact h11 ⟨rfl, rfl, rfl⟩) ?_
     iterate 3 refine hl (bc fun h11 => by omega) ?_
     refine hl (bc fun h11 => by exact h11 ⟨by omega, fun i hi => (by obtain rfl : i = 0 := (by omega); exact ⟨rfl, rfl⟩)⟩) ?_
     refine hl (bc fun h11 => by omega) ?_
     exact hold_stop fun hd hb => leaf_new (J := 4) hd (by simp [fitA, nf]) (look_cons hb).1 (by simp [fitA]) (look_cons (look_cons (look_cons hb).2.2).2.2).2.1 (Nat.le_refl _) (put_glue rfl) (by decide) (.inr (.inr (.inr ⟨my, at_c (by assumption) (by unfold at_; omega), by omega, rfl, rfl⟩)))
    refine hold_forkD (fun h9 => ?_) (fun h9 => ?_)
    ·
     refine hold_fork (fun h10 => ?_) (fun h10 => ?_)
     ·
      exact hold_stop fun hd hb => leaf_same hd (by simp [fitA, nf]) (look_cons hb).1 (fitsA_self _ rfl) (look_cons (look_cons hb).2.2).2.1 (by decide) (.inr (.inl ⟨my, at_c (by assumption) (by unfold at_; omega), rfl, rfl⟩))
     refine hold_forkD (fun h11 => ?_) (fun h11 => ?_)
     ·
      exact hold_stop fun hd hb => leaf_same hd (by simp [fitA, nf]) (look_cons hb).1 (fitsA_self _ rfl) (look_cons (look_cons hb).2.2).2.1 (by decide) (.inr (.inr (.inl ⟨my, at_c (by assumption) (by unfold at_; omega), by omega, rfl, rfl⟩)))
     iterate 9 refine hl (bc fun h12 => by omega) ?_
     refine hl (bc fun h12 => by exact h12 ⟨rfl, rfl, rfl⟩) ?_
     iterate 11 refine hl (bc fun h12 => by omega) ?_
     refine hl (bc fun h12 => by exact h12 ⟨rfl, rfl, rfl⟩) ?_
     iterate 3 refine hl (bc fun h12 => by omega) ?_
     refine hl (bc fun h12 => by exact h12 ⟨by omega, fun i hi => (by obtain rfl : i = 0 := (by omega); exact ⟨rfl, rfl⟩)⟩) ?_
     refine hl (bc fun h12 => by omega) ?_
     exact hold_stop fun hd hb => leaf_new (J := 4) hd (by simp [fitA, nf]) (look_cons hb).1 (by simp [fitA]) (look_cons (look_cons (look_cons hb).2.2).2.2).2.1 (Nat.le_refl _) (put_glue rfl) (by decide) (.inr (.inr (.inr ⟨my, at_c (by assumption) (by unfold at_; omega), by omega, rfl, rfl⟩)))
    refine hzr (fun h10 => by omega) ?_
    refine hl (bc fun h10 => by omega) ?_
    refine hold_fork (fun h10 => ?_) (fun h10 => ?_)
    ·
     exact hold_stop fun hd hb => leaf_same hd (by simp [fitA, nf]) (look_cons hb).1 (fitsA_self _ rfl) (look_cons (look_cons hb).2.2).2.1 (by decide) (.inr (.inl ⟨my, at_c (by assumption) (by unfold at_; omega), rfl, rfl⟩))
    refine hold_forkD (fun h11 => ?_) (fun h11 => ?_)
    ·
     exact hold_stop fun hd hb => leaf_same hd (by simp [fitA, nf]) (look_cons hb).1 (fitsA_self _ rfl) (look_cons (look_cons hb).2.2).2.1 (by decide) (.inr (.inr (.inl ⟨my, at_c (by assumption) (by unfold at_; omega), by omega, rfl, rfl⟩)))
    iterate 9 refine hl (bc fun h12 => by omega) ?_
    refine hl (bc fun h12 => by exact h12 ⟨rfl, rfl, rfl⟩) ?_
    iterate 11 refine hl (bc fun h12 => by omega) ?_
    refine hl (bc fun h12 => by exact h12 ⟨rfl, rfl, rfl⟩) ?_
    iterate 3 refine hl (bc fun h12 => by omega) ?_
    refine hl (bc fun h12 => by exact h12 ⟨by omega, fun i hi => (by obtain rfl : i = 0 := (by omega); exact ⟨rfl, rfl⟩)⟩) ?_
    refine hl (bc fun h12 => by omega) ?_
    exact hold_stop fun hd hb => leaf_new (J := 4) hd (by simp [fitA, nf]) (look_cons hb).1 (by simp [fitA]) (look_cons (look_cons (look_cons hb).2.2).2.2).2.1 (Nat.le_refl _) (put_glue rfl) (by decide) (.inr (.inr (.inr ⟨my, at_c (by assumption) (by unfold at_; omega), by omega, rfl, rfl⟩)))
   refine hl (bc fun h6 => by omega) ?_
   refine hold_forkD (fun h6 => ?_) (fun h6 => ?_)
   ·
    refine hold_fork (fun h7 => ?_) (fun h7 => ?_)
    ·
     exact hold_stop fun hd hb => leaf_same hd (by simp [fitA, nf]) (look_cons hb).1 (fitsA_self _ rfl) (look_cons (look_cons hb).2.2).2.1 (by decide) (.inr (.inl ⟨my, at_c (by assumption) (by unfold at_; omega), rfl, rfl⟩))
    refine hold_forkD (fun h8 => ?_) (fun h8 => ?_)
    ·
     exact hold_stop fun hd hb => leaf_same hd (by simp [fitA, nf]) (look_cons hb).1 (fitsA_self _ rfl) (look_cons (look_cons hb).2.2).2.1 (by decide) (.inr (.inr (.inl ⟨my, at_c (by assumption) (by unfold at_; omega), by omega, rfl, rfl⟩)))
    iterate 9 refine hl (bc fun h9 => by omega) ?_
    refine hl (bc fun h9 => by exact h9 ⟨rfl, rfl, rfl⟩) ?_
    iterate 11 refine hl (bc fun h9 => by omega) ?_
    refine hl (bc fun h9 => by exact h9 ⟨rfl, rfl, rfl⟩) ?_
    iterate 3 refine hl (bc fun h9 => by omega) ?_
    refine hl (bc fun h9 => by exact h9 ⟨by omega, fun i hi => (by obtain rfl : i = 0 := (by omega); exact ⟨rfl, rfl⟩)⟩) ?_
    refine hl (bc fun h9 => by omega) ?_
    exact hold_stop fun hd hb => leaf_new (J := 4) hd (by simp [fitA, nf]) (look_cons hb).1 (by simp [fitA]) (look_cons (look_cons (look_cons hb).2.2).2.2).2.1 (Nat.le_refl _) (put_glue rfl) (by decide) (.inr (.inr (.inr ⟨my, at_c (by assumption) (by unfold at_; omega), by omega, rfl, rfl⟩)))
   refine hold_forkD (fun h7 => ?_) (fun h7 => ?_)
   ·
    refine hold_fork (fun h8 => ?_) (fun h8 => ?_)
    ·
     exact hold_stop fun hd hb => leaf_same hd (by simp [fitA, nf]) (look_cons hb).1 (fitsA_self _ rfl) (look_cons (look_cons hb).2.2).2.1 (by decide) (.inr (.inl ⟨my, at_c (by assumption) (by unfold at_; omega), rfl, rfl⟩))
    refine hold_forkD (fun h9 => ?_) (fun h9 => ?_)
    ·
     exact hold_stop fun hd hb => leaf_same hd (by simp [fitA, nf]) (look_cons hb).1 (fitsA_self _ rfl) (look_cons (look_cons hb).2.2).2.1 (by decide) (.inr (.inr (.inl ⟨my, at_c (by assumption) (by unfold at_; omega), by omega, rfl, rfl⟩)))
    iterate 9 refine hl (bc fun h10 => by omega) ?_
    refine hl (bc fun h10 => by exact h10 ⟨rfl, rfl, rfl⟩) ?_
    iterate 11 refine hl (bc fun h10 => by omega) ?_
    refine hl (bc fun h10 => by exact h10 ⟨rfl, rfl, rfl⟩) ?_
    iterate 3 refine hl (bc fun h10 => by omega) ?_
    refine hl (bc fun h10 => by exact h10 ⟨by omega, fun i hi => (by obtain rfl : i = 0 := (by omega); exact ⟨rfl, rfl⟩)⟩) ?_
    refine hl (bc fun h10 => by omega) ?_
    exact hold_stop fun hd hb => leaf_new (J := 4) hd (by simp [fitA, nf]) (look_cons hb).1 (by simp [fitA]) (look_cons (look_cons (look_cons hb).2.2).2.2).2.1 (Nat.le_refl _) (put_glue rfl) (by decide) (.inr (.inr (.inr ⟨my, at_c (by assumption) (by unfold at_; omega), by omega, rfl, rfl⟩)))
   refine hold_forkD (fun h8 => ?_) (fun h8 => ?_)
   ·
    refine hold_fork (fun h9 => ?_) (fun h9 => ?_)
    ·
     exact hold_stop fun hd hb => leaf_same hd (by simp [fitA, nf]) (look_cons hb).1 (fitsA_self _ rfl) (look_cons (look_cons hb).2.2).2.1 (by decide) (.inr (.inl ⟨my, at_c (by assumption) (by unfold at_; omega), rfl, rfl⟩))
    refine hold_forkD (fun h10 => ?_) (fun h10 => ?_)
    ·
     exact hold_stop fun hd hb => leaf_same hd (by simp [fitA, nf]) (look_cons hb).1 (fitsA_self _ rfl) (look_cons (look_cons hb).2.2).2.1 (by decide) (.inr (.inr (.inl ⟨my, at_c (by assumption) (by unfold at_; omega), by omega, rfl, rfl⟩)))
    iterate 9 refine hl (bc fun h11 => by omega) ?_
    refine hl (bc fun h11 => by exact h11 ⟨rfl, rfl, rfl⟩) ?_
    iterate 11 refine hl (bc fun h11 => by omega) ?_
    refine hl (bc fun h11 => by exact h11 ⟨rfl, rfl, rfl⟩) ?_
    iterate 3 refine hl (bc fun h11 => by omega) ?_
    refine hl (bc fun h11 => by exact h11 ⟨by omega, fun i hi => (by obtain rfl : i = 0 := (by omega); exact ⟨rfl, rfl⟩)⟩) ?_
    refine hl (bc fun h11 => by omega) ?_
    exact hold_stop fun hd hb => leaf_new (J := 4) hd (by simp [fitA, nf]) (look_cons hb).1 (by simp [fitA]) (look_cons (look_cons (look_cons hb).2.2).2.2).2.1 (Nat.le_refl _) (put_glue rfl) (by decide) (.inr (.inr (.inr ⟨my, at_c (by assumption) (by unfold at_; omega), by omega, rfl, rfl⟩)))
   refine hold_forkD (fun h9 => ?_) (fun h9 => ?_)
   ·
    refine hold_fork (fun h10 => ?_) (fun h10 => ?_)
    ·
     exact hold_stop fun hd hb => leaf_same hd (by simp [fitA, nf]) (look_cons hb).1 (fitsA_self _ rfl) (look_cons (look_cons hb).2.2).2.1 (by decide) (.inr (.inl ⟨my, at_c (by assumption) (by unfold at_; omega), rfl, rfl⟩))
    refine hold_forkD (fun h11 => ?_) (fun h11 => ?_)
    ·
     exact hold_stop fun hd hb => leaf_same hd (by simp [fitA, nf]) (look_cons hb).1 (fitsA_self _ rfl) (look_cons (look_cons hb).2.2).2.1 (by decide) (.inr (.inr (.inl ⟨my, at_c (by assumption) (by unfold at_; omega), by omega, rfl, rfl⟩)))
    iterate 9 refine hl (bc fun h12 => by omega) ?_
    refine hl (bc fun h12 => by exact h12 ⟨rfl, rfl, rfl⟩) ?_
    iterate 11 refine hl (bc fun h12 => by omega) ?_
    refine hl (bc fun h12 => by exact h12 ⟨rfl, rfl, rfl⟩) ?_
    iterate 3 refine hl (bc fun h12 => by omega) ?_
    refine hl (bc fun h12 => by exact h12 ⟨by omega, fun i hi => (by obtain rfl : i = 0 := (by omega); exact ⟨rfl, rfl⟩)⟩) ?_
    refine hl (bc fun h12 => by omega) ?_
    exact hold_stop fun hd hb => leaf_new (J := 4) hd (by simp [fitA, nf]) (look_cons hb).1 (by simp [fitA]) (look_cons (look_cons (look_cons hb).2.2).2.2).2.1 (Nat.le_refl _) (put_glue rfl) (by decide) (.inr (.inr (.inr ⟨my, at_c (by assumption) (by unfold at_; omega), by omega, rfl, rfl⟩)))
   refine hl (bc fun h10 => by omega) ?_
   refine hold_fork (fun h10 => ?_) (fun h10 => ?_)
   ·
    exact hold_stop fun hd hb => leaf_same hd (by simp [fitA, nf]) (look_cons hb).1 (fitsA_self _ rfl) (look_cons (look_cons hb).2.2).2.1 (by decide) (.inr (.inl ⟨my, at_c (by assumption) (by unfold at_; omega), rfl, rfl⟩))
   refine hold_forkD (fun h11 => ?_) (fun h11 => ?_)
   ·
    exact hold_stop fun hd hb => leaf_same hd (by simp [fitA, nf]) (look_cons hb).1 (fitsA_self _ rfl) (look_cons (look_cons hb).2.2).2.1 (by decide) (.inr (.inr (.inl ⟨my, at_c (by assumption) (by unfold at_; omega), by omega, rfl, rfl⟩)))
   iterate 9 refine hl (bc fun h12 => by omega) ?_
   refine hl (bc fun h12 => by exact h12 ⟨rfl, rfl, rfl⟩) ?_
   iterate 11 refine hl (bc fun h12 => by omega) ?_
   refine hl (bc fun h12 => by exact h12 ⟨rfl, rfl, rfl⟩) ?_
   iterate 3 refine hl (bc fun h12 => by omega) ?_
   refine hl (bc fun h12 => by exact h12 ⟨by omega, fun i hi => (by obtain rfl : i = 0 := (by omega); exact ⟨rfl, rfl⟩)⟩) ?_
   refine hl (bc fun h12 => by omega) ?_
   exact hold_stop fun hd hb => leaf_new (J := 4) hd (by simp [fitA, nf]) (look_cons hb).1 (by simp [fitA]) (look_cons (look_cons (look_cons hb).2.2).2.2).2.1 (Nat.le_refl _) (put_glue rfl) (by decide) (.inr (.inr (.inr ⟨my, at_c (by assumption) (by unfold at_; omega), by omega, rfl, rfl⟩)))
  refine ok_sk (.stop [0, 1]) (S := .stop (.leaf (.tuple [.int .i64 (1 : Int), .gsl 0 0, .gsl 1 0])) [0, 1] ([bC 0 1 k c, bS 1 12 k (rowsN R)])) (by kernel_rfl) ?_
  exact hold_stop fun hd hb => leaf_same hd (by simp [fitA, nf]) (look_cons hb).1 (fitsA_self _ rfl) (look_cons (look_cons hb).2.2).2.1 (by decide) (.inl ⟨my, rfl, rfl⟩)
end Go.Proofs.Ytkdmlpmjfnjnmaa
