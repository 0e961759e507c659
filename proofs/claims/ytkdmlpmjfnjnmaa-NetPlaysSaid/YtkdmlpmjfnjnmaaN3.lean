import Derived.Test.YtkdmlpmjfnjnmaaN2
set_option linter.unusedSimpArgs false
namespace Go.Proofs.Ytkdmlpmjfnjnmaa
open Go Go.RowKit Sv
set_option linter.unusedVariables false
set_option maxRecDepth 100000
set_option maxHeartbeats 0
theorem leaf_put1 {P : Program} {o lp : Nat → Bool} {n0 : Nat} {t : T} {R' : AV → List NewB → Prop} {x x0 : AV} {c : Nat → Bool} {R : Nat → NM} {k1 q c0 J : Nat} {E : Nat → EvI} (hd : t.hd = .leaf (.tuple [x0, .gsl 0 0, .gsl 1 0, .gsl 2 0])) (hx : fitA [some 0, none, some 2, some J] x x0)
    (h0 : t.heap.tr.get 0 = some (.cells c0 none (.gsl J k1 :: cutC c))) (h2 : seqAt t.heap 2 = some (14, q, fun i => (E i).row)) (hJ : seqAt t.heap J = some (12, k1, rowsN R)) (hc : c0 ≠ 2 ∧ c0 ≠ J ∧ 2 ≠ J) (hR : R' x [netC c 3 k1, .cells none [], .seq 14 q fun i => (E i).row, netR R k1]) : t.ok P o lp n0 (RM 3 R') := by
  have e0 := clsOf_cells h0
  have e1 := (seq_one hJ).1
  have e2 := (seq_one h2).1
  refine ok_leafZ (fz := []) (ns := [some 0, none, some 2, some J]) (y := .tuple [x, .gsl 0 0, .top, .gsl 2 0]) (G := [netC c 3 k1, .cells none [], .seq 14 q fun i => (E i).row, netR R k1]) hd ⟨zsA_of ⟨⟨hx, by simp [fitA], by simp [fitA], by simp [fitA], trivial⟩, trivial⟩, ⟨zB_net h0 rfl (by simp [fitA]), trivial, .inl ⟨q, _, h2, Nat.le_refl _, fun i hi => Ices.refl rfl⟩, .inl ⟨k1, _, hJ, Nat.le_refl _, fun i hi => Ices.refl rfl⟩, trivial⟩, ?_⟩ ⟨x, rfl, hR⟩
  simp [e0, e1, e2, hc]
theorem seq_of {H : AH} {j : Nat} {z n : Nat} {f : Nat → List AV} (h : seqAt H j = some (z, n, f)) : ∃ c z n f, H.tr.get j = some (.seq c z n f) := by
  unfold seqAt at h
  split at h
  · rename_i c z n f h'
    exact ⟨_, _, _, _, h'⟩
  · cases h
theorem ok_send {P : Program} {o lp : Nat → Bool} {n0 : Nat} {R0 R' : AV → List NewB → Prop} {t : T} {f c0 k q : Nat} {c : Nat → Bool} {R : Nat → NM} {m : MsI} {E : Nat → EvI} (hd : t.hd = .call f [.ptr 0 0, .agg (m.row (.gsl 2 q))]) (hr : RunsM P f (putG c R k q E) [.ptr 0 0, .agg (m.row (.gsl 2 q))] R')
    (h0 : t.heap.tr.get 0 = some (.cells c0 none (.gsl 1 k :: cutC c))) (h1 : seqAt t.heap 1 = some (12, k, rowsN R)) (h2 : seqAt t.heap 2 = some (14, q, fun i => (E i).row)) (hc : c0 ≠ 1 ∧ c0 ≠ 2) (ha : alone t.heap [0, 1, 2] = true) (hk : ∀ x G, R' x G → (t.aftM [0, 1, 2] x G).ok P o lp n0 R0) : t.ok P o lp n0 R0 := by
  have e0 := clsOf_cells h0
  have e1 := (seq_one h1).1
  have e2 := (seq_one h2).1
  refine ok_callM hd hr [0, 1, 2] (by decide) ⟨⟨by simp [fitA], by simp [MsI.row, fitA, fitsA], trivial⟩, ⟨⟨_, _, h0, ⟨by simp [fitA], fitsA_self _ rfl⟩⟩, .inl ⟨_, _, h1, Nat.le_refl _, fun i hi => ⟨rfl, rfl⟩⟩, .inl ⟨_, _, h2, Nat.le_refl _, fun i hi => ⟨rfl, rfl⟩⟩, trivial⟩, by simp [e0, e1, e2, hc]⟩ ha (fun i j hi => ?_) hk
  rcases i with _ | _ | _ | i
  · exact .inr fun ρ E w vs _ hv => vrs_ptr hv (o := 0) (by simp)
  · simp at hi; subst hi; exact .inl (seq_of h1)
  · simp at hi; subst hi; exact .inl (seq_of h2)
  · simp at hi
theorem aput (c : Nat → Bool) (R : Nat → NM) (k : Nat) (hk : k ≤ 128) (m : MsI) (q : Nat) (E : Nat → EvI) (hq : q ≤ 1000) : RunsM Try.prog 8 (putG c R k q E) [.ptr 0 0, .agg (m.row (.gsl 2 q))] fun x G =>
    (¬ m.may q E ∧ x = .int .i64 1 ∧ G = putG c R k q E) ∨ (m.may q E ∧ c (at_ m.f m.t) = true ∧ x = .int .i64 0 ∧ G = putG c R k q E) ∨ (m.may q E ∧ c (at_ m.f m.t) = false ∧ 128 ≤ k ∧ x = .int .i64 7 ∧ G = putG c R k q E) ∨
    (m.may q E ∧ c (at_ m.f m.t) = false ∧ k < 128 ∧ x = .int .i64 0 ∧ G = [netC c 3 (k + 1), .cells none [], .seq 14 q fun i => (E i).row, netR (putR R k ⟨m, q, E⟩) (k + 1)]) := by
  refine runs_treeM plain mixed (fun g => Nat.beq g 21 || Nat.beq g 22) 60 (putG c R k q E) ?_
  refine ok_sk (.stop [2]) (S := .stop (.call 21 [.agg (m.row (.gsl 2 q))]) [2] ([bS 2 14 q (fun i => (E i).row)])) (by kernel_rfl) ?_
  refine hold_stop (fun hd hb => ?_)
  refine ok_call hd (mmay m q E (by omega)) (views_own (look_one hb).2 (Nat.le_refl _) fun i hi => rfl) ?_
  rintro x G ⟨rfl, ⟨rfl, my⟩ | ⟨rfl, my⟩⟩ <;> refine ⟨rfl, fun g hg => (by cases hg), ?_⟩ <;> try have mf : 1 ≤ m.f ∧ m.f ≤ 6 ∧ 1 ≤ m.t ∧ m.t ≤ 6 ∧ m.f ≠ m.t := my.1
  ·
   refine ok_sk (.l (.l (.both (.r (.both (.both (.stop [0, 1, 2]) (.stop [0, 2, 1])) (.both (.both (.stop [0, 1, 2]) (.stop [0, 2, 1])) (.both (.both (.stop [0, 1, 2]) (.stop [0, 2, 1])) (.both (.both (.stop [0, 1, 2]) (.stop [0, 2, 1])) (.l (.both (.stop [0, 1, 2]) (.stop [0, 2, 1])))))))) (.both (.both (.both (.stop [0, 1, 2]) (.stop [0, 2, 1])) (.r (.both (.both (.stop [0, 1, 2]) (.stop [0, 2, 1])) (.both (.both (.stop [0, 1, 2]) (.stop [0, 2, 1])) (.both (.both (.stop [0, 1, 2]) (.stop [0, 2, 1])) (.l (.both (.stop [0, 1, 2]) (.stop [0, 2, 1])))))))) (.both (.both (.both (.stop [0, 1, 2]) (.stop [0, 2, 1])) (.both (.both (.stop [0, 1, 2]) (.stop [0, 2, 1])) (.r (.both (.both (.stop [0, 1, 2]) (.stop [0, 2, 1])) (.both (.both (.stop [0, 1, 2]) (.stop [0, 2, 1])) (.l (.both (.stop [0, 1, 2]) (.stop [0, 2, 1])))))))) (.both (.both (.both (.stop [0, 1, 2]) (.stop [0, 2, 1])) (.both (.both (.stop [0, 1, 2]) (.stop [0, 2, 1])) (.both (.both (.stop [0, 1, 2]) (.stop [0, 2, 1])) (.r (.both (.both (.stop [0, 1, 2]) (.stop [0, 2, 1])) (.l (.both (.stop [0, 1, 2]) (.stop [0, 2, 1])))))))) (.both (.both (.both (.stop [0, 1, 2]) (.stop [0, 2, 1])) (.both (.both (.stop [0, 1, 2]) (.stop [0, 2, 1])) (.both (.both (.stop [0, 1, 2]) (.stop [0, 2, 1])) (.both (.both (.stop [0, 1, 2]) (.stop [0, 2, 1])) (.r (.l (.both (.stop [0, 1, 2]) (.stop [0, 2, 1])))))))) (.l (.both (.both (.stop [0, 1, 2]) (.stop [0, 2, 1])) (.both (.both (.stop [0, 1, 2]) (.stop [0, 2, 1])) (.both (.both (.stop [0, 1, 2]) (.stop [0, 2, 1])) (.both (.both (.stop [0, 1, 2]) (.stop [0, 2, 1])) (.l (.both (.stop [0, 1, 2]) (.stop [0, 2, 1]))))))))))))))) (S := .left (decide ((-9223372036854775808 : Int) ≤ m.f - 1 ∧ m.f - 1 ≤ 9223372036854775807)) (.left (decide ((-9223372036854775808 : Int) ≤ m.t - 1 ∧ m.t - 1 ≤ 9223372036854775807)) (.fork (decide (m.f - 1 = 5)) (.right (decide (m.t - 1 = 5)) (.fork (decide (m.t - 1 = 4)) (.fork (c 34) (.stop (.leaf (.tuple [.int .i64 (0 : Int), .gsl 0 0, .gsl 1 0, .gsl 2 0])) [0, 1, 2] ([bC 0 1 k c, bS 1 12 k (rowsN R), bS 2 14 q (fun i => (E i).row)])) (.stop (.call 22 [.ptr 0 0, .agg (m.row (.gsl 2 q))]) [0, 2, 1] ([bC 0 1 k c, bS 2 14 q (fun i => (E i).row), bS 1 12 k (rowsN R)]))) (.fork (decide (m.t - 1 = 3)) (.fork (c 33) (.stop (.leaf (.tuple [.int .i64 (0 : Int), .gsl 0 0, .gsl 1 0, .gsl 2 0])) [0, 1, 2] ([bC 0 1 k c, bS 1 12 k (rowsN R), bS 2 14 q (fun i => (E i).row)])) (.stop (.call 22 [.ptr 0 0, .agg (m.row (.gsl 2 q))]) [0, 2, 1] ([bC 0 1 k c, bS 2 14 q (fun i => (E i).row), bS 1 12 k (rowsN R)]))) (.fork (decide (m.t - 1 = 2)) (.fork (c 32) (.stop (.leaf (.tuple [.int .i64 (0 : Int), .gsl 0 0, .gsl 1 0, .gsl 2 0])) [0, 1, 2] ([bC 0 1 k c, bS 1 12 k (rowsN R), bS 2 14 q (fun i => (E i).row)])) (.stop (.call 22 [.ptr 0 0, .agg (m.row (.gsl 2 q))]) [0, 2, 1] ([bC 0 1 k c, bS 2 14 q (fun i => (E i).row), bS 1 12 k (rowsN R)]))) (.fork (decide (m.t - 1 = 1)) (.fork (c 31) (.stop (.leaf (.tuple [.int .i64 (0 : Int), .gsl 0 0, .gsl 1 0, .gsl 2 0])) [0, 1, 2] ([bC 0 1 k c, bS 1 12 k (rowsN R), bS 2 14 q (fun i => (E i).row)])) (.stop (.call 22 [.ptr 0 0, .agg (m.row (.gsl 2 q))]) [0, 2, 1] ([bC 0 1 k c, bS 2 14 q (fun i => (E i).row), bS 1 12 k (rowsN R)]))) (.left (decide (m.t - 1 = 0)) (.fork (c 30) (.stop (.leaf (.tuple [.int .i64 (0 : Int), .gsl 0 0, .gsl 1 0, .gsl 2 0])) [0, 1, 2] ([bC 0 1 k c, bS 1 12 k (rowsN R), bS 2 14 q (fun i => (E i).row)])) (.stop (.call 22 [.ptr 0 0, .agg (m.row (.gsl 2 q))]) [0, 2, 1] ([bC 0 1 k c, bS 2 14 q (fun i => (E i).row), bS 1 12 k (rowsN R)]))))))))) (.fork (decide (m.f - 1 = 4)) (.fork (decide (m.t - 1 = 5)) (.fork (c 29) (.stop (.leaf (.tuple [.int .i64 (0 : Int), .gsl 0 0, .gsl 1 0, .gsl 2 0])) [0, 1, 2] ([bC 0 1 k c, bS 1 12 k (rowsN R), bS 2 14 q (fun i => (E i).row)])) (.stop (.call 22 [.ptr 0 0, .agg (m.row (.gsl 2 q))]) [0, 2, 1] ([bC 0 1 k c, bS 2 14 q (fun i => (E i).row), bS 1 12 k (rowsN R)]))) (.right (decide (m.t - 1 = 4)) (.fork (decide (m.t - 1 = 3)) (.fork (c 27) (.stop (.leaf (.tuple [.int .i64 (0 : Int), .gsl 0 0, .gsl 1 0, .gsl 2 0])) [0, 1, 2] ([bC 0 1 k c, bS 1 12 k (rowsN R), bS 2 14 q (fun i => (E i).row)])) (.stop (.call 22 [.ptr 0 0, .agg (m.row (.gsl 2 q))]) [0, 2, 1] ([bC 0 1 k c, bS 2 14 q (fun i => (E i).row), bS 1 12 k (rowsN R)]))) (.fork (decide (m.t - 1 = 2)) (.fork (c 26) (.stop (.leaf (.tuple [.int .i64 (0 : Int), .gsl 0 0, .gsl 1 0, .gsl 2 0])) [0, 1, 2] ([bC 0 1 k c, bS 1 12 k (rowsN R), bS 2 14 q (fun i => (E i).row)])) (.stop (.call 22 [.ptr 0 0, .agg (m.row (.gsl 2 q))]) [0, 2, 1] ([bC 0 1 k c, bS 2 14 q (fun i => (E i).row), bS 1 12 k (rowsN R)]))) (.fork (decide (m.t - 1 = 1)) (.fork (c 25) (.stop (.leaf (.tuple [.int .i64 (0 : Int), .gsl 0 0, .gsl 1 0, .gsl 2 0])) [0, 1, 2] ([bC 0 1 k c, bS 1 12 k (rowsN R), bS 2 14 q (fun i => (E i).row)])) (.stop (.call 22 [.ptr 0 0, .agg (m.row (.gsl 2 q))]) [0, 2, 1] ([bC 0 1 k c, bS 2 14 q (fun i => (E i).row), bS 1 12 k (rowsN R)]))) (.left (decide (m.t - 1 = 0)) (.fork (c 24) (.stop (.leaf (.tuple [.int .i64 (0 : Int), .gsl 0 0, .gsl 1 0, .gsl 2 0])) [0, 1, 2] ([bC 0 1 k c, bS 1 12 k (rowsN R), bS 2 14 q (fun i => (E i).row)])) (.stop (.call 22 [.ptr 0 0, .agg (m.row (.gsl 2 q))]) [0, 2, 1] ([bC 0 1 k c, bS 2 14 q (fun i => (E i).row), bS 1 12 k (rowsN R)]))))))))) (.fork (decide (m.f - 1 = 3)) (.fork (decide (m.t - 1 = 5)) (.fork (c 23) (.stop (.leaf (.tuple [.int .i64 (0 : Int), .gsl 0 0, .gsl 1 0, .gsl 2 0])) [0, 1, 2] ([bC 0 1 k c, bS 1 12 k (rowsN R), bS 2 14 q (fun i => (E i).row)])) (.stop (.call 22 [.ptr 0 0, .agg (m.row (.gsl 2 q))]) [0, 2, 1] ([bC 0 1 k c, bS 2 14 q (fun i => (E i).row), bS 1 12 k (rowsN R)]))) (.fork (decide (m.t - 1 = 4)) (.fork (c 22) (.stop (.leaf (.tuple [.int .i64 (0 : Int), .gsl 0 0, .gsl 1 0, .gsl 2 0])) [0, 1, 2] ([bC 0 1 k c, bS 1 12 k (rowsN R), bS 2 14 q (fun i => (E i).row)])) (.stop (.call 22 [.ptr 0 0, .agg (m.row (.gsl 2 q))]) [0, 2, 1] ([bC 0 1 k c, bS 2 14 q (fun i => (E i).row), bS 1 12 k (rowsN R)]))) (.right (decide (m.t - 1 = 3)) (.fork (decide (m.t - 1 = 2)) (.fork (c 20) (.stop (.leaf (.tuple [.int .i64 (0 : Int), .gsl 0 0, .gsl 1 0, .gsl 2 0])) [0, 1, 2] ([bC 0 1 k c, bS 1 12 k (rowsN R), bS 2 14 q (fun i => (E i).row)])) (.stop (.call 22 [.ptr 0 0, .agg (m.row (.gsl 2 q))]) [0, 2, 1] ([bC 0 1 k c, bS 2 14 q (fun i => (E i).row), bS 1 12 k (rowsN R)]))) (.fork (decide (m.t - 1 = 1)) (.fork (c 19) (.stop (.leaf (.tuple [.int .i64 (0 : Int), .gsl 0 0, .gsl 1 0, .gsl 2 0])) [0, 1, 2] ([bC 0 1 k c, bS 1 12 k (rowsN R), bS 2 14 q (fun i => (E i).row)])) (.stop (.call 22 [.ptr 0 0, .agg (m.row (.gsl 2 q))]) [0, 2, 1] ([bC 0 1 k c, bS 2 14 q (fun i => (E i).row), bS 1 12 k (rowsN R)]))) (.left (decide (m.t - 1 = 0)) (.fork (c 18) (.stop (.leaf (.tuple [.int .i64 (0 : Int), .gsl 0 0, .gsl 1 0, .gsl 2 0])) [0, 1, 2] ([bC 0 1 k c, bS 1 12 k (rowsN R), bS 2 14 q (fun i => (E i).row)])) (.stop (.call 22 [.ptr 0 0, .agg (m.row (.gsl 2 q))]) [0, 2, 1] ([bC 0 1 k c, bS 2 14 q (fun i => (E i).row), bS 1 12 k (rowsN R)]))))))))) (.fork (decide (m.f - 1 = 2)) (.fork (decide (m.t - 1 = 5)) (.fork (c 17) (.stop (.leaf (.tuple [.int .i64 (0 : Int), .gsl 0 0, .gsl 1 0, .gsl 2 0])) [0, 1, 2] ([bC 0 1 k c, bS 1 12 k (rowsN R), bS 2 14 q (fun i => (E i).row)])) (.stop (.call 22 [.ptr 0 0, .agg (m.row (.gsl 2 q))]) [0, 2, 1] ([bC 0 1 k c, bS 2 14 q (fun i => (E i).row), bS 1 12 k (rowsN R)]))) (.fork (decide (m.t - 1 = 4)) (.fork (c 16) (.stop (.leaf (.tuple [.int .i64 (0 : Int), .gsl 0 0, .gsl 1 0, .gsl 2 0])) [0, 1, 2] ([bC 0 1 k c, bS 1 12 k (rowsN R), bS 2 14 q (fun i => (E i).row)])) (.stop (.call 22 [.ptr 0 0, .agg (m.row (.gsl 2 q))]) [0, 2, 1] ([bC 0 1 k c, bS 2 14 q (fun i => (E i).row), bS 1 12 k (rowsN R)]))) (.fork (decide (m.t - 1 = 3)) (.fork (c 15) (.stop (.leaf (.tuple [.int .i64 (0 : Int), .gsl 0 0, .gsl 1 0, .gsl 2 0])) [0, 1, 2] ([bC 0 1 k c, bS 1 12 k (rowsN R), bS 2 14 q (fun i => (E i).row)])) (.stop (.call 22 [.ptr 0 0, .agg (m.row (.gsl 2 q))]) [0, 2, 1] ([bC 0 1 k c, bS 2 14 q (fun i => (E i).row), bS 1 12 k (rowsN R)]))) (.right (decide (m.t - 1 = 2)) (.fork (decide (m.t - 1 = 1)) (.fork (c 13) (.stop (.leaf (.tuple [.int .i64 (0 : Int), .gsl 0 0, .gsl 1 0, .gsl 2 0])) [0, 1, 2] ([bC 0 1 k c, bS 1 12 k (rowsN R), bS 2 14 q (fun i => (E i).row)])) (.stop (.call 22 [.ptr 0 0, .agg (m.row (.gsl 2 q))]) [0, 2, 1] ([bC 0 1 k c, bS 2 14 q (fun i => (E i).row), bS 1 12 k (rowsN R)]))) (.left (decide (m.t - 1 = 0)) (.fork (c 12) (.stop (.leaf (.tuple [.int .i64 (0 : Int), .gsl 0 0, .gsl 1 0, .gsl 2 0])) [0, 1, 2] ([bC 0 1 k c, bS 1 12 k (rowsN R), bS 2 14 q (fun i => (E i).row)])) (.stop (.call 22 [.ptr 0 0, .agg (m.row (.gsl 2 q))]) [0, 2, 1] ([bC 0 1 k c, bS 2 14 q (fun i => (E i).row), bS 1 12 k (rowsN R)]))))))))) (.fork (decide (m.f - 1 = 1)) (.fork (decide (m.t - 1 = 5)) (.fork (c 11) (.stop (.leaf (.tuple [.int .i64 (0 : Int), .gsl 0 0, .gsl 1 0, .gsl 2 0])) [0, 1, 2] ([bC 0 1 k c, bS 1 12 k (rowsN R), bS 2 14 q (fun i => (E i).row)])) (.stop (.call 22 [.ptr 0 0, .agg (m.row (.gsl 2 q))]) [0, 2, 1] ([bC 0 1 k c, bS 2 14 q (fun i => (E i).row), bS 1 12 k (rowsN R)]))) (.fork (decide (m.t - 1 = 4)) (.fork (c 10) (.stop (.leaf (.tuple [.int .i64 (0 : Int), .gsl 0 0, .gsl 1 0, .gsl 2 0])) [0, 1, 2] ([bC 0 1 k c, bS 1 12 k (rowsN R), bS 2 14 q (fun i => (E i).row)])) (.stop (.call 22 [.ptr 0 0, .agg (m.row (.gsl 2 q))]) [0, 2, 1] ([bC 0 1 k c, bS 2 14 q (fun i => (E i).row), bS 1 12 k (rowsN R)]))) (.fork (decide (m.t - 1 = 3)) (.fork (c 9) (.stop (.leaf (.tuple [.int .i64 (0 : Int), .gsl 0 0, .gsl 1 0, .gsl 2 0])) [0, 1, 2] ([bC 0 1 k c, bS 1 12 k (rowsN R), bS 2 14 q (fun i => (E i).row)])) (.stop (.call 22 [.ptr 0 0, .agg (m.row (.gsl 2 q))]) [0, 2, 1] ([bC 0 1 k c, bS 2 14 q (fun i => (E i).row), bS 1 12 k (rowsN R)]))) (.fork (decide (m.t - 1 = 2)) (.fork (c 8) (.stop (.leaf (.tuple [.int .i64 (0 : Int), .gsl 0 0, .gsl 1 0, .gsl 2 0])) [0, 1, 2] ([bC 0 1 k c, bS 1 12 k (rowsN R), bS 2 14 q (fun i => (E i).row)])) (.stop (.call 22 [.ptr 0 0, .agg (m.row (.gsl 2 q))]) [0, 2, 1] ([bC 0 1 k c, bS 2 14 q (fun i => (E i).row), bS 1 12 k (rowsN R)]))) (.right (decide (m.t - 1 = 1)) (.left (decide (m.t - 1 = 0)) (.fork (c 6) (.stop (.leaf (.tuple [.int .i64 (0 : Int), .gsl 0 0, .gsl 1 0, .gsl 2 0])) [0, 1, 2] ([bC 0 1 k c, bS 1 12 k (rowsN R), bS 2 14 q (fun i => (E i).row)])) (.stop (.call 22 [.ptr 0 0, .agg (m.row (.gsl 2 q))]) [0, 2, 1] ([bC 0 1 k c, bS 2 14 q (fun i => (E i).row), bS 1 12 k (rowsN R)]))))))))) (.left (decide (m.f - 1 = 0)) (.fork (decide (m.t - 1 = 5)) (.fork (c 5) (.stop (.leaf (.tuple [.int .i64 (0 : Int), .gsl 0 0, .gsl 1 0, .gsl 2 0])) [0, 1, 2] ([bC 0 1 k c, bS 1 12 k (rowsN R), bS 2 14 q (fun i => (E i).row)])) (.stop (.call 22 [.ptr 0 0, .agg (m.row (.gsl 2 q))]) [0, 2, 1] ([bC 0 1 k c, bS 2 14 q (fun i => (E i).row), bS 1 12 k (rowsN R)]))) (.fork (decide (m.t - 1 = 4)) (.fork (c 4) (.stop (.leaf (.tuple [.int .i64 (0 : Int), .gsl 0 0, .gsl 1 0, .gsl 2 0])) [0, 1, 2] ([bC 0 1 k c, bS 1 12 k (rowsN R), bS 2 14 q (fun i => (E i).row)])) (.stop (.call 22 [.ptr 0 0, .agg (m.row (.gsl 2 q))]) [0, 2, 1] ([bC 0 1 k c, bS 2 14 q (fun i => (E i).row), bS 1 12 k (rowsN R)]))) (.fork (decide (m.t - 1 = 3)) (.fork (c 3) (.stop (.leaf (.tuple [.int .i64 (0 : Int), .gsl 0 0, .gsl 1 0, .gsl 2 0])) [0, 1, 2] ([bC 0 1 k c, bS 1 12 k (rowsN R), bS 2 14 q (fun i => (E i).row)])) (.stop (.call 22 [.ptr 0 0, .agg (m.row (.gsl 2 q))]) [0, 2, 1] ([bC 0 1 k c, bS 2 14 q (fun i => (E i).row), bS 1 12 k (rowsN R)]))) (.fork (decide (m.t - 1 = 2)) (.fork (c 2) (.stop (.leaf (.tuple [.int .i64 (0 : Int), .gsl 0 0, .gsl 1 0, .gsl 2 0])) [0, 1, 2] ([bC 0 1 k c, bS 1 12 k (rowsN R), bS 2 14 q (fun i => (E i).row)])) (.stop (.call 22 [.ptr 0 0, .agg (m.row (.gsl 2 q))]) [0, 2, 1] ([bC 0 1 k c, bS 2 14 q (fun i => (E i).row), bS 1 12 k (rowsN R)]))) (.left (decide (m.t - 1 = 1)) (.fork (c 1) (.stop (.leaf (.tuple [.int .i64 (0 : Int), .gsl 0 0, .gsl 1 0, .gsl 2 0])) [0, 1, 2] ([bC 0 1 k c, bS 1 12 k (rowsN R), bS 2 14 q (fun i => (E i).row)])) (.stop (.call 22 [.ptr 0 0, .agg (m.row (.gsl 2 q))]) [0, 2, 1] ([bC 0 1 k c, bS 2 14 q (fun i => (E i).row), bS 1 12 k (rowsN R)])))))))))))))))) (by kernel_rfl) ?_
   iterate 2 refine hl (bc fun h1 => by omega) ?_
   refine hold_forkD (fun h1 => ?_) (fun h1 => ?_)
   ·
    refine hzr (fun h2 => by omega) ?_
    refine hold_forkD (fun h2 => ?_) (fun h2 => ?_)
    ·
     refine hold_fork (fun h3 => ?_) (fun h3 => ?_)
     ·
      exact hold_stop fun hd hb => leaf_put0 hd (by simp [fitA, nf]) (look_cons hb).1 (look_cons (look_cons hb).2.2).2.1 (look_cons (look_cons (look_cons hb).2.2).2.2).2.1 (by decide) (.inr (.inl ⟨my, at_c (by assumption) (by unfold at_; omega), rfl, rfl⟩))
     refine hold_stop (fun hd hb => ?_)
     refine ok_send hd (asend c R k hk m q E hq) (look_cons hb).1 (look_cons (look_cons (look_cons hb).2.2).2.2).2.1 (look_cons (look_cons hb).2.2).2.1 (by decide) (by kernel_rfl) ?_
     rintro x G (⟨sk, rfl, rfl⟩ | ⟨sk, rfl, rfl⟩)
     ·
      refine ok_sk (.stop [0, 1, 2]) (S := .stop (.leaf (.tuple [.int .i64 (7 : Int), .gsl 0 0, .gsl 1 0, .gsl 2 0])) [0, 1, 2] ([bC 0 1 k c, bS 1 12 k (rowsN R), bS 2 14 q (fun i => (E i).row)])) (by kernel_rfl) ?_
      exact hold_stop fun hd hb => leaf_put0 hd (by simp [fitA, nf]) (look_cons hb).1 (look_cons (look_cons hb).2.2).2.1 (look_cons (look_cons (look_cons hb).2.2).2.2).2.1 (by decide) (.inr (.inr (.inl ⟨my, at_c (by assumption) (by unfold at_; omega), by omega, rfl, rfl⟩)))
     refine ok_sk (.stop [0, 1, 2, 7]) (S := .stop (.leaf (.tuple [.int .i64 (0 : Int), .gsl 0 0, .gsl 1 0, .gsl 2 0])) [0, 1, 2, 7] ([bC 0 7 (k + 1) c, (some Blk.dead, none), bS 2 14 q (fun i => (E i).row), bS 7 12 (k + 1) (rowsN (putR R k { m := m, q := q, E := E }))])) (by kernel_rfl) ?_
     exact hold_stop fun hd hb => leaf_put1 (J := 7) hd (by simp [fitA, nf]) (look_cons hb).1 (look_cons (look_cons (look_cons hb).2.2).2.2).2.1 (look_cons (look_cons (look_cons (look_cons hb).2.2).2.2).2.2).2.1 (by decide) (.inr (.inr (.inr ⟨my, at_c (by assumption) (by unfold at_; omega), by omega, rfl, rfl⟩)))
    refine hold_forkD (fun h3 => ?_) (fun h3 => ?_)
    ·
     refine hold_fork (fun h4 => ?_) (fun h4 => ?_)
     ·
      exact hold_stop fun hd hb => leaf_put0 hd (by simp [fitA, nf]) (look_cons hb).1 (look_cons (look_cons hb).2.2).2.1 (look_cons (look_cons (look_cons hb).2.2).2.2).2.1 (by decide) (.inr (.inl ⟨my, at_c (by assumption) (by unfold at_; omega), rfl, rfl⟩))
     refine hold_stop (fun hd hb => ?_)
     refine ok_send hd (asend c R k hk m q E hq) (look_cons hb).1 (look_cons (look_cons (look_cons hb).2.2).2.2).2.1 (look_cons (look_cons hb).2.2).2.1 (by decide) (by kernel_rfl) ?_
     rintro x G (⟨sk, rfl, rfl⟩ | ⟨sk, rfl, rfl⟩)
     ·
      refine ok_sk (.stop [0, 1, 2]) (S := .stop (.leaf (.tuple [.int .i64 (7 : Int), .gsl 0 0, .gsl 1 0, .gsl 2 0])) [0, 1, 2] ([bC 0 1 k c, bS 1 12 k (rowsN R), bS 2 14 q (fun i => (E i).row)])) (by kernel_rfl) ?_
      exact hold_stop fun hd hb => leaf_put0 hd (by simp [fitA, nf]) (look_cons hb).1 (look_cons (look_cons hb).2.2).2.1 (look_cons (look_cons (look_cons hb).2.2).2.2).2.1 (by decide) (.inr (.inr (.inl ⟨my, at_c (by assumption) (by unfold at_; omega), by omega, rfl, rfl⟩)))
     refine ok_sk (.stop [0, 1, 2, 7]) (S := .stop (.leaf (.tuple [.int .i64 (0 : Int), .gsl 0 0, .gsl 1 0, .gsl 2 0])) [0, 1, 2, 7] ([bC 0 7 (k + 1) c, (some Blk.dead, none), bS 2 14 q (fun i => (E i).row), bS 7 12 (k + 1) (rowsN (putR R k { m := m, q := q, E := E }))])) (by kernel_rfl) ?_
     exact hold_stop fun hd hb => leaf_put1 (J := 7) hd (by simp [fitA, nf]) (look_cons hb).1 (look_cons (look_cons (look_cons hb).2.2).2.2).2.1 (look_cons (look_cons (look_cons (look_cons hb).2.2).2.2).2.2).2.1 (by decide) (.inr (.inr (.inr ⟨my, at_c (by assumption) (by unfold at_; omega), by omega, rfl, rfl⟩)))
    refine hold_forkD (fun h4 => ?_) (fun h4 => ?_)
    ·
     refine hold_fork (fun h5 => ?_) (fun h5 => ?_)
     ·
      exact hold_stop fun hd hb => leaf_put0 hd (by simp [fitA, nf]) (look_cons hb).1 (look_cons (look_cons hb).2.2).2.1 (look_cons (look_cons (look_cons hb).2.2).2.2).2.1 (by decide) (.inr (.inl ⟨my, at_c (by assumption) (by unfold at_; omega), rfl, rfl⟩))
     refine hold_stop (fun hd hb => ?_)
     refine ok_send hd (asend c R k hk m q E hq) (look_cons hb).1 (look_cons (look_cons (look_cons hb).2.2).2.2).2.1 (look_cons (look_cons hb).2.2).2.1 (by decide) (by kernel_rfl) ?_
     rintro x G (⟨sk, rfl, rfl⟩ | ⟨sk, rfl, rfl⟩)
     ·
      refine ok_sk (.stop [0, 1, 2]) (S := .stop (.leaf (.tuple [.int .i64 (7 : Int), .gsl 0 0, .gsl 1 0, .gsl 2 0])) [0, 1, 2] ([bC 0 1 k c, bS 1 12 k (rowsN R), bS 2 14 q (fun i => (E i).row)])) (by kernel_rfl) ?_
      exact hold_stop fun hd hb => leaf_put0 hd (by simp [fitA, nf]) (look_cons hb).1 (look_cons (look_cons hb).2.2).2.1 (look_cons (look_cons (look_cons hb).2.2).2.2).2.1 (by decide) (.inr (.inr (.inl ⟨my, at_c (by assumption) (by unfold at_; omega), by omega, rfl, rfl⟩)))
     refine ok_sk (.stop [0, 1, 2, 7]) (S := .stop (.leaf (.tuple [.int .i64 (0 : Int), .gsl 0 0, .gsl 1 0, .gsl 2 0])) [0, 1, 2, 7] ([bC 0 7 (k + 1) c, (some Blk.dead, none), bS 2 14 q (fun i => (E i).row), bS 7 12 (k + 1) (rowsN (putR R k { m := m, q := q, E := E }))])) (by kernel_rfl) ?_
     exact hold_stop fun hd hb => leaf_put1 (J := 7) hd (by simp [fitA, nf]) (look_cons hb).1 (look_cons (look_cons (look_cons hb).2.2).2.2).2.1 (look_cons (look_cons (look_cons (look_cons hb).2.2).2.2).2.2).2.1 (by decide) (.inr (.inr (.inr ⟨my, at_c (by assumption) (by unfold at_; omega), by omega, rfl, rfl⟩)))
    refine hold_forkD (fun h5 => ?_) (fun h5 => ?_)
    ·
     refine hold_fork (fun h6 => ?_) (fun h6 => ?_)
     ·
      exact hold_stop fun hd hb => leaf_put0 hd (by simp [fitA, nf]) (look_cons hb).1 (look_cons (look_cons hb).2.2).2.1 (look_cons (look_cons (look_cons hb).2.2).2.2).2.1 (by decide) (.inr (.inl ⟨my, at_c (by assumption) (by unfold at_; omega), rfl, rfl⟩))
     refine hold_stop (fun hd hb => ?_)
     refine ok_send hd (asend c R k hk m q E hq) (look_cons hb).1 (look_cons (look_cons (look_cons hb).2.2).2.2).2.1 (look_cons (look_cons hb).2.2).2.1 (by decide) (by kernel_rfl) ?_
     rintro x G (⟨sk, rfl, rfl⟩ | ⟨sk, rfl, rfl⟩)
     ·
      refine ok_sk (.stop [0, 1, 2]) (S := .stop (.leaf (.tuple [.int .i64 (7 : Int), .gsl 0 0, .gsl 1 0, .gsl 2 0])) [0, 1, 2] ([bC 0 1 k c, bS 1 12 k (rowsN R), bS 2 14 q (fun i => (E i).row)])) (by kernel_rfl) ?_
      exact hold_stop fun hd hb => leaf_put0 hd (by simp [fitA, nf]) (look_cons hb).1 (look_cons (look_cons hb).2.2).2.1 (look_cons (look_cons (look_cons hb).2.2).2.2).2.1 (by decide) (.inr (.inr (.inl ⟨my, at_c (by assumption) (by unfold at_; omega), by omega, rfl, rfl⟩)))
     refine ok_sk (.stop [0, 1, 2, 7]) (S := .stop (.leaf (.tuple [.int .i64 (0 : Int), .gsl 0 0, .gsl 1 0, .gsl 2 0])) [0, 1, 2, 7] ([bC 0 7 (k + 1) c, (some Blk.dead, none), bS 2 14 q (fun i => (E i).row), bS 7 12 (k + 1) (rowsN (putR R k { m := m, q := q, E := E }))])) (by kernel_rfl) ?_
     exact hold_stop fun hd hb => leaf_put1 (J := 7) hd (by simp [fitA, nf]) (look_cons hb).1 (look_cons (look_cons (look_cons hb).2.2).2.2).2.1 (look_cons (look_cons (look_cons (look_cons hb).2.2).2.2).2.2).2.1 (by decide) (.inr (.inr (.inr ⟨my, at_c (by assumption) (by unfold at_; omega), by omega, rfl, rfl⟩)))
    refine hl (bc fun h6 => by omega) ?_
    refine hold_fork (fun h6 => ?_) (fun h6 => ?_)
    ·
     exact hold_stop fun hd hb => leaf_put0 hd (by simp [fitA, nf]) (look_cons hb).1 (look_cons (look_cons hb).2.2).2.1 (look_cons (look_cons (look_cons hb).2.2).2.2).2.1 (by decide) (.inr (.inl ⟨my, at_c (by assumption) (by unfold at_; omega), rfl, rfl⟩))
    refine hold_stop (fun hd hb => ?_)
    refine ok_send hd (asend c R k hk m q E hq) (look_cons hb).1 (look_cons (look_cons (look_cons hb).2.2).2.2).2.1 (look_cons (look_cons hb).2.2).2.1 (by decide) (by kernel_rfl) ?_
    rintro x G (⟨sk, rfl, rfl⟩ | ⟨sk, rfl, rfl⟩)
    ·
     refine ok_sk (.stop [0, 1, 2]) (S := .stop (.leaf (.tuple [.int .i64 (7 : Int), .gsl 0 0, .gsl 1 0, .gsl 2 0])) [0, 1, 2] ([bC 0 1 k c, bS 1 12 k (rowsN R), bS 2 14 q (fun i => (E i).row)])) (by kernel_rfl) ?_
     exact hold_stop fun hd hb => leaf_put0 hd (by simp [fitA, nf]) (look_cons hb).1 (look_cons (look_cons hb).2.2).2.1 (look_cons (look_cons (look_cons hb).2.2).2.2).2.1 (by decide) (.inr (.inr (.inl ⟨my, at_c (by assumption) (by unfold at_; omega), by omega, rfl, rfl⟩)))
    refine ok_sk (.stop [0, 1, 2, 7]) (S := .stop (.leaf (.tuple [.int .i64 (0 : Int), .gsl 0 0, .gsl 1 0, .gsl 2 0])) [0, 1, 2, 7] ([bC 0 7 (k + 1) c, (some Blk.dead, none), bS 2 14 q (fun i => (E i).row), bS 7 12 (k + 1) (rowsN (putR R k { m := m, q := q, E := E }))])) (by kernel_rfl) ?_
    exact hold_stop fun hd hb => leaf_put1 (J := 7) hd (by simp [fitA, nf]) (look_cons hb).1 (look_cons (look_cons (look_cons hb).2.2).2.2).2.1 (look_cons (look_cons (look_cons (look_cons hb).2.2).2.2).2.2).2.1 (by decide) (.inr (.inr (.inr ⟨my, at_c (by assumption) (by unfold at_; omega), by omega, rfl, rfl⟩)))
   refine hold_forkD (fun h2 => ?_) (fun h2 => ?_)
   ·
    refine hold_forkD (fun h3 => ?_) (fun h3 => ?_)
    ·
     refine hold_fork (fun h4 => ?_) (fun h4 => ?_)
     ·
      exact hold_stop fun hd hb => leaf_put0 hd (by simp [fitA, nf]) (look_cons hb).1 (look_cons (look_cons hb).2.2).2.1 (look_cons (look_cons (look_cons hb).2.2).2.2).2.1 (by decide) (.inr (.inl ⟨my, at_c (by assumption) (by unfold at_; omega), rfl, rfl⟩))
     refine hold_stop (fun hd hb => ?_)
     refine ok_send hd (asend c R k hk m q E hq) (look_cons hb).1 (look_cons (look_cons (look_cons hb).2.2).2.2).2.1 (look_cons (look_cons hb).2.2).2.1 (by decide) (by kernel_rfl) ?_
     rintro x G (⟨sk, rfl, rfl⟩ | ⟨sk, rfl, rfl⟩)
     ·
      refine ok_sk (.stop [0, 1, 2]) (S := .stop (.leaf (.tuple [.int .i64 (7 : Int), .gsl 0 0, .gsl 1 0, .gsl 2 0])) [0, 1, 2] ([bC 0 1 k c, bS 1 12 k (rowsN R), bS 2 14 q (fun i => (E i).row)])) (by kernel_rfl) ?_
      exact hold_stop fun hd hb => leaf_put0 hd (by simp [fitA, nf]) (look_cons hb).1 (look_cons (look_cons hb).2.2).2.1 (look_cons (look_cons (look_cons hb).2.2).2.2).2.1 (by decide) (.inr (.inr (.inl ⟨my, at_c (by assumption) (by unfold at_; omega), by omega, rfl, rfl⟩)))
     refine ok_sk (.stop [0, 1, 2, 7]) (S := .stop (.leaf (.tuple [.int .i64 (0 : Int), .gsl 0 0, .gsl 1 0, .gsl 2 0])) [0, 1, 2, 7] ([bC 0 7 (k + 1) c, (some Blk.dead, none), bS 2 14 q (fun i => (E i).row), bS 7 12 (k + 1) (rowsN (putR R k { m := m, q := q, E := E }))])) (by kernel_rfl) ?_
     exact hold_stop fun hd hb => leaf_put1 (J := 7) hd (by simp [fitA, nf]) (look_cons hb).1 (look_cons (look_cons (look_cons hb).2.2).2.2).2.1 (look_cons (look_cons (look_cons (look_cons hb).2.2).2.2).2.2).2.1 (by decide) (.inr (.inr (.inr ⟨my, at_c (by assumption) (by unfold at_; omega), by omega, rfl, rfl⟩)))
    refine hzr (fun h4 => by omega) ?_
    refine hold_forkD (fun h4 => ?_) (fun h4 => ?_)
    ·
     refine hold_fork (fun h5 => ?_) (fun h5 => ?_)
     ·
      exact hold_stop fun hd hb => leaf_put0 hd (by simp [fitA, nf]) (look_cons hb).1 (look_cons (look_cons hb).2.2).2.1 (look_cons (look_cons (look_cons hb).2.2).2.2).2.1 (by decide) (.inr (.inl ⟨my, at_c (by assumption) (by unfold at_; omega), rfl, rfl⟩))
     refine hold_stop (fun hd hb => ?_)
     refine ok_send hd (asend c R k hk m q E hq) (look_cons hb).1 (look_cons (look_cons (look_cons hb).2.2).2.2).2.1 (look_cons (look_cons hb).2.2).2.1 (by decide) (by kernel_rfl) ?_
     rintro x G (⟨sk, rfl, rfl⟩ | ⟨sk, rfl, rfl⟩)
     ·
      refine ok_sk (.stop [0, 1, 2]) (S := .stop (.leaf (.tuple [.int .i64 (7 : Int), .gsl 0 0, .gsl 1 0, .gsl 2 0])) [0, 1, 2] ([bC 0 1 k c, bS 1 12 k (rowsN R), bS 2 14 q (fun i => (E i).row)])) (by kernel_rfl) ?_
      exact hold_stop fun hd hb => leaf_put0 hd (by simp [fitA, nf]) (look_cons hb).1 (look_cons (look_cons hb).2.2).2.1 (look_cons (look_cons (look_cons hb).2.2).2.2).2.1 (by decide) (.inr (.inr (.inl ⟨my, at_c (by assumption) (by unfold at_; omega), by omega, rfl, rfl⟩)))
     refine ok_sk (.stop [0, 1, 2, 7]) (S := .stop (.leaf (.tuple [.int .i64 (0 : Int), .gsl 0 0, .gsl 1 0, .gsl 2 0])) [0, 1, 2, 7] ([bC 0 7 (k + 1) c, (some Blk.dead, none), bS 2 14 q (fun i => (E i).row), bS 7 12 (k + 1) (rowsN (putR R k { m := m, q := q, E := E }))])) (by kernel_rfl) ?_
     exact hold_stop fun hd hb => leaf_put1 (J := 7) hd (by simp [fitA, nf]) (look_cons hb).1 (look_cons (look_cons (look_cons hb).2.2).2.2).2.1 (look_cons (look_cons (look_cons (look_cons hb).2.2).2.2).2.2).2.1 (by decide) (.inr (.inr (.inr ⟨my, at_c (by assumption) (by unfold at_; omega), by omega, rfl, rfl⟩)))
    refine hold_forkD (fun h5 => ?_) (fun h5 => ?_)
    ·
     refine hold_fork (fun h6 => ?_) (fun h6 => ?_)
     ·
      exact hold_stop fun hd hb => leaf_put0 hd (by simp [fitA, nf]) (look_cons hb).1 (look_cons (look_cons hb).2.2).2.1 (look_cons (look_cons (look_cons hb).2.2).2.2).2.1 (by decide) (.inr (.inl ⟨my, at_c (by assumption) (by unfold at_; omega), rfl, rfl⟩))
     refine hold_stop (fun hd hb => ?_)
     refine ok_send hd (asend c R k hk m q E hq) (look_cons hb).1 (look_cons (look_cons (look_cons hb).2.2).2.2).2.1 (look_cons (look_cons hb).2.2).2.1 (by decide) (by kernel_rfl) ?_
     rintro x G (⟨sk, rfl, rfl⟩ | ⟨sk, rfl, rfl⟩)
     ·
      refine ok_sk (.stop [0, 1, 2]) (S := .stop (.leaf (.tuple [.int .i64 (7 : Int), .gsl 0 0, .gsl 1 0, .gsl 2 0])) [0, 1, 2] ([bC 0 1 k c, bS 1 12 k (rowsN R), bS 2 14 q (fun i => (E i).row)])) (by kernel_rfl) ?_
      exact hold_stop fun hd hb => leaf_put0 hd (by simp [fitA, nf]) (look_cons hb).1 (look_cons (look_cons hb).2.2).2.1 (look_cons (look_cons (look_cons hb).2.2).2.2).2.1 (by decide) (.inr (.inr (.inl ⟨my, at_c (by assumption) (by unfold at_; omega), by omega, rfl, rfl⟩)))
     refine ok_sk (.stop [0, 1, 2, 7]) (S := .stop (.leaf (.tuple [.int .i64 (0 : Int), .gsl 0 0, .gsl 1 0, .gsl 2 0])) [0, 1, 2, 7] ([bC 0 7 (k + 1) c, (some Blk.dead, none), bS 2 14 q (fun i => (E i).row), bS 7 12 (k + 1) (rowsN (putR R k { m := m, q := q, E := E }))])) (by kernel_rfl) ?_
     exact hold_stop fun hd hb => leaf_put1 (J := 7) hd (by simp [fitA, nf]) (look_cons hb).1 (look_cons (look_cons (look_cons hb).2.2).2.2).2.1 (look_cons (look_cons (look_cons (look_cons hb).2.2).2.2).2.2).2.1 (by decide) (.inr (.inr (.inr ⟨my, at_c (by assumption) (by unfold at_; omega), by omega, rfl, rfl⟩)))
    refine hold_forkD (fun h6 => ?_) (fun h6 => ?_)
    ·
     refine hold_fork (fun h7 => ?_) (fun h7 => ?_)
     ·
      exact hold_stop fun hd hb => leaf_put0 hd (by simp [fitA, nf]) (look_cons hb).1 (look_cons (look_cons hb).2.2).2.1 (look_cons (look_cons (look_cons hb).2.2).2.2).2.1 (by decide) (.inr (.inl ⟨my, at_c (by assumption) (by unfold at_; omega), rfl, rfl⟩))
     refine hold_stop (fun hd hb => ?_)
     refine ok_send hd (asend c R k hk m q E hq) (look_cons hb).1 (look_cons (look_cons (look_cons hb).2.2).2.2).2.1 (look_cons (look_cons hb).2.2).2.1 (by decide) (by kernel_rfl) ?_
     rintro x G (⟨sk, rfl, rfl⟩ | ⟨sk, rfl, rfl⟩)
     ·
      refine ok_sk (.stop [0, 1, 2]) (S := .stop (.leaf (.tuple [.int .i64 (7 : Int), .gsl 0 0, .gsl 1 0, .gsl 2 0])) [0, 1, 2] ([bC 0 1 k c, bS 1 12 k (rowsN R), bS 2 14 q (fun i => (E i).row)])) (by kernel_rfl) ?_
      exact hold_stop fun hd hb => leaf_put0 hd (by simp [fitA, nf]) (look_cons hb).1 (look_cons (look_cons hb).2.2).2.1 (look_cons (look_cons (look_cons hb).2.2).2.2).2.1 (by decide) (.inr (.inr (.inl ⟨my, at_c (by assumption) (by unfold at_; omega), by omega, rfl, rfl⟩)))
     refine ok_sk (.stop [0, 1, 2, 7]) (S := .stop (.leaf (.tuple [.int .i64 (0 : Int), .gsl 0 0, .gsl 1 0, .gsl 2 0])) [0, 1, 2, 7] ([bC 0 7 (k + 1) c, (some Blk.dead, none), bS 2 14 q (fun i => (E i).row), bS 7 12 (k + 1) (rowsN (putR R k { m := m, q := q, E := E }))])) (by kernel_rfl) ?_
     exact hold_stop fun hd hb => leaf_put1 (J := 7) hd (by simp [fitA, nf]) (look_cons hb).1 (look_cons (look_cons (look_cons hb).2.2).2.2).2.1 (look_cons (look_cons (look_cons (look_cons hb).2.2).2.2).2.2).2.1 (by decide) (.inr (.inr (.inr ⟨my, at_c (by assumption) (by unfold at_; omega), by omega, rfl, rfl⟩)))
    refine hl (bc fun h7 => by omega) ?_
    refine hold_fork (fun h7 => ?_) (fun h7 => ?_)
    ·
     exact hold_stop fun hd hb => leaf_put0 hd (by simp [fitA, nf]) (look_cons hb).1 (look_cons (look_cons hb).2.2).2.1 (look_cons (look_cons (look_cons hb).2.2).2.2).2.1 (by decide) (.inr (.inl ⟨my, at_c (by assumption) (by unfold at_; omega), rfl, rfl⟩))
    refine hold_stop (fun hd hb => ?_)
    refine ok_send hd (asend c R k hk m q E hq) (look_cons hb).1 (look_cons (look_cons (look_cons hb).2.2).2.2).2.1 (look_cons (look_cons hb).2.2).2.1 (by decide) (by kernel_rfl) ?_
    rintro x G (⟨sk, rfl, rfl⟩ | ⟨sk, rfl, rfl⟩)
    ·
     refine ok_sk (.stop [0, 1, 2]) (S := .stop (.leaf (.tuple [.int .i64 (7 : Int), .gsl 0 0, .gsl 1 0, .gsl 2 0])) [0, 1, 2] ([bC 0 1 k c, bS 1 12 k (rowsN R), bS 2 14 q (fun i => (E i).row)])) (by kernel_rfl) ?_
     exact hold_stop fun hd hb => leaf_put0 hd (by simp [fitA, nf]) (look_cons hb).1 (look_cons (look_cons hb).2.2).2.1 (look_cons (look_cons (look_cons hb).2.2).2.2).2.1 (by decide) (.inr (.inr (.inl ⟨my, at_c (by assumption) (by unfold at_; omega), by omega, rfl, rfl⟩)))
    refine ok_sk (.stop [0, 1, 2, 7]) (S := .stop (.leaf (.tuple [.int .i64 (0 : Int), .gsl 0 0, .gsl 1 0, .gsl 2 0])) [0, 1, 2, 7] ([bC 0 7 (k + 1) c, (some Blk.dead, none), bS 2 14 q (fun i => (E i).row), bS 7 12 (k + 1) (rowsN (putR R k { m := m, q := q, E := E }))])) (by kernel_rfl) ?_
    exact hold_stop fun hd hb => leaf_put1 (J := 7) hd (by simp [fitA, nf]) (look_cons hb).1 (look_cons (look_cons (look_cons hb).2.2).2.2).2.1 (look_cons (look_cons (look_cons (look_cons hb).2.2).2.2).2.2).2.1 (by decide) (.inr (.inr (.inr ⟨my, at_c (by assumption) (by unfold at_; omega), by omega, rfl, rfl⟩)))
   refine hold_forkD (fun h3 => ?_) (fun h3 => ?_)
   ·
    refine hold_forkD (fun h4 => ?_) (fun h4 => ?_)
    ·
     refine hold_fork (fun h5 => ?_) (fun h5 => ?_)
     ·
      exact hold_stop fun hd hb => leaf_put0 hd (by simp [fitA, nf]) (look_cons hb).1 (look_cons (look_cons hb).2.2).2.1 (look_cons (look_cons (look_cons hb).2.2).2.2).2.1 (by decide) (.inr (.inl ⟨my, at_c (by assumption) (by unfold at_; omega), rfl, rfl⟩))
     refine hold_stop (fun hd hb => ?_)
     refine ok_send hd (asend c R k hk m q E hq) (look_cons hb).1 (look_cons (look_cons (look_cons hb).2.2).2.2).2.1 (look_cons (look_cons hb).2.2).2.1 (by decide) (by kernel_rfl) ?_
     rintro x G (⟨sk, rfl, rfl⟩ | ⟨sk, rfl, rfl⟩)
     ·
      refine ok_sk (.stop [0, 1, 2]) (S := .stop (.leaf (.tuple [.int .i64 (7 : Int), .gsl 0 0, .gsl 1 0, .gsl 2 0])) [0, 1, 2] ([bC 0 1 k c, bS 1 12 k (rowsN R), bS 2 14 q (fun i => (E i).row)])) (by kernel_rfl) ?_
      exact hold_stop fun hd hb => leaf_put0 hd (by simp [fitA, nf]) (look_cons hb).1 (look_cons (look_cons hb).2.2).2.1 (look_cons (look_cons (look_cons hb).2.2).2.2).2.1 (by decide) (.inr (.inr (.inl ⟨my, at_c (by assumption) (by unfold at_; omega), by omega, rfl, rfl⟩)))
     refine ok_sk (.stop [0, 1, 2, 7]) (S := .stop (.leaf (.tuple [.int .i64 (0 : Int), .gsl 0 0, .gsl 1 0, .gsl 2 0])) [0, 1, 2, 7] ([bC 0 7 (k + 1) c, (some Blk.dead, none), bS 2 14 q (fun i => (E i).row), bS 7 12 (k + 1) (rowsN (putR R k { m := m, q := q, E := E }))])) (by kernel_rfl) ?_
     exact hold_stop fun hd hb => leaf_put1 (J := 7) hd (by simp [fitA, nf]) (look_cons hb).1 (look_cons (look_cons (look_cons hb).2.2).2.2).2.1 (look_cons (look_cons (look_cons (look_cons hb).2.2).2.2).2.2).2.1 (by decide) (.inr (.inr (.inr ⟨my, at_c (by assumption) (by unfold at_; omega), by omega, rfl, rfl⟩)))
    refine hold_forkD (fun h5 => ?_) (fun h5 => ?_)
    ·
     refine hold_fork (fun h6 => ?_) (fun h6 => ?_)
     ·
      exact hold_stop fun hd hb => leaf_put0 hd (by simp [fitA, nf]) (look_cons hb).1 (look_cons (look_cons hb).2.2).2.1 (look_cons (look_cons (look_cons hb).2.2).2.2).2.1 (by decide) (.inr (.inl ⟨my, at_c (by assumption) (by unfold at_; omega), rfl, rfl⟩))
     refine hold_stop (fun hd hb => ?_)
     refine ok_send hd (asend c R k hk m q E hq) (look_cons hb).1 (look_cons (look_cons (look_cons hb).2.2).2.2).2.1 (look_cons (look_cons hb).2.2).2.1 (by decide) (by kernel_rfl) ?_
     rintro x G (⟨sk, rfl, rfl⟩ | ⟨sk, rfl, rfl⟩)
     ·
      refine ok_sk (.stop [0, 1, 2]) (S := .stop (.leaf (.tuple [.int .i64 (7 : Int), .gsl 0 0, .gsl 1 0, .gsl 2 0])) [0, 1, 2] ([bC 0 1 k c, bS 1 12 k (rowsN R), bS 2 14 q (fun i => (E i).row)])) (by kernel_rfl) ?_
      exact hold_stop fun hd hb => leaf_put0 hd (by simp [fitA, nf]) (look_cons hb).1 (look_cons (look_cons hb).2.2).2.1 (look_cons (look_cons (look_cons hb).2.2).2.2).2.1 (by decide) (.inr (.inr (.inl ⟨my, at_c (by assumption) (by unfold at_; omega), by omega, rfl, rfl⟩)))
     refine ok_sk (.stop [0, 1, 2, 7]) (S := .stop (.leaf (.tuple [.int .i64 (0 : Int), .gsl 0 0, .gsl 1 0, .gsl 2 0])) [0, 1, 2, 7] ([bC 0 7 (k + 1) c, (some Blk.dead, none), bS 2 14 q (fun i => (E i).row), bS 7 12 (k + 1) (rowsN (putR R k { m := m, q := q, E := E }))])) (by kernel_rfl) ?_
     exact hold_stop fun hd hb => leaf_put1 (J := 7) hd (by simp [fitA, nf]) (look_cons hb).1 (look_cons (look_cons (look_cons hb).2.2).2.2).2.1 (look_cons (look_cons (look_cons (look_cons hb).2.2).2.2).2.2).2.1 (by decide) (.inr (.inr (.inr ⟨my, at_c (by assumption) (by unfold at_; omega), by omega, rfl, rfl⟩)))
    refine hzr (fun h6 => by omega) ?_
    refine hold_forkD (fun h6 => ?_) (fun h6 => ?_)
    ·
     refine hold_fork (fun h7 => ?_) (fun h7 => ?_)
     ·
      exact hold_stop fun hd hb => leaf_put0 hd (by simp [fitA, nf]) (look_cons hb).1 (look_cons (look_cons hb).2.2).2.1 (look_cons (look_cons (look_cons hb).2.2).2.2).2.1 (by decide) (.inr (.inl ⟨my, at_c (by assumption) (by unfold at_; omega), rfl, rfl⟩))
     refine hold_stop (fun hd hb => ?_)
     refine ok_send hd (asend c R k hk m q E hq) (look_cons hb).1 (look_cons (look_cons (look_cons hb).2.2).2.2).2.1 (look_cons (look_cons hb).2.2).2.1 (by decide) (by kernel_rfl) ?_
     rintro x G (⟨sk, rfl, rfl⟩ | ⟨sk, rfl, rfl⟩)
     ·
      refine ok_sk (.stop [0, 1, 2]) (S := .stop (.leaf (.tuple [.int .i64 (7 : Int), .gsl 0 0, .gsl 1 0, .gsl 2 0])) [0, 1, 2] ([bC 0 1 k c, bS 1 12 k (rowsN R), bS 2 14 q (fun i => (E i).row)])) (by kernel_rfl) ?_
      exact hold_stop fun hd hb => leaf_put0 hd (by simp [fitA, nf]) (look_cons hb).1 (look_cons (look_cons hb).2.2).2.1 (look_cons (look_cons (look_cons hb).2.2).2.2).2.1 (by decide) (.inr (.inr (.inl ⟨my, at_c (by assumption) (by unfold at_; omega), by omega, rfl, rfl⟩)))
     refine ok_sk (.stop [0, 1, 2, 7]) (S := .stop (.leaf (.tuple [.int .i64 (0 : Int), .gsl 0 0, .gsl 1 0, .gsl 2 0])) [0, 1, 2, 7] ([bC 0 7 (k + 1) c, (some Blk.dead, none), bS 2 14 q (fun i => (E i).row), bS 7 12 (k + 1) (rowsN (putR R k { m := m, q := q, E := E }))])) (by kernel_rfl) ?_
     exact hold_stop fun hd hb => leaf_put1 (J := 7) hd (by simp [fitA, nf]) (look_cons hb).1 (look_cons (look_cons (look_cons hb).2.2).2.2).2.1 (look_cons (look_cons (look_cons (look_cons hb).2.2).2.2).2.2).2.1 (by decide) (.inr (.inr (.inr ⟨my, at_c (by assumption) (by unfold at_; omega), by omega, rfl, rfl⟩)))
    refine hold_forkD (fun h7 => ?_) (fun h7 => ?_)
    ·
     refine hold_fork (fun h8 => ?_) (fun h8 => ?_)
     ·
      exact hold_stop fun hd hb => leaf_put0 hd (by simp [fitA, nf]) (look_cons hb).1 (look_cons (look_cons hb).2.2).2.1 (look_cons (look_cons (look_cons hb).2.2).2.2).2.1 (by decide) (.inr (.inl ⟨my, at_c (by assumption) (by unfold at_; omega), rfl, rfl⟩))
     refine hold_stop (fun hd hb => ?_)
     refine ok_send hd (asend c R k hk m q E hq) (look_cons hb).1 (look_cons (look_cons (look_cons hb).2.2).2.2).2.1 (look_cons (look_cons hb).2.2).2.1 (by decide) (by kernel_rfl) ?_
     rintro x G (⟨sk, rfl, rfl⟩ | ⟨sk, rfl, rfl⟩)
     ·
      refine ok_sk (.stop [0, 1, 2]) (S := .stop (.leaf (.tuple [.int .i64 (7 : Int), .gsl 0 0, .gsl 1 0, .gsl 2 0])) [0, 1, 2] ([bC 0 1 k c, bS 1 12 k (rowsN R), bS 2 14 q (fun i => (E i).row)])) (by kernel_rfl) ?_
      exact hold_stop fun hd hb => leaf_put0 hd (by simp [fitA, nf]) (look_cons hb).1 (look_cons (look_cons hb).2.2).2.1 (look_cons (look_cons (look_cons hb).2.2).2.2).2.1 (by decide) (.inr (.inr (.inl ⟨my, at_c (by assumption) (by unfold at_; omega), by omega, rfl, rfl⟩)))
     refine ok_sk (.stop [0, 1, 2, 7]) (S := .stop (.leaf (.tuple [.int .i64 (0 : Int), .gsl 0 0, .gsl 1 0, .gsl 2 0])) [0, 1, 2, 7] ([bC 0 7 (k + 1) c, (some Blk.dead, none), bS 2 14 q (fun i => (E i).row), bS 7 12 (k + 1) (rowsN (putR R k { m := m, q := q, E := E }))])) (by kernel_rfl) ?_
     exact hold_stop fun hd hb => leaf_put1 (J := 7) hd (by simp [fitA, nf]) (look_cons hb).1 (look_cons (look_cons (look_cons hb).2.2).2.2).2.1 (look_cons (look_cons (look_cons (look_cons hb).2.2).2.2).2.2).2.1 (by decide) (.inr (.inr (.inr ⟨my, at_c (by assumption) (by unfold at_; omega), by omega, rfl, rfl⟩)))
    refine hl (bc fun h8 => by omega) ?_
    refine hold_fork (fun h8 => ?_) (fun h8 => ?_)
    ·
     exact hold_stop fun hd hb => leaf_put0 hd (by simp [fitA, nf]) (look_cons hb).1 (look_cons (look_cons hb).2.2).2.1 (look_cons (look_cons (look_cons hb).2.2).2.2).2.1 (by decide) (.inr (.inl ⟨my, at_c (by assumption) (by unfold at_; omega), rfl, rfl⟩))
    refine hold_stop (fun hd hb => ?_)
    refine ok_send hd (asend c R k hk m q E hq) (look_cons hb).1 (look_cons (look_cons (look_cons hb).2.2).2.2).2.1 (look_cons (look_cons hb).2.2).2.1 (by decide) (by kernel_rfl) ?_
    rintro x G (⟨sk, rfl, rfl⟩ | ⟨sk, rfl, rfl⟩)
    ·
     refine ok_sk (.stop [0, 1, 2]) (S := .stop (.leaf (.tuple [.int .i64 (7 : Int), .gsl 0 0, .gsl 1 0, .gsl 2 0])) [0, 1, 2] ([bC 0 1 k c, bS 1 12 k (rowsN R), bS 2 14 q (fun i => (E i).row)])) (by kernel_rfl) ?_
     exact hold_stop fun hd hb => leaf_put0 hd (by simp [fitA, nf]) (look_cons hb).1 (look_cons (look_cons hb).2.2).2.1 (look_cons (look_cons (look_cons hb).2.2).2.2).2.1 (by decide) (.inr (.inr (.inl ⟨my, at_c (by assumption) (by unfold at_; omega), by omega, rfl, rfl⟩)))
    refine ok_sk (.stop [0, 1, 2, 7]) (S := .stop (.leaf (.tuple [.int .i64 (0 : Int), .gsl 0 0, .gsl 1 0, .gsl 2 0])) [0, 1, 2, 7] ([bC 0 7 (k + 1) c, (some Blk.dead, none), bS 2 14 q (fun i => (E i).row), bS 7 12 (k + 1) (rowsN (putR R k { m := m, q := q, E := E }))])) (by kernel_rfl) ?_
    exact hold_stop fun hd hb => leaf_put1 (J := 7) hd (by simp [fitA, nf]) (look_cons hb).1 (look_cons (look_cons (look_cons hb).2.2).2.2).2.1 (look_cons (look_cons (look_cons (look_cons hb).2.2).2.2).2.2).2.1 (by decide) (.inr (.inr (.inr ⟨my, at_c (by assumption) (by unfold at_; omega), by omega, rfl, rfl⟩)))
   refine hold_forkD (fun h4 => ?_) (fun h4 => ?_)
   ·
    refine hold_forkD (fun h5 => ?_) (fun h5 => ?_)
    ·
     refine hold_fork (fun h6 => ?_) (fun h6 => ?_)
     ·
      exact hold_stop fun hd hb => leaf_put0 hd (by simp [fitA, nf]) (look_cons hb).1 (look_cons (look_cons hb).2.2).2.1 (look_cons (look_cons (look_cons hb).2.2).2.2).2.1 (by decide) (.inr (.inl ⟨my, at_c (by assumption) (by unfold at_; omega), rfl, rfl⟩))
     refine hold_stop (fun hd hb => ?_)
     refine ok_send hd (asend c R k hk m q E hq) (look_cons hb).1 (look_cons (look_cons (look_cons hb).2.2).2.2).2.1 (look_cons (look_cons hb).2.2).2.1 (by decide) (by kernel_rfl) ?_
     rintro x G (⟨sk, rfl, rfl⟩ | ⟨sk, rfl, rfl⟩)
     ·
      refine ok_sk (.stop [0, 1, 2]) (S := .stop (.leaf (.tuple [.int .i64 (7 : Int), .gsl 0 0, .gsl 1 0, .gsl 2 0])) [0, 1, 2] ([bC 0 1 k c, bS 1 12 k (rowsN R), bS 2 14 q (fun i => (E i).row)])) (by kernel_rfl) ?_
      exact hold_stop fun hd hb => leaf_put0 hd (by simp [fitA, nf]) (look_cons hb).1 (look_cons (look_cons hb).2.2).2.1 (look_cons (look_cons (look_cons hb).2.2).2.2).2.1 (by decide) (.inr (.inr (.inl ⟨my, at_c (by assumption) (by unfold at_; omega), by omega, rfl, rfl⟩)))
     refine ok_sk (.stop [0, 1, 2, 7]) (S := .stop (.leaf (.tuple [.int .i64 (0 : Int), .gsl 0 0, .gsl 1 0, .gsl 2 0])) [0, 1, 2, 7] ([bC 0 7 (k + 1) c, (some Blk.dead, none), bS 2 14 q (fun i => (E i).row), bS 7 12 (k + 1) (rowsN (putR R k { m := m, q := q, E := E }))])) (by kernel_rfl) ?_
     exact hold_stop fun hd hb => leaf_put1 (J := 7) hd (by simp [fitA, nf]) (look_cons hb).1 (look_cons (look_cons (look_cons hb).2.2).2.2).2.1 (look_cons (look_cons (look_cons (look_cons hb).2.2).2.2).2.2).2.1 (by decide) (.inr (.inr (.inr ⟨my, at_c (by assumption) (by unfold at_; omega), by omega, rfl, rfl⟩)))
    refine hold_forkD (fun h6 => ?_) (fun h6 => ?_)
    ·
     refine hold_fork (fun h7 => ?_) (fun h7 => ?_)
     ·
      exact hold_stop fun hd hb => leaf_put0 hd (by simp [fitA, nf]) (look_cons hb).1 (look_cons (look_cons hb).2.2).2.1 (look_cons (look_cons (look_cons hb).2.2).2.2).2.1 (by decide) (.inr (.inl ⟨my, at_c (by assumption) (by unfold at_; omega), rfl, rfl⟩))
     refine hold_stop (fun hd hb => ?_)
     refine ok_send hd (asend c R k hk m q E hq) (look_cons hb).1 (look_cons (look_cons (look_cons hb).2.2).2.2).2.1 (look_cons (look_cons hb).2.2).2.1 (by decide) (by kernel_rfl) ?_
     rintro x G (⟨sk, rfl, rfl⟩ | ⟨sk, rfl, rfl⟩)
     ·
      refine ok_sk (.stop [0, 1, 2]) (S := .stop (.leaf (.tuple [.int .i64 (7 : Int), .gsl 0 0, .gsl 1 0, .gsl 2 0])) [0, 1, 2] ([bC 0 1 k c, bS 1 12 k (rowsN R), bS 2 14 q (fun i => (E i).row)])) (by kernel_rfl) ?_
      exact hold_stop fun hd hb => leaf_put0 hd (by simp [fitA, nf]) (look_cons hb).1 (look_cons (look_cons hb).2.2).2.1 (look_cons (look_cons (look_cons hb).2.2).2.2).2.1 (by decide) (.inr (.inr (.inl ⟨my, at_c (by assumption) (by unfold at_; omega), by omega, rfl, rfl⟩)))
     refine ok_sk (.stop [0, 1, 2, 7]) (S := .stop (.leaf (.tuple [.int .i64 (0 : Int), .gsl 0 0, .gsl 1 0, .gsl 2 0])) [0, 1, 2, 7] ([bC 0 7 (k + 1) c, (some Blk.dead, none), bS 2 14 q (fun i => (E i).row), bS 7 12 (k + 1) (rowsN (putR R k { m := m, q := q, E := E }))])) (by kernel_rfl) ?_
     exact hold_stop fun hd hb => leaf_put1 (J := 7) hd (by simp [fitA, nf]) (look_cons hb).1 (look_cons (look_cons (look_cons hb).2.2).2.2).2.1 (look_cons (look_cons (look_cons (look_cons hb).2.2).2.2).2.2).2.1 (by decide) (.inr (.inr (.inr ⟨my, at_c (by assumption) (by unfold at_; omega), by omega, rfl, rfl⟩)))
    refine hold_forkD (fun h7 => ?_) (fun h7 => ?_)
    ·
     refine hold_fork (fun h8 => ?_) (fun h8 => ?_)
     ·
      exact hold_stop fun hd hb => leaf_put0 hd (by simp [fitA, nf]) (look_cons hb).1 (look_cons (look_cons hb).2.2).2.1 (look_cons (look_cons (look_cons hb).2.2).2.2).2.1 (by decide) (.inr (.inl ⟨my, at_c (by assumption) (by unfold at_; omega), rfl, rfl⟩))
     refine hold_stop (fun hd hb => ?_)
     refine ok_send hd (asend c R k hk m q E hq) (look_cons hb).1 (look_cons (look_cons (look_cons hb).2.2).2.2).2.1 (look_cons (look_cons hb).2.2).2.1 (by decide) (by kernel_rfl) ?_
     rintro x G (⟨sk, rfl, rfl⟩ | ⟨sk, rfl, rfl⟩)
     ·
      refine ok_sk (.stop [0, 1, 2]) (S := .stop (.leaf (.tuple [.int .i64 (7 : Int), .gsl 0 0, .gsl 1 0, .gsl 2 0])) [0, 1, 2] ([bC 0 1 k c, bS 1 12 k (rowsN R), bS 2 14 q (fun i => (E i).row)])) (by kernel_rfl) ?_
      exact hold_stop fun hd hb => leaf_put0 hd (by simp [fitA, nf]) (look_cons hb).1 (look_cons (look_cons hb).2.2).2.1 (look_cons (look_cons (look_cons hb).2.2).2.2).2.1 (by decide) (.inr (.inr (.inl ⟨my, at_c (by assumption) (by unfold at_; omega), by omega, rfl, rfl⟩)))
     refine ok_sk (.stop [0, 1, 2, 7]) (S := .stop (.leaf (.tuple [.int .i64 (0 : Int), .gsl 0 0, .gsl 1 0, .gsl 2 0])) [0, 1, 2, 7] ([bC 0 7 (k + 1) c, (some Blk.dead, none), bS 2 14 q (fun i => (E i).row), bS 7 12 (k + 1) (rowsN (putR R k { m := m, q := q, E := E }))])) (by kernel_rfl) ?_
     exact hold_stop fun hd hb => leaf_put1 (J := 7) hd (by simp [fitA, nf]) (look_cons hb).1 (look_cons (look_cons (look_cons hb).2.2).2.2).2.1 (look_cons (look_cons (look_cons (look_cons hb).2.2).2.2).2.2).2.1 (by decide) (.inr (.inr (.inr ⟨my, at_c (by assumption) (by unfold at_; omega), by omega, rfl, rfl⟩)))
    refine hzr (fun h8 => by omega) ?_
    refine hold_forkD (fun h8 => ?_) (fun h8 => ?_)
    ·
     refine hold_fork (fun h9 => ?_) (fun h9 => ?_)
     ·
      exact hold_stop fun hd hb => leaf_put0 hd (by simp [fitA, nf]) (look_cons hb).1 (look_cons (look_cons hb).2.2).2.1 (look_cons (look_cons (look_cons hb).2.2).2.2).2.1 (by decide) (.inr (.inl ⟨my, at_c (by assumption) (by unfold at_; omega), rfl, rfl⟩))
     refine hold_stop (fun hd hb => ?_)
     refine ok_send hd (asend c R k hk m q E hq) (look_cons hb).1 (look_cons (look_cons (look_cons hb).2.2).2.2).2.1 (look_cons (look_cons hb).2.2).2.1 (by decide) (by kernel_rfl) ?_
     rintro x G (⟨sk, rfl, rfl⟩ | ⟨sk, rfl, rfl⟩)
     ·
      refine ok_sk (.stop [0, 1, 2]) (S := .stop (.leaf (.tuple [.int .i64 (7 : Int), .gsl 0 0, .gsl 1 0, .gsl 2 0])) [0, 1, 2] ([bC 0 1 k c, bS 1 12 k (rowsN R), bS 2 14 q (fun i => (E i).row)])) (by kernel_rfl) ?_
      exact hold_stop fun hd hb => leaf_put0 hd (by simp [fitA, nf]) (look_cons hb).1 (look_cons (look_cons hb).2.2).2.1 (look_cons (look_cons (look_cons hb).2.2).2.2).2.1 (by decide) (.inr (.inr (.inl ⟨my, at_c (by assumption) (by unfold at_; omega), by omega, rfl, rfl⟩)))
     refine ok_sk (.stop [0, 1, 2, 7]) (S := .stop (.leaf (.tuple [.int .i64 (0 : Int), .gsl 0 0, .gsl 1 0, .gsl 2 0])) [0, 1, 2, 7] ([bC 0 7 (k + 1) c, (some Blk.dead, none), bS 2 14 q (fun i => (E i).row), bS 7 12 (k + 1) (rowsN (putR R k { m := m, q := q, E := E }))])) (by kernel_rfl) ?_
     exact hold_stop fun hd hb => leaf_put1 (J := 7) hd (by simp [fitA, nf]) (look_cons hb).1 (look_cons (look_cons (look_cons hb).2.2).2.2).2.1 (look_cons (look_cons (look_cons (look_cons hb).2.2).2.2).2.2).2.1 (by decide) (.inr (.inr (.inr ⟨my, at_c (by assumption) (by unfold at_; omega), by omega, rfl, rfl⟩)))
    refine hl (bc fun h9 => by omega) ?_
    refine hold_fork (fun h9 => ?_) (fun h9 => ?_)
    ·
     exact hold_stop fun hd hb => leaf_put0 hd (by simp [fitA, nf]) (look_cons hb).1 (look_cons (look_cons hb).2.2).2.1 (look_cons (look_cons (look_cons hb).2.2).2.2).2.1 (by decide) (.inr (.inl ⟨my, at_c (by assumption) (by unfold at_; omega), rfl, rfl⟩))
    refine hold_stop (fun hd hb => ?_)
    refine ok_send hd (asend c R k hk m q E hq) (look_cons hb).1 (look_cons (look_cons (look_cons hb).2.2).2.2).2.1 (look_cons (look_cons hb).2.2).2.1 (by decide) (by kernel_rfl) ?_
    rintro x G (⟨sk, rfl, rfl⟩ | ⟨sk, rfl, rfl⟩)
    ·
     refine ok_sk (.stop [0, 1, 2]) (S := .stop (.leaf (.tuple [.int .i64 (7 : Int), .gsl 0 0, .gsl 1 0, .gsl 2 0])) [0, 1, 2] ([bC 0 1 k c, bS 1 12 k (rowsN R), bS 2 14 q (fun i => (E i).row)])) (by kernel_rfl) ?_
     exact hold_stop fun hd hb => leaf_put0 hd (by simp [fitA, nf]) (look_cons hb).1 (look_cons (look_cons hb).2.2).2.1 (look_cons (look_cons (look_cons hb).2.2).2.2).2.1 (by decide) (.inr (.inr (.inl ⟨my, at_c (by assumption) (by unfold at_; omega), by omega, rfl, rfl⟩)))
    refine ok_sk (.stop [0, 1, 2, 7]) (S := .stop (.leaf (.tuple [.int .i64 (0 : Int), .gsl 0 0, .gsl 1 0, .gsl 2 0])) [0, 1, 2, 7] ([bC 0 7 (k + 1) c, (some Blk.dead, none), bS 2 14 q (fun i => (E i).row), bS 7 12 (k + 1) (rowsN (putR R k { m := m, q := q, E := E }))])) (by kernel_rfl) ?_
    exact hold_stop fun hd hb => leaf_put1 (J := 7) hd (by simp [fitA, nf]) (look_cons hb).1 (look_cons (look_cons (look_cons hb).2.2).2.2).2.1 (look_cons (look_cons (look_cons (look_cons hb).2.2).2.2).2.2).2.1 (by decide) (.inr (.inr (.inr ⟨my, at_c (by assumption) (by unfold at_; omega), by omega, rfl, rfl⟩)))
   refine hold_forkD (fun h5 => ?_) (fun h5 => ?_)
   ·
    refine hold_forkD (fun h6 => ?_) (fun h6 => ?_)
    ·
     refine hold_fork (fun h7 => ?_) (fun h7 => ?_)
     ·
      exact hold_stop fun hd hb => leaf_put0 hd (by simp [fitA, nf]) (look_cons hb).1 (look_cons (look_cons hb).2.2).2.1 (look_cons (look_cons (look_cons hb).2.2).2.2).2.1 (by decide) (.inr (.inl ⟨my, at_c (by assumption) (by unfold at_; omega), rfl, rfl⟩))
     refine hold_stop (fun hd hb => ?_)
     refine ok_send hd (asend c R k hk m q E hq) (look_cons hb).1 (look_cons (look_cons (look_cons hb).2.2).2.2).2.1 (look_cons (look_cons hb).2.2).2.1 (by decide) (by kernel_rfl) ?_
     rintro x G (⟨sk, rfl, rfl⟩ | ⟨sk, rfl, rfl⟩)
     ·
      refine ok_sk (.stop [0, 1, 2]) (S := .stop (.leaf (.tuple [.int .i64 (7 : Int), .gsl 0 0, .gsl 1 0, .gsl 2 0])) [0, 1, 2] ([bC 0 1 k c, bS 1 12 k (rowsN R), bS 2 14 q (fun i => (E i).row)])) (by kernel_rfl) ?_
      exact hold_stop fun hd hb => leaf_put0 hd (by simp [fitA, nf]) (look_cons hb).1 (look_cons (look_cons hb).2.2).2.1 (look_cons (look_cons (look_cons hb).2.2).2.2).2.1 (by decide) (.inr (.inr (.inl ⟨my, at_c (by assumption) (by unfold at_; omega), by omega, rfl, rfl⟩)))
     refine ok_sk (.stop [0, 1, 2, 7]) (S := .stop (.leaf (.tuple [.int .i64 (0 : Int), .gsl 0 0, .gsl 1 0, .gsl 2 0])) [0, 1, 2, 7] ([bC 0 7 (k + 1) c, (some Blk.dead, none), bS 2 14 q (fun i => (E i).row), bS 7 12 (k + 1) (rowsN (putR R k { m := m, q := q, E := E }))])) (by kernel_rfl) ?_
     exact hold_stop fun hd hb => leaf_put1 (J := 7) hd (by simp [fitA, nf]) (look_cons hb).1 (look_cons (look_cons (look_cons hb).2.2).2.2).2.1 (look_cons (look_cons (look_cons (look_cons hb).2.2).2.2).2.2).2.1 (by decide) (.inr (.inr (.inr ⟨my, at_c (by assumption) (by unfold at_; omega), by omega, rfl, rfl⟩)))
    refine hold_forkD (fun h7 => ?_) (fun h7 => ?_)
    ·
     refine hold_fork (fun h8 => ?_) (fun h8 => ?_)
     ·
      exact hold_stop fun hd hb => leaf_put0 hd (by simp [fitA, nf]) (look_cons hb).1 (look_cons (look_cons hb).2.2).2.1 (look_cons (look_cons (look_cons hb).2.2).2.2).2.1 (by decide) (.inr (.inl ⟨my, at_c (by assumption) (by unfold at_; omega), rfl, rfl⟩))
     refine hold_stop (fun hd hb => ?_)
     refine ok_send hd (asend c R k hk m q E hq) (look_cons hb).1 (look_cons (look_cons (look_cons hb).2.2).2.2).2.1 (look_cons (look_cons hb).2.2).2.1 (by decide) (by kernel_rfl) ?_
     rintro x G (⟨sk, rfl, rfl⟩ | ⟨sk, rfl, rfl⟩)
     ·
      refine ok_sk (.stop [0, 1, 2]) (S := .stop (.leaf (.tuple [.int .i64 (7 : Int), .gsl 0 0, .gsl 1 0, .gsl 2 0])) [0, 1, 2] ([bC 0 1 k c, bS 1 12 k (rowsN R), bS 2 14 q (fun i => (E i).row)])) (by kernel_rfl) ?_
      exact hold_stop fun hd hb => leaf_put0 hd (by simp [fitA, nf]) (look_cons hb).1 (look_cons (look_cons hb).2.2).2.1 (look_cons (look_cons (look_cons hb).2.2).2.2).2.1 (by decide) (.inr (.inr (.inl ⟨my, at_c (by assumption) (by unfold at_; omega), by omega, rfl, rfl⟩)))
     refine ok_sk (.stop [0, 1, 2, 7]) (S := .stop (.leaf (.tuple [.int .i64 (0 : Int), .gsl 0 0, .gsl 1 0, .gsl 2 0])) [0, 1, 2, 7] ([bC 0 7 (k + 1) c, (some Blk.dead, none), bS 2 14 q (fun i => (E i).row), bS 7 12 (k + 1) (rowsN (putR R k { m := m, q := q, E := E }))])) (by kernel_rfl) ?_
     exact hold_stop fun hd hb => leaf_put1 (J := 7) hd (by simp [fitA, nf]) (look_cons hb).1 (look_cons (look_cons (look_cons hb).2.2).2.2).2.1 (look_cons (look_cons (look_cons (look_cons hb).2.2).2.2).2.2).2.1 (by decide) (.inr (.inr (.inr ⟨my, at_c (by assumption) (by unfold at_; omega), by omega, rfl, rfl⟩)))
    refine hold_forkD (fun h8 => ?_) (fun h8 => ?_)
    ·
     refine hold_fork (fun h9 => ?_) (fun h9 => ?_)
     ·
      exact hold_stop fun hd hb => leaf_put0 hd (by simp [fitA, nf]) (look_cons hb).1 (look_cons (look_cons hb).2.2).2.1 (look_cons (look_cons (look_cons hb).2.2).2.2).2.1 (by decide) (.inr (.inl ⟨my, at_c (by assumption) (by unfold at_; omega), rfl, rfl⟩))
     refine hold_stop (fun hd hb => ?_)
     refine ok_send hd (asend c R k hk m q E hq) (look_cons hb).1 (look_cons (look_cons (look_cons hb).2.2).2.2).2.1 (look_cons (look_cons hb).2.2).2.1 (by decide) (by kernel_rfl) ?_
     rintro x G (⟨sk, rfl, rfl⟩ | ⟨sk, rfl, rfl⟩)
     ·
      refine ok_sk (.stop [0, 1, 2]) (S := .stop (.leaf (.tuple [.int .i64 (7 : Int), .gsl 0 0, .gsl 1 0, .gsl 2 0])) [0, 1, 2] ([bC 0 1 k c, bS 1 12 k (rowsN R), bS 2 14 q (fun i => (E i).row)])) (by kernel_rfl) ?_
      exact hold_stop fun hd hb => leaf_put0 hd (by simp [fitA, nf]) (look_cons hb).1 (look_cons (look_cons hb).2.2).2.1 (look_cons (look_cons (look_cons hb).2.2).2.2).2.1 (by decide) (.inr (.inr (.inl ⟨my, at_c (by assumption) (by unfold at_; omega), by omega, rfl, rfl⟩)))
     refine ok_sk (.stop [0, 1, 2, 7]) (S := .stop (.leaf (.tuple [.int .i64 (0 : Int), .gsl 0 0, .gsl 1 0, .gsl 2 0])) [0, 1, 2, 7] ([bC 0 7 (k + 1) c, (some Blk.dead, none), bS 2 14 q (fun i => (E i).row), bS 7 12 (k + 1) (rowsN (putR R k { m := m, q := q, E := E }))])) (by kernel_rfl) ?_
     exact hold_stop fun hd hb => leaf_put1 (J := 7) hd (by simp [fitA, nf]) (look_cons hb).1 (look_cons (look_cons (look_cons hb).2.2).2.2).2.1 (look_cons (look_cons (look_cons (look_cons hb).2.2).2.2).2.2).2.1 (by decide) (.inr (.inr (.inr ⟨my, at_c (by assumption) (by unfold at_; omega), by omega, rfl, rfl⟩)))
    refine hold_forkD (fun h9 => ?_) (fun h9 => ?_)
    ·
     refine hold_fork (fun h10 => ?_) (fun h10 => ?_)
     ·
      exact hold_stop fun hd hb => leaf_put0 hd (by simp [fitA, nf]) (look_cons hb).1 (look_cons (look_cons hb).2.2).2.1 (look_cons (look_cons (look_cons hb).2.2).2.2).2.1 (by decide) (.inr (.inl ⟨my, at_c (by assumption) (by unfold at_; omega), rfl, rfl⟩))
     refine hold_stop (fun hd hb => ?_)
     refine ok_send hd (asend c R k hk m q E hq) (look_cons hb).1 (look_cons (look_cons (look_cons hb).2.2).2.2).2.1 (look_cons (look_cons hb).2.2).2.1 (by decide) (by kernel_rfl) ?_
     rintro x G (⟨sk, rfl, rfl⟩ | ⟨sk, rfl, rfl⟩)
     ·
      refine ok_sk (.stop [0, 1, 2]) (S := .stop (.leaf (.tuple [.int .i64 (7 : Int), .gsl 0 0, .gsl 1 0, .gsl 2 0])) [0, 1, 2] ([bC 0 1 k c, bS 1 12 k (rowsN R), bS 2 14 q (fun i => (E i).row)])) (by kernel_rfl) ?_
      exact hold_stop fun hd hb => leaf_put0 hd (by simp [fitA, nf]) (look_cons hb).1 (look_cons (look_cons hb).2.2).2.1 (look_cons (look_cons (look_cons hb).2.2).2.2).2.1 (by decide) (.inr (.inr (.inl ⟨my, at_c (by assumption) (by unfold at_; omega), by omega, rfl, rfl⟩)))
     refine ok_sk (.stop [0, 1, 2, 7]) (S := .stop (.leaf (.tuple [.int .i64 (0 : Int), .gsl 0 0, .gsl 1 0, .gsl 2 0])) [0, 1, 2, 7] ([bC 0 7 (k + 1) c, (some Blk.dead, none), bS 2 14 q (fun i => (E i).row), bS 7 12 (k + 1) (rowsN (putR R k { m := m, q := q, E := E }))])) (by kernel_rfl) ?_
     exact hold_stop fun hd hb => leaf_put1 (J := 7) hd (by simp [fitA, nf]) (look_cons hb).1 (look_cons (look_cons (look_cons hb).2.2).2.2).2.1 (look_cons (look_cons (look_cons (look_cons hb).2.2).2.2).2.2).2.1 (by decide) (.inr (.inr (.inr ⟨my, at_c (by assumption) (by unfold at_; omega), by omega, rfl, rfl⟩)))
    refine hzr (fun h10 => by omega) ?_
    refine hl (bc fun h10 => by omega) ?_
    refine hold_fork (fun h10 => ?_) (fun h10 => ?_)
    ·
     exact hold_stop fun hd hb => leaf_put0 hd (by simp [fitA, nf]) (look_cons hb).1 (look_cons (look_cons hb).2.2).2.1 (look_cons (look_cons (look_cons hb).2.2).2.2).2.1 (by decide) (.inr (.inl ⟨my, at_c (by assumption) (by unfold at_; omega), rfl, rfl⟩))
    refine hold_stop (fun hd hb => ?_)
    refine ok_send hd (asend c R k hk m q E hq) (look_cons hb).1 (look_cons (look_cons (look_cons hb).2.2).2.2).2.1 (look_cons (look_cons hb).2.2).2.1 (by decide) (by kernel_rfl) ?_
    rintro x G (⟨sk, rfl, rfl⟩ | ⟨sk, rfl, rfl⟩)
    ·
     refine ok_sk (.stop [0, 1, 2]) (S := .stop (.leaf (.tuple [.int .i64 (7 : Int), .gsl 0 0, .gsl 1 0, .gsl 2 0])) [0, 1, 2] ([bC 0 1 k c, bS 1 12 k (rowsN R), bS 2 14 q (fun i => (E i).row)])) (by kernel_rfl) ?_
     exact hold_stop fun hd hb => leaf_put0 hd (by simp [fitA, nf]) (look_cons hb).1 (look_cons (look_cons hb).2.2).2.1 (look_cons (look_cons (look_cons hb).2.2).2.2).2.1 (by decide) (.inr (.inr (.inl ⟨my, at_c (by assumption) (by unfold at_; omega), by omega, rfl, rfl⟩)))
    refine ok_sk (.stop [0, 1, 2, 7]) (S := .stop (.leaf (.tuple [.int .i64 (0 : Int), .gsl 0 0, .gsl 1 0, .gsl 2 0])) [0, 1, 2, 7] ([bC 0 7 (k + 1) c, (some Blk.dead, none), bS 2 14 q (fun i => (E i).row), bS 7 12 (k + 1) (rowsN (putR R k { m := m, q := q, E := E }))])) (by kernel_rfl) ?_
    exact hold_stop fun hd hb => leaf_put1 (J := 7) hd (by simp [fitA, nf]) (look_cons hb).1 (look_cons (look_cons (look_cons hb).2.2).2.2).2.1 (look_cons (look_cons (look_cons (look_cons hb).2.2).2.2).2.2).2.1 (by decide) (.inr (.inr (.inr ⟨my, at_c (by assumption) (by unfold at_; omega), by omega, rfl, rfl⟩)))
   refine hl (bc fun h6 => by omega) ?_
   refine hold_forkD (fun h6 => ?_) (fun h6 => ?_)
   ·
    refine hold_fork (fun h7 => ?_) (fun h7 => ?_)
    ·
     exact hold_stop fun hd hb => leaf_put0 hd (by simp [fitA, nf]) (look_cons hb).1 (look_cons (look_cons hb).2.2).2.1 (look_cons (look_cons (look_cons hb).2.2).2.2).2.1 (by decide) (.inr (.inl ⟨my, at_c (by assumption) (by unfold at_; omega), rfl, rfl⟩))
    refine hold_stop (fun hd hb => ?_)
    refine ok_send hd (asend c R k hk m q E hq) (look_cons hb).1 (look_cons (look_cons (look_cons hb).2.2).2.2).2.1 (look_cons (look_cons hb).2.2).2.1 (by decide) (by kernel_rfl) ?_
    rintro x G (⟨sk, rfl, rfl⟩ | ⟨sk, rfl, rfl⟩)
    ·
     refine ok_sk (.stop [0, 1, 2]) (S := .stop (.leaf (.tuple [.int .i64 (7 : Int), .gsl 0 0, .gsl 1 0, .gsl 2 0])) [0, 1, 2] ([bC 0 1 k c, bS 1 12 k (rowsN R), bS 2 14 q (fun i => (E i).row)])) (by kernel_rfl) ?_
     exact hold_stop fun hd hb => leaf_put0 hd (by simp [fitA, nf]) (look_cons hb).1 (look_cons (look_cons hb).2.2).2.1 (look_cons (look_cons (look_cons hb).2.2).2.2).2.1 (by decide) (.inr (.inr (.inl ⟨my, at_c (by assumption) (by unfold at_; omega), by omega, rfl, rfl⟩)))
    refine ok_sk (.stop [0, 1, 2, 7]) (S := .stop (.leaf (.tuple [.int .i64 (0 : Int), .gsl 0 0, .gsl 1 0, .gsl 2 0])) [0, 1, 2, 7] ([bC 0 7 (k + 1) c, (some Blk.dead, none), bS 2 14 q (fun i => (E i).row), bS 7 12 (k + 1) (rowsN (putR R k { m := m, q := q, E := E }))])) (by kernel_rfl) ?_
    exact hold_stop fun hd hb => leaf_put1 (J := 7) hd (by simp [fitA, nf]) (look_cons hb).1 (look_cons (look_cons (look_cons hb).2.2).2.2).2.1 (look_cons (look_cons (look_cons (look_cons hb).2.2).2.2).2.2).2.1 (by decide) (.inr (.inr (.inr ⟨my, at_c (by assumption) (by unfold at_; omega), by omega, rfl, rfl⟩)))
   refine hold_forkD (fun h7 => ?_) (fun h7 => ?_)
   ·
    refine hold_fork (fun h8 => ?_) (fun h8 => ?_)
    ·
     exact hold_stop fun hd hb => leaf_put0 hd (by simp [fitA, nf]) (look_cons hb).1 (look_cons (look_cons hb).2.2).2.1 (look_cons (look_cons (look_cons hb).2.2).2.2).2.1 (by decide) (.inr (.inl ⟨my, at_c (by assumption) (by unfold at_; omega), rfl, rfl⟩))
    refine hold_stop (fun hd hb => ?_)
    refine ok_send hd (asend c R k hk m q E hq) (look_cons hb).1 (look_cons (look_cons (look_cons hb).2.2).2.2).2.1 (look_cons (look_cons hb).2.2).2.1 (by decide) (by kernel_rfl) ?_
    rintro x G (⟨sk, rfl, rfl⟩ | ⟨sk, rfl, rfl⟩)
    ·
     refine ok_sk (.stop [0, 1, 2]) (S := .stop (.leaf (.tuple [.int .i64 (7 : Int), .gsl 0 0, .gsl 1 0, .gsl 2 0])) [0, 1, 2] ([bC 0 1 k c, bS 1 12 k (rowsN R), bS 2 14 q (fun i => (E i).row)])) (by kernel_rfl) ?_
     exact hold_stop fun hd hb => leaf_put0 hd (by simp [fitA, nf]) (look_cons hb).1 (look_cons (look_cons hb).2.2).2.1 (look_cons (look_cons (look_cons hb).2.2).2.2).2.1 (by decide) (.inr (.inr (.inl ⟨my, at_c (by assumption) (by unfold at_; omega), by omega, rfl, rfl⟩)))
    refine ok_sk (.stop [0, 1, 2, 7]) (S := .stop (.leaf (.tuple [.int .i64 (0 : Int), .gsl 0 0, .gsl 1 0, .gsl 2 0])) [0, 1, 2, 7] ([bC 0 7 (k + 1) c, (some Blk.dead, none), bS 2 14 q (fun i => (E i).row), bS 7 12 (k + 1) (rowsN (putR R k { m := m, q := q, E := E }))])) (by kernel_rfl) ?_
    exact hold_stop fun hd hb => leaf_put1 (J := 7) hd (by simp [fitA, nf]) (look_cons hb).1 (look_cons (look_cons (look_cons hb).2.2).2.2).2.1 (look_cons (look_cons (look_cons (look_cons hb).2.2).2.2).2.2).2.1 (by decide) (.inr (.inr (.inr ⟨my, at_c (by assumption) (by unfold at_; omega), by omega, rfl, rfl⟩)))
   refine hold_forkD (fun h8 => ?_) (fun h8 => ?_)
   ·
    refine hold_fork (fun h9 => ?_) (fun h9 => ?_)
    ·
     exact hold_stop fun hd hb => leaf_put0 hd (by simp [fitA, nf]) (look_cons hb).1 (look_cons (look_cons hb).2.2).2.1 (look_cons (look_cons (look_cons hb).2.2).2.2).2.1 (by decide) (.inr (.inl ⟨my, at_c (by assumption) (by unfold at_; omega), rfl, rfl⟩))
    refine hold_stop (fun hd hb => ?_)
    refine ok_send hd (asend c R k hk m q E hq) (look_cons hb).1 (look_cons (look_cons (look_cons hb).2.2).2.2).2.1 (look_cons (look_cons hb).2.2).2.1 (by decide) (by kernel_rfl) ?_
    rintro x G (⟨sk, rfl, rfl⟩ | ⟨sk, rfl, rfl⟩)
    ·
     refine ok_sk (.stop [0, 1, 2]) (S := .stop (.leaf (.tuple [.int .i64 (7 : Int), .gsl 0 0, .gsl 1 0, .gsl 2 0])) [0, 1, 2] ([bC 0 1 k c, bS 1 12 k (rowsN R), bS 2 14 q (fun i => (E i).row)])) (by kernel_rfl) ?_
     exact hold_stop fun hd hb => leaf_put0 hd (by simp [fitA, nf]) (look_cons hb).1 (look_cons (look_cons hb).2.2).2.1 (look_cons (look_cons (look_cons hb).2.2).2.2).2.1 (by decide) (.inr (.inr (.inl ⟨my, at_c (by assumption) (by unfold at_; omega), by omega, rfl, rfl⟩)))
    refine ok_sk (.stop [0, 1, 2, 7]) (S := .stop (.leaf (.tuple [.int .i64 (0 : Int), .gsl 0 0, .gsl 1 0, .gsl 2 0])) [0, 1, 2, 7] ([bC 0 7 (k + 1) c, (some Blk.dead, none), bS 2 14 q (fun i => (E i).row), bS 7 12 (k + 1) (rowsN (putR R k { m := m, q := q, E := E }))])) (by kernel_rfl) ?_
    exact hold_stop fun hd hb => leaf_put1 (J := 7) hd (by simp [fitA, nf]) (look_cons hb).1 (look_cons (look_cons (look_cons hb).2.2).2.2).2.1 (look_cons (look_cons (look_cons (look_cons hb).2.2).2.2).2.2).2.1 (by decide) (.inr (.inr (.inr ⟨my, at_c (by assumption) (by unfold at_; omega), by omega, rfl, rfl⟩)))
   refine hold_forkD (fun h9 => ?_) (fun h9 => ?_)
   ·
    refine hold_fork (fun h10 => ?_) (fun h10 => ?_)
    ·
     exact hold_stop fun hd hb => leaf_put0 hd (by simp [fitA, nf]) (look_cons hb).1 (look_cons (look_cons hb).2.2).2.1 (look_cons (look_cons (look_cons hb).2.2).2.2).2.1 (by decide) (.inr (.inl ⟨my, at_c (by assumption) (by unfold at_; omega), rfl, rfl⟩))
    refine hold_stop (fun hd hb => ?_)
    refine ok_send hd (asend c R k hk m q E hq) (look_cons hb).1 (look_cons (look_cons (look_cons hb).2.2).2.2).2.1 (look_cons (look_cons hb).2.2).2.1 (by decide) (by kernel_rfl) ?_
    rintro x G (⟨sk, rfl, rfl⟩ | ⟨sk, rfl, rfl⟩)
    ·
     refine ok_sk (.stop [0, 1, 2]) (S := .stop (.leaf (.tuple [.int .i64 (7 : Int), .gsl 0 0, .gsl 1 0, .gsl 2 0])) [0, 1, 2] ([bC 0 1 k c, bS 1 12 k (rowsN R), bS 2 14 q (fun i => (E i).row)])) (by kernel_rfl) ?_
     exact hold_stop fun hd hb => leaf_put0 hd (by simp [fitA, nf]) (look_cons hb).1 (look_cons (look_cons hb).2.2).2.1 (look_cons (look_cons (look_cons hb).2.2).2.2).2.1 (by decide) (.inr (.inr (.inl ⟨my, at_c (by assumption) (by unfold at_; omega), by omega, rfl, rfl⟩)))
    refine ok_sk (.stop [0, 1, 2, 7]) (S := .stop (.leaf (.tuple [.int .i64 (0 : Int), .gsl 0 0, .gsl 1 0, .gsl 2 0])) [0, 1, 2, 7] ([bC 0 7 (k + 1) c, (some Blk.dead, none), bS 2 14 q (fun i => (E i).row), bS 7 12 (k + 1) (rowsN (putR R k { m := m, q := q, E := E }))])) (by kernel_rfl) ?_
    exact hold_stop fun hd hb => leaf_put1 (J := 7) hd (by simp [fitA, nf]) (look_cons hb).1 (look_cons (look_cons (look_cons hb).2.2).2.2).2.1 (look_cons (look_cons (look_cons (look_cons hb).2.2).2.2).2.2).2.1 (by decide) (.inr (.inr (.inr ⟨my, at_c (by assumption) (by unfold at_; omega), by omega, rfl, rfl⟩)))
   refine hl (bc fun h10 => by omega) ?_
   refine hold_fork (fun h10 => ?_) (fun h10 => ?_)
   ·
    exact hold_stop fun hd hb => leaf_put0 hd (by simp [fitA, nf]) (look_cons hb).1 (look_cons (look_cons hb).2.2).2.1 (look_cons (look_cons (look_cons hb).2.2).2.2).2.1 (by decide) (.inr (.inl ⟨my, at_c (by assumption) (by unfold at_; omega), rfl, rfl⟩))
   refine hold_stop (fun hd hb => ?_)
   refine ok_send hd (asend c R k hk m q E hq) (look_cons hb).1 (look_cons (look_cons (look_cons hb).2.2).2.2).2.1 (look_cons (look_cons hb).2.2).2.1 (by decide) (by kernel_rfl) ?_
   rintro x G (⟨sk, rfl, rfl⟩ | ⟨sk, rfl, rfl⟩)
   ·
    refine ok_sk (.stop [0, 1, 2]) (S := .stop (.leaf (.tuple [.int .i64 (7 : Int), .gsl 0 0, .gsl 1 0, .gsl 2 0])) [0, 1, 2] ([bC 0 1 k c, bS 1 12 k (rowsN R), bS 2 14 q (fun i => (E i).row)])) (by kernel_rfl) ?_
    exact hold_stop fun hd hb => leaf_put0 hd (by simp [fitA, nf]) (look_cons hb).1 (look_cons (look_cons hb).2.2).2.1 (look_cons (look_cons (look_cons hb).2.2).2.2).2.1 (by decide) (.inr (.inr (.inl ⟨my, at_c (by assumption) (by unfold at_; omega), by omega, rfl, rfl⟩)))
   refine ok_sk (.stop [0, 1, 2, 7]) (S := .stop (.leaf (.tuple [.int .i64 (0 : Int), .gsl 0 0, .gsl 1 0, .gsl 2 0])) [0, 1, 2, 7] ([bC 0 7 (k + 1) c, (some Blk.dead, none), bS 2 14 q (fun i => (E i).row), bS 7 12 (k + 1) (rowsN (putR R k { m := m, q := q, E := E }))])) (by kernel_rfl) ?_
   exact hold_stop fun hd hb => leaf_put1 (J := 7) hd (by simp [fitA, nf]) (look_cons hb).1 (look_cons (look_cons (look_cons hb).2.2).2.2).2.1 (look_cons (look_cons (look_cons (look_cons hb).2.2).2.2).2.2).2.1 (by decide) (.inr (.inr (.inr ⟨my, at_c (by assumption) (by unfold at_; omega), by omega, rfl, rfl⟩)))
  refine ok_sk (.stop [0, 1, 2]) (S := .stop (.leaf (.tuple [.int .i64 (1 : Int), .gsl 0 0, .gsl 1 0, .gsl 2 0])) [0, 1, 2] ([bC 0 1 k c, bS 1 12 k (rowsN R), bS 2 14 q (fun i => (E i).row)])) (by kernel_rfl) ?_
  exact hold_stop fun hd hb => leaf_put0 hd (by simp [fitA, nf]) (look_cons hb).1 (look_cons (look_cons hb).2.2).2.1 (look_cons (look_cons (look_cons hb).2.2).2.2).2.1 (by decide) (.inl ⟨my, rfl, rfl⟩)
end Go.Proofs.Ytkdmlpmjfnjnmaa
