import Derived.Test.YtkdmlpmjfnjnmaaN9
set_option linter.unusedSimpArgs false
namespace Go.Proofs.Ytkdmlpmjfnjnmaa
open Go Go.RowKit Sv
set_option linter.unusedVariables false
set_option maxRecDepth 100000
set_option maxHeartbeats 0
theorem asendD (c : Nat → Bool) (R : Nat → NM) (k : Nat) (hk : k ≤ 128) (x : NM) (hq : x.q ≤ 1000) : RunsM Try.prog 22 (netG c R k) [.ptr 0 0, .agg x.row] fun y G =>
    (128 ≤ k ∧ y = .int .i64 7 ∧ G = netG c R k) ∨ (k < 128 ∧ y = .int .i64 0 ∧ G = netN c (putR R k x) (k + 1)) := by
  refine runs_treeM plain mixed (fun _ => false) 60 (netG c R k) ?_
  refine ok_sk (.both (.stop [0, 1]) (.both (.l (.l (.l (.l (.l (.l (.l (.l (.l (.l (.l (.l (.l (.l (.l (.l (.l (.l (.l (.l (.l (.l (.l (.l (.l (.l (.l (.l (.stop [0, 1, 6, 4]))))))))))))))))))))))))))))) (.both (.l (.l (.l (.l (.l (.l (.l (.l (.l (.l (.l (.l (.l (.l (.l (.l (.l (.l (.l (.l (.l (.l (.l (.l (.l (.stop [0, 1, 4])))))))))))))))))))))))))) (.l (.l (.l (.l (.l (.l (.l (.l (.l (.l (.l (.l (.l (.l (.l (.l (.l (.l (.l (.l (.l (.l (.l (.l (.l (.l (.l (.l (.stop [0, 1, 6, 4])))))))))))))))))))))))))))))))) (S := .fork (decide (128 ≤ (↑k : Int))) (.stop (.leaf (.tuple [.int .i64 (7 : Int), .gsl 0 0, .gsl 1 0])) [0, 1] ([bC 0 1 k c, bS 1 12 k (rowsN R)])) (.fork (decide (0 < x.q)) (.left (@decide (x.q < 65536 ∧ RowsOK 14 x.q fun i => (x.E i).row) pd) (.left (decide (x.m.k = x.m.k)) (.left (decide (x.m.f = x.m.f)) (.left (decide (x.m.t = x.m.t)) (.left (decide (x.m.v0 = x.m.v0)) (.left (decide (x.m.v1 = x.m.v1)) (.left (decide (x.m.v2 = x.m.v2)) (.left (decide (x.m.v3 = x.m.v3)) (.left (decide (x.m.v4 = x.m.v4)) (.left (decide (x.m.v5 = x.m.v5)) (.left (decide (x.q = x.q)) (.left (decide (x.m.n = x.m.n)) (.left (decide (x.m.a = x.m.a)) (.left (decide (x.m.k = x.m.k)) (.left (decide (x.m.f = x.m.f)) (.left (decide (x.m.t = x.m.t)) (.left (decide (x.m.v0 = x.m.v0)) (.left (decide (x.m.v1 = x.m.v1)) (.left (decide (x.m.v2 = x.m.v2)) (.left (decide (x.m.v3 = x.m.v3)) (.left (decide (x.m.v4 = x.m.v4)) (.left (decide (x.m.v5 = x.m.v5)) (.left (decide (x.q = x.q)) (.left (decide (x.m.n = x.m.n)) (.left (decide (x.m.a = x.m.a)) (.left (decide (k = k)) (.left (@decide (1 < 65536 ∧ RowsOK 12 1 fun i => List.take 12 (List.drop (i * 12) (x.m.row (.gsl 4 x.q)))) pd) (.left (decide (k ≤ k ∧ k < 65536)) (.stop (.leaf (.tuple [.int .i64 (0 : Int), .gsl 0 0, .gsl 1 0])) [0, 1, 6, 4] ([bC 0 6 (k + 1) c, (some Blk.dead, none), bS 6 12 (k + 1) (glue k (rowsN R) fun i => List.take 12 (List.drop (i * 12) (x.m.row (.gsl 4 x.q)))), bS 4 14 x.q (fun i => (x.E i).row)])))))))))))))))))))))))))))))) (.conj (.left (decide (x.m.k = x.m.k)) (.left (decide (x.m.f = x.m.f)) (.left (decide (x.m.t = x.m.t)) (.left (decide (x.m.v0 = x.m.v0)) (.left (decide (x.m.v1 = x.m.v1)) (.left (decide (x.m.v2 = x.m.v2)) (.left (decide (x.m.v3 = x.m.v3)) (.left (decide (x.m.v4 = x.m.v4)) (.left (decide (x.m.v5 = x.m.v5)) (.left (decide (x.m.n = x.m.n)) (.left (decide (x.m.a = x.m.a)) (.left (decide (x.m.k = x.m.k)) (.left (decide (x.m.f = x.m.f)) (.left (decide (x.m.t = x.m.t)) (.left (decide (x.m.v0 = x.m.v0)) (.left (decide (x.m.v1 = x.m.v1)) (.left (decide (x.m.v2 = x.m.v2)) (.left (decide (x.m.v3 = x.m.v3)) (.left (decide (x.m.v4 = x.m.v4)) (.left (decide (x.m.v5 = x.m.v5)) (.left (decide (x.m.n = x.m.n)) (.left (decide (x.m.a = x.m.a)) (.left (decide (k = k)) (.left (@decide (1 < 65536 ∧ RowsOK 12 1 fun i => List.take 12 (List.drop (i * 12) (x.m.row .nilSlice))) pd) (.left (decide (k ≤ k ∧ k < 65536)) (.stop (.leaf (.tuple [.int .i64 (0 : Int), .gsl 0 0, .gsl 1 0])) [0, 1, 4] ([bC 0 4 (k + 1) c, (some Blk.dead, none), bS 4 12 (k + 1) (glue k (rowsN R) fun i => List.take 12 (List.drop (i * 12) (x.m.row .nilSlice)))]))))))))))))))))))))))))))) (.left (@decide (x.q < 65536 ∧ RowsOK 14 x.q fun i => (x.E i).row) pd) (.left (decide (x.m.k = x.m.k)) (.left (decide (x.m.f = x.m.f)) (.left (decide (x.m.t = x.m.t)) (.left (decide (x.m.v0 = x.m.v0)) (.left (decide (x.m.v1 = x.m.v1)) (.left (decide (x.m.v2 = x.m.v2)) (.left (decide (x.m.v3 = x.m.v3)) (.left (decide (x.m.v4 = x.m.v4)) (.left (decide (x.m.v5 = x.m.v5)) (.left (decide (x.q = x.q)) (.left (decide (x.m.n = x.m.n)) (.left (decide (x.m.a = x.m.a)) (.left (decide (x.m.k = x.m.k)) (.left (decide (x.m.f = x.m.f)) (.left (decide (x.m.t = x.m.t)) (.left (decide (x.m.v0 = x.m.v0)) (.left (decide (x.m.v1 = x.m.v1)) (.left (decide (x.m.v2 = x.m.v2)) (.left (decide (x.m.v3 = x.m.v3)) (.left (decide (x.m.v4 = x.m.v4)) (.left (decide (x.m.v5 = x.m.v5)) (.left (decide (x.q = x.q)) (.left (decide (x.m.n = x.m.n)) (.left (decide (x.m.a = x.m.a)) (.left (decide (k = k)) (.left (@decide (1 < 65536 ∧ RowsOK 12 1 fun i => List.take 12 (List.drop (i * 12) (x.m.row (.gsl 4 x.q)))) pd) (.left (decide (k ≤ k ∧ k < 65536)) (.stop (.leaf (.tuple [.int .i64 (0 : Int), .gsl 0 0, .gsl 1 0])) [0, 1, 6, 4] ([bC 0 6 (k + 1) c, (some Blk.dead, none), bS 6 12 (k + 1) (glue k (rowsN R) fun i => List.take 12 (List.drop (i * 12) (x.m.row (.gsl 4 x.q)))), bS 4 14 x.q (fun i => (x.E i).row)]))))))))))))))))))))))))))))))))) (by kernel_rfl) ?_
  refine hold_forkD (fun h0 => ?_) (fun h0 => ?_)
  ·
   exact hold_stop fun hd hb => leaf_same hd (by simp [fitA, nf]) (look_cons hb).1 (fitsA_self _ rfl) (look_cons (look_cons hb).2.2).2.1 (by decide) (.inl ⟨by omega, rfl, rfl⟩)
  refine hold_forkD (fun h1 => ?_) (fun h1 => ?_)
  ·
   refine hl (bc fun h2 => by exact h2 ⟨by omega, fun i hi => ⟨rfl, rfl⟩⟩) ?_
   iterate 25 refine hl (bc fun h2 => by omega) ?_
   refine hl (bc fun h2 => by exact h2 ⟨by omega, fun i hi => (by obtain rfl : i = 0 := (by omega); exact ⟨rfl, rfl⟩)⟩) ?_
   refine hl (bc fun h2 => by omega) ?_
   exact hold_stop fun hd hb => leaf_newZ (m := x.m) (q := x.q) (E := x.E) (J := 6) (Z := 4) hd (by simp [fitA, nf]) (look_cons hb).1 (look_cons (look_cons (look_cons hb).2.2).2.2).2.1 (look_cons (look_cons (look_cons (look_cons hb).2.2).2.2).2.2).2.1 (Nat.le_refl _) (fun i hi => rfl) rfl (by decide) (.inr ⟨by omega, rfl, rfl⟩)
  refine hold_conj ?_ ?_
  ·
   iterate 23 refine hl (bc fun h2 => by omega) ?_
   refine hl (bc fun h2 => by exact h2 ⟨by omega, fun i hi => (by obtain rfl : i = 0 := (by omega); exact ⟨rfl, rfl⟩)⟩) ?_
   refine hl (bc fun h2 => by omega) ?_
   exact hold_stop fun hd hb => leaf_newI (n := x) (J := 4) hd (by simp [fitA, nf]) (look_cons hb).1 (look_cons (look_cons (look_cons hb).2.2).2.2).2.1 (ice_row x.m (by rw [show x.q = 0 by omega]; exact .nil _ _)) (by decide) (.inr ⟨by omega, rfl, rfl⟩)
  refine hl (bc fun h2 => by exact h2 ⟨by omega, fun i hi => (by obtain rfl : i = 0 := (by omega); exact ⟨rfl, rfl⟩)⟩) ?_
  iterate 25 refine hl (bc fun h2 => by omega) ?_
  refine hl (bc fun h2 => by exact h2 ⟨by omega, fun i hi => (by obtain rfl : i = 0 := (by omega); exact ⟨rfl, rfl⟩)⟩) ?_
  refine hl (bc fun h2 => by omega) ?_
  exact hold_stop fun hd hb => leaf_newZ (m := x.m) (q := x.q) (E := x.E) (J := 6) (Z := 4) hd (by simp [fitA, nf]) (look_cons hb).1 (look_cons (look_cons (look_cons hb).2.2).2.2).2.1 (look_cons (look_cons (look_cons (look_cons hb).2.2).2.2).2.2).2.1 (Nat.le_refl _) (fun i hi => rfl) rfl (by decide) (.inr ⟨by omega, rfl, rfl⟩)
theorem ok_sendD {P : Program} {o lp : Nat → Bool} {n0 : Nat} {R0 R' : AV → List NewB → Prop} {t : T} {f c0 k : Nat} {c : Nat → Bool} {R : Nat → NM} {m : MsI} {a : AV} (hd : t.hd = .call f [.ptr 0 0, .agg (m.row a)]) (hn : nf a = true) (hr : RunsM P f (netG c R k) [.ptr 0 0, .agg (m.row a)] R')
    (h0 : t.heap.tr.get 0 = some (.cells c0 none (.gsl 1 k :: cutC c))) (h1 : seqAt t.heap 1 = some (12, k, rowsN R)) (hc : c0 ≠ 1) (ha : alone t.heap [0, 1] = true) (hk : ∀ x G, R' x G → (t.aftM [0, 1] x G).ok P o lp n0 R0) : t.ok P o lp n0 R0 := by
  have e0 := clsOf_cells h0
  have e1 := (seq_one h1).1
  refine ok_callM hd hr [0, 1] (by decide) ⟨⟨by simp [fitA], by simp [MsI.row, fitA, fitsA]; exact fitA_self a hn, trivial⟩, ⟨⟨_, _, h0, ⟨by simp [fitA], fitsA_self _ rfl⟩⟩, .inl ⟨_, _, h1, Nat.le_refl _, fun i hi => ⟨rfl, rfl⟩⟩, trivial⟩, by simp [e0, e1, hc]⟩ ha (fun i j hi => ?_) hk
  rcases i with _ | _ | i
  · exact .inr fun ρ E w vs _ hv => vrs_ptr hv (o := 0) (by simp)
  · simp at hi; subst hi; exact .inl (seq_of h1)
  · simp at hi
theorem aputD (c : Nat → Bool) (R : Nat → NM) (k : Nat) (hk : k ≤ 128) (x : NM) (hq : x.q ≤ 1000) : RunsM Try.prog 8 (netG c R k) [.ptr 0 0, .agg x.row] fun y G =>
    (¬ x.m.may x.q x.E ∧ y = .int .i64 1 ∧ G = netG c R k) ∨ (x.m.may x.q x.E ∧ c (at_ x.m.f x.m.t) = true ∧ y = .int .i64 0 ∧ G = netG c R k) ∨ (x.m.may x.q x.E ∧ c (at_ x.m.f x.m.t) = false ∧ 128 ≤ k ∧ y = .int .i64 7 ∧ G = netG c R k) ∨
    (x.m.may x.q x.E ∧ c (at_ x.m.f x.m.t) = false ∧ k < 128 ∧ y = .int .i64 0 ∧ G = netN c (putR R k x) (k + 1)) := by
  refine runs_treeM plain mixed (fun g => Nat.beq g 21 || Nat.beq g 22) 60 (netG c R k) ?_
  refine ok_sk (.stop []) (S := .stop (.call 21 [.agg (x.m.row (.data 14 x.q fun i => (x.E i).row))]) [] ([])) (by kernel_rfl) ?_
  refine hold_stop (fun hd hb => ?_)
  refine ok_call0 hd (mmay x.m x.q x.E (by omega)) rfl ?_
  rintro y G ⟨rfl, ⟨rfl, my⟩ | ⟨rfl, my⟩⟩ <;> refine ⟨rfl, fun g hg => (by cases hg), ?_⟩ <;> try have mf : 1 ≤ x.m.f ∧ x.m.f ≤ 6 ∧ 1 ≤ x.m.t ∧ x.m.t ≤ 6 ∧ x.m.f ≠ x.m.t := my.1
  ·
   refine ok_sk (.l (.l (.both (.r (.both (.both (.stop [0, 1]) (.stop [0, 1])) (.both (.both (.stop [0, 1]) (.stop [0, 1])) (.both (.both (.stop [0, 1]) (.stop [0, 1])) (.both (.both (.stop [0, 1]) (.stop [0, 1])) (.l (.both (.stop [0, 1]) (.stop [0, 1])))))))) (.both (.both (.both (.stop [0, 1]) (.stop [0, 1])) (.r (.both (.both (.stop [0, 1]) (.stop [0, 1])) (.both (.both (.stop [0, 1]) (.stop [0, 1])) (.both (.both (.stop [0, 1]) (.stop [0, 1])) (.l (.both (.stop [0, 1]) (.stop [0, 1])))))))) (.both (.both (.both (.stop [0, 1]) (.stop [0, 1])) (.both (.both (.stop [0, 1]) (.stop [0, 1])) (.r (.both (.both (.stop [0, 1]) (.stop [0, 1])) (.both (.both (.stop [0, 1]) (.stop [0, 1])) (.l (.both (.stop [0, 1]) (.stop [0, 1])))))))) (.both (.both (.both (.stop [0, 1]) (.stop [0, 1])) (.both (.both (.stop [0, 1]) (.stop [0, 1])) (.both (.both (.stop [0, 1]) (.stop [0, 1])) (.r (.both (.both (.stop [0, 1]) (.stop [0, 1])) (.l (.both (.stop [0, 1]) (.stop [0, 1])))))))) (.both (.both (.both (.stop [0, 1]) (.stop [0, 1])) (.both (.both (.stop [0, 1]) (.stop [0, 1])) (.both (.both (.stop [0, 1]) (.stop [0, 1])) (.both (.both (.stop [0, 1]) (.stop [0, 1])) (.r (.l (.both (.stop [0, 1]) (.stop [0, 1])))))))) (.l (.both (.both (.stop [0, 1]) (.stop [0, 1])) (.both (.both (.stop [0, 1]) (.stop [0, 1])) (.both (.both (.stop [0, 1]) (.stop [0, 1])) (.both (.both (.stop [0, 1]) (.stop [0, 1])) (.l (.both (.stop [0, 1]) (.stop [0, 1]))))))))))))))) (S := .left (decide ((-9223372036854775808 : Int) ≤ x.m.f - 1 ∧ x.m.f - 1 ≤ 9223372036854775807)) (.left (decide ((-9223372036854775808 : Int) ≤ x.m.t - 1 ∧ x.m.t - 1 ≤ 9223372036854775807)) (.fork (decide (x.m.f - 1 = 5)) (.right (decide (x.m.t - 1 = 5)) (.fork (decide (x.m.t - 1 = 4)) (.fork (c 34) (.stop (.leaf (.tuple [.int .i64 (0 : Int), .gsl 0 0, .gsl 1 0])) [0, 1] ([bC 0 1 k c, bS 1 12 k (rowsN R)])) (.stop (.call 22 [.ptr 0 0, .agg (x.m.row (.data 14 x.q fun i => (x.E i).row))]) [0, 1] ([bC 0 1 k c, bS 1 12 k (rowsN R)]))) (.fork (decide (x.m.t - 1 = 3)) (.fork (c 33) (.stop (.leaf (.tuple [.int .i64 (0 : Int), .gsl 0 0, .gsl 1 0])) [0, 1] ([bC 0 1 k c, bS 1 12 k (rowsN R)])) (.stop (.call 22 [.ptr 0 0, .agg (x.m.row (.data 14 x.q fun i => (x.E i).row))]) [0, 1] ([bC 0 1 k c, bS 1 12 k (rowsN R)]))) (.fork (decide (x.m.t - 1 = 2)) (.fork (c 32) (.stop (.leaf (.tuple [.int .i64 (0 : Int), .gsl 0 0, .gsl 1 0])) [0, 1] ([bC 0 1 k c, bS 1 12 k (rowsN R)])) (.stop (.call 22 [.ptr 0 0, .agg (x.m.row (.data 14 x.q fun i => (x.E i).row))]) [0, 1] ([bC 0 1 k c, bS 1 12 k (rowsN R)]))) (.fork (decide (x.m.t - 1 = 1)) (.fork (c 31) (.stop (.leaf (.tuple [.int .i64 (0 : Int), .gsl 0 0, .gsl 1 0])) [0, 1] ([bC 0 1 k c, bS 1 12 k (rowsN R)])) (.stop (.call 22 [.ptr 0 0, .agg (x.m.row (.data 14 x.q fun i => (x.E i).row))]) [0, 1] ([bC 0 1 k c, bS 1 12 k (rowsN R)]))) (.left (decide (x.m.t - 1 = 0)) (.fork (c 30) (.stop (.leaf (.tuple [.int .i64 (0 : Int), .gsl 0 0, .gsl 1 0])) [0, 1] ([bC 0 1 k c, bS 1 12 k (rowsN R)])) (.stop (.call 22 [.ptr 0 0, .agg (x.m.row (.data 14 x.q fun i => (x.E i).row))]) [0, 1] ([bC 0 1 k c, bS 1 12 k (rowsN R)]))))))))) (.fork (decide (x.m.f - 1 = 4)) (.fork (decide (x.m.t - 1 = 5)) (.fork (c 29) (.stop (.leaf (.tuple [.int .i64 (0 : Int), .gsl 0 0, .gsl 1 0])) [0, 1] ([bC 0 1 k c, bS 1 12 k (rowsN R)])) (.stop (.call 22 [.ptr 0 0, .agg (x.m.row (.data 14 x.q fun i => (x.E i).row))]) [0, 1] ([bC 0 1 k c, bS 1 12 k (rowsN R)]))) (.right (decide (x.m.t - 1 = 4)) (.fork (decide (x.m.t - 1 = 3)) (.fork (c 27) (.stop (.leaf (.tuple [.int .i64 (0 : Int), .gsl 0 0, .gsl 1 0])) [0, 1] ([bC 0 1 k c, bS 1 12 k (rowsN R)])) (.stop (.call 22 [.ptr 0 0, .agg (x.m.row (.data 14 x.q fun i => (x.E i).row))]) [0, 1] ([bC 0 1 k c, bS 1 12 k (rowsN R)]))) (.fork (decide (x.m.t - 1 = 2)) (.fork (c 26) (.stop (.leaf (.tuple [.int .i64 (0 : Int), .gsl 0 0, .gsl 1 0])) [0, 1] ([bC 0 1 k c, bS 1 12 k (rowsN R)])) (.stop (.call 22 [.ptr 0 0, .agg (x.m.row (.data 14 x.q fun i => (x.E i).row))]) [0, 1] ([bC 0 1 k c, bS 1 12 k (rowsN R)]))) (.fork (decide (x.m.t - 1 = 1)) (.fork (c 25) (.stop (.leaf (.tuple [.int .i64 (0 : Int), .gsl 0 0, .gsl 1 0])) [0, 1] ([bC 0 1 k c, bS 1 12 k (rowsN R)])) (.stop (.call 22 [.ptr 0 0, .agg (x.m.row (.data 14 x.q fun i => (x.E i).row))]) [0, 1] ([bC 0 1 k c, bS 1 12 k (rowsN R)]))) (.left (decide (x.m.t - 1 = 0)) (.fork (c 24) (.stop (.leaf (.tuple [.int .i64 (0 : Int), .gsl 0 0, .gsl 1 0])) [0, 1] ([bC 0 1 k c, bS 1 12 k (rowsN R)])) (.stop (.call 22 [.ptr 0 0, .agg (x.m.row (.data 14 x.q fun i => (x.E i).row))]) [0, 1] ([bC 0 1 k c, bS 1 12 k (rowsN R)]))))))))) (.fork (decide (x.m.f - 1 = 3)) (.fork (decide (x.m.t - 1 = 5)) (.fork (c 23) (.stop (.leaf (.tuple [.int .i64 (0 : Int), .gsl 0 0, .gsl 1 0])) [0, 1] ([bC 0 1 k c, bS 1 12 k (rowsN R)])) (.stop (.call 22 [.ptr 0 0, .agg (x.m.row (.data 14 x.q fun i => (x.E i).row))]) [0, 1] ([bC 0 1 k c, bS 1 12 k (rowsN R)]))) (.fork (decide (x.m.t - 1 = 4)) (.fork (c 22) (.stop (.leaf (.tuple [.int .i64 (0 : Int), .gsl 0 0, .gsl 1 0])) [0, 1] ([bC 0 1 k c, bS 1 12 k (rowsN R)])) (.stop (.call 22 [.ptr 0 0, .agg (x.m.row (.data 14 x.q fun i => (x.E i).row))]) [0, 1] ([bC 0 1 k c, bS 1 12 k (rowsN R)]))) (.right (decide (x.m.t - 1 = 3)) (.fork (decide (x.m.t - 1 = 2)) (.fork (c 20) (.stop (.leaf (.tuple [.int .i64 (0 : Int), .gsl 0 0, .gsl 1 0])) [0, 1] ([bC 0 1 k c, bS 1 12 k (rowsN R)])) (.stop (.call 22 [.ptr 0 0, .agg (x.m.row (.data 14 x.q fun i => (x.E i).row))]) [0, 1] ([bC 0 1 k c, bS 1 12 k (rowsN R)]))) (.fork (decide (x.m.t - 1 = 1)) (.fork (c 19) (.stop (.leaf (.tuple [.int .i64 (0 : Int), .gsl 0 0, .gsl 1 0])) [0, 1] ([bC 0 1 k c, bS 1 12 k (rowsN R)])) (.stop (.call 22 [.ptr 0 0, .agg (x.m.row (.data 14 x.q fun i => (x.E i).row))]) [0, 1] ([bC 0 1 k c, bS 1 12 k (rowsN R)]))) (.left (decide (x.m.t - 1 = 0)) (.fork (c 18) (.stop (.leaf (.tuple [.int .i64 (0 : Int), .gsl 0 0, .gsl 1 0])) [0, 1] ([bC 0 1 k c, bS 1 12 k (rowsN R)])) (.stop (.call 22 [.ptr 0 0, .agg (x.m.row (.data 14 x.q fun i => (x.E i).row))]) [0, 1] ([bC 0 1 k c, bS 1 12 k (rowsN R)]))))))))) (.fork (decide (x.m.f - 1 = 2)) (.fork (decide (x.m.t - 1 = 5)) (.fork (c 17) (.stop (.leaf (.tuple [.int .i64 (0 : Int), .gsl 0 0, .gsl 1 0])) [0, 1] ([bC 0 1 k c, bS 1 12 k (rowsN R)])) (.stop (.call 22 [.ptr 0 0, .agg (x.m.row (.data 14 x.q fun i => (x.E i).row))]) [0, 1] ([bC 0 1 k c, bS 1 12 k (rowsN R)]))) (.fork (decide (x.m.t - 1 = 4)) (.fork (c 16) (.stop (.leaf (.tuple [.int .i64 (0 : Int), .gsl 0 0, .gsl 1 0])) [0, 1] ([bC 0 1 k c, bS 1 12 k (rowsN R)])) (.stop (.call 22 [.ptr 0 0, .agg (x.m.row (.data 14 x.q fun i => (x.E i).row))]) [0, 1] ([bC 0 1 k c, bS 1 12 k (rowsN R)]))) (.fork (decide (x.m.t - 1 = 3)) (.fork (c 15) (.stop (.leaf (.tuple [.int .i64 (0 : Int), .gsl 0 0, .gsl 1 0])) [0, 1] ([bC 0 1 k c, bS 1 12 k (rowsN R)])) (.stop (.call 22 [.ptr 0 0, .agg (x.m.row (.data 14 x.q fun i => (x.E i).row))]) [0, 1] ([bC 0 1 k c, bS 1 12 k (rowsN R)]))) (.right (decide (x.m.t - 1 = 2)) (.fork (decide (x.m.t - 1 = 1)) (.fork (c 13) (.stop (.leaf (.tuple [.int .i64 (0 : Int), .gsl 0 0, .gsl 1 0])) [0, 1] ([bC 0 1 k c, bS 1 12 k (rowsN R)])) (.stop (.call 22 [.ptr 0 0, .agg (x.m.row (.data 14 x.q fun i => (x.E i).row))]) [0, 1] ([bC 0 1 k c, bS 1 12 k (rowsN R)]))) (.left (decide (x.m.t - 1 = 0)) (.fork (c 12) (.stop (.leaf (.tuple [.int .i64 (0 : Int), .gsl 0 0, .gsl 1 0])) [0, 1] ([bC 0 1 k c, bS 1 12 k (rowsN R)])) (.stop (.call 22 [.ptr 0 0, .agg (x.m.row (.data 14 x.q fun i => (x.E i).row))]) [0, 1] ([bC 0 1 k c, bS 1 12 k (rowsN R)]))))))))) (.fork (decide (x.m.f - 1 = 1)) (.fork (decide (x.m.t - 1 = 5)) (.fork (c 11) (.stop (.leaf (.tuple [.int .i64 (0 : Int), .gsl 0 0, .gsl 1 0])) [0, 1] ([bC 0 1 k c, bS 1 12 k (rowsN R)])) (.stop (.call 22 [.ptr 0 0, .agg (x.m.row (.data 14 x.q fun i => (x.E i).row))]) [0, 1] ([bC 0 1 k c, bS 1 12 k (rowsN R)]))) (.fork (decide (x.m.t - 1 = 4)) (.fork (c 10) (.stop (.leaf (.tuple [.int .i64 (0 : Int), .gsl 0 0, .gsl 1 0])) [0, 1] ([bC 0 1 k c, bS 1 12 k (rowsN R)])) (.stop (.call 22 [.ptr 0 0, .agg (x.m.row (.data 14 x.q fun i => (x.E i).row))]) [0, 1] ([bC 0 1 k c, bS 1 12 k (rowsN R)]))) (.fork (decide (x.m.t - 1 = 3)) (.fork (c 9) (.stop (.leaf (.tuple [.int .i64 (0 : Int), .gsl 0 0, .gsl 1 0])) [0, 1] ([bC 0 1 k c, bS 1 12 k (rowsN R)])) (.stop (.call 22 [.ptr 0 0, .agg (x.m.row (.data 14 x.q fun i => (x.E i).row))]) [0, 1] ([bC 0 1 k c, bS 1 12 k (rowsN R)]))) (.fork (decide (x.m.t - 1 = 2)) (.fork (c 8) (.stop (.leaf (.tuple [.int .i64 (0 : Int), .gsl 0 0, .gsl 1 0])) [0, 1] ([bC 0 1 k c, bS 1 12 k (rowsN R)])) (.stop (.call 22 [.ptr 0 0, .agg (x.m.row (.data 14 x.q fun i => (x.E i).row))]) [0, 1] ([bC 0 1 k c, bS 1 12 k (rowsN R)]))) (.right (decide (x.m.t - 1 = 1)) (.left (decide (x.m.t - 1 = 0)) (.fork (c 6) (.stop (.leaf (.tuple [.int .i64 (0 : Int), .gsl 0 0, .gsl 1 0])) [0, 1] ([bC 0 1 k c, bS 1 12 k (rowsN R)])) (.stop (.call 22 [.ptr 0 0, .agg (x.m.row (.data 14 x.q fun i => (x.E i).row))]) [0, 1] ([bC 0 1 k c, bS 1 12 k (rowsN R)]))))))))) (.left (decide (x.m.f - 1 = 0)) (.fork (decide (x.m.t - 1 = 5)) (.fork (c 5) (.stop (.leaf (.tuple [.int .i64 (0 : Int), .gsl 0 0, .gsl 1 0])) [0, 1] ([bC 0 1 k c, bS 1 12 k (rowsN R)])) (.stop (.call 22 [.ptr 0 0, .agg (x.m.row (.data 14 x.q fun i => (x.E i).row))]) [0, 1] ([bC 0 1 k c, bS 1 12 k (rowsN R)]))) (.fork (decide (x.m.t - 1 = 4)) (.fork (c 4) (.stop (.leaf (.tuple [.int .i64 (0 : Int), .gsl 0 0, .gsl 1 0])) [0, 1] ([bC 0 1 k c, bS 1 12 k (rowsN R)])) (.stop (.call 22 [.ptr 0 0, .agg (x.m.row (.data 14 x.q fun i => (x.E i).row))]) [0, 1] ([bC 0 1 k c, bS 1 12 k (rowsN R)]))) (.fork (decide (x.m.t - 1 = 3)) (.fork (c 3) (.stop (.leaf (.tuple [.int .i64 (0 : Int), .gsl 0 0, .gsl 1 0])) [0, 1] ([bC 0 1 k c, bS 1 12 k (rowsN R)])) (.stop (.call 22 [.ptr 0 0, .agg (x.m.row (.data 14 x.q fun i => (x.E i).row))]) [0, 1] ([bC 0 1 k c, bS 1 12 k (rowsN R)]))) (.fork (decide (x.m.t - 1 = 2)) (.fork (c 2) (.stop (.leaf (.tuple [.int .i64 (0 : Int), .gsl 0 0, .gsl 1 0])) [0, 1] ([bC 0 1 k c, bS 1 12 k (rowsN R)])) (.stop (.call 22 [.ptr 0 0, .agg (x.m.row (.data 14 x.q fun i => (x.E i).row))]) [0, 1] ([bC 0 1 k c, bS 1 12 k (rowsN R)]))) (.left (decide (x.m.t - 1 = 1)) (.fork (c 1) (.stop (.leaf (.tuple [.int .i64 (0 : Int), .gsl 0 0, .gsl 1 0])) [0, 1] ([bC 0 1 k c, bS 1 12 k (rowsN R)])) (.stop (.call 22 [.ptr 0 0, .agg (x.m.row (.data 14 x.q fun i => (x.E i).row))]) [0, 1] ([bC 0 1 k c, bS 1 12 k (rowsN R)])))))))))))))))) (by kernel_rfl) ?_
   iterate 2 refine hl (bc fun h1 => by omega) ?_
   refine hold_forkD (fun h1 => ?_) (fun h1 => ?_)
   ·
    refine hzr (fun h2 => by omega) ?_
    refine hold_forkD (fun h2 => ?_) (fun h2 => ?_)
    ·
     refine hold_fork (fun h3 => ?_) (fun h3 => ?_)
     ·
      exact hold_stop fun hd hb => leaf_same hd (by simp [fitA, nf]) (look_cons hb).1 (fitsA_self _ rfl) (look_cons (look_cons hb).2.2).2.1 (by decide) (.inr (.inl ⟨my, at_c (by assumption) (by unfold at_; omega), rfl, rfl⟩))
     refine hold_stop (fun hd hb => ?_)
     refine ok_sendD hd rfl (asendD c R k hk x hq) (look_cons hb).1 (look_cons (look_cons hb).2.2).2.1 (by decide) (by kernel_rfl) ?_
     rintro y G (⟨sk, rfl, rfl⟩ | ⟨sk, rfl, rfl⟩)
     ·
      refine ok_sk (.stop [0, 1]) (S := .stop (.leaf (.tuple [.int .i64 (7 : Int), .gsl 0 0, .gsl 1 0])) [0, 1] ([bC 0 1 k c, bS 1 12 k (rowsN R)])) (by kernel_rfl) ?_
      exact hold_stop fun hd hb => leaf_same hd (by simp [fitA, nf]) (look_cons hb).1 (fitsA_self _ rfl) (look_cons (look_cons hb).2.2).2.1 (by decide) (.inr (.inr (.inl ⟨my, at_c (by assumption) (by unfold at_; omega), by omega, rfl, rfl⟩)))
     refine ok_sk (.stop [0, 1, 5]) (S := .stop (.leaf (.tuple [.int .i64 (0 : Int), .gsl 0 0, .gsl 1 0])) [0, 1, 5] ([bC 0 5 (k + 1) c, (some Blk.dead, none), bS 5 12 (k + 1) (rowsN (putR R k x))])) (by kernel_rfl) ?_
     exact hold_stop fun hd hb => leaf_new (J := 5) hd (by simp [fitA, nf]) (look_cons hb).1 (by simp [fitA]) (look_cons (look_cons (look_cons hb).2.2).2.2).2.1 (Nat.le_refl _) (fun j hj => rfl) (by decide) (.inr (.inr (.inr ⟨my, at_c (by assumption) (by unfold at_; omega), by omega, rfl, rfl⟩)))
    refine hold_forkD (fun h3 => ?_) (fun h3 => ?_)
    ·
     refine hold_fork (fun h4 => ?_) (fun h4 => ?_)
     ·
      exact hold_stop fun hd hb => leaf_same hd (by simp [fitA, nf]) (look_cons hb).1 (fitsA_self _ rfl) (look_cons (look_cons hb).2.2).2.1 (by decide) (.inr (.inl ⟨my, at_c (by assumption) (by unfold at_; omega), rfl, rfl⟩))
     refine hold_stop (fun hd hb => ?_)
     refine ok_sendD hd rfl (asendD c R k hk x hq) (look_cons hb).1 (look_cons (look_cons hb).2.2).2.1 (by decide) (by kernel_rfl) ?_
     rintro y G (⟨sk, rfl, rfl⟩ | ⟨sk, rfl, rfl⟩)
     ·
      refine ok_sk (.stop [0, 1]) (S := .stop (.leaf (.tuple [.int .i64 (7 : Int), .gsl 0 0, .gsl 1 0])) [0, 1] ([bC 0 1 k c, bS 1 12 k (rowsN R)])) (by kernel_rfl) ?_
      exact hold_stop fun hd hb => leaf_same hd (by simp [fitA, nf]) (look_cons hb).1 (fitsA_self _ rfl) (look_cons (look_cons hb).2.2).2.1 (by decide) (.inr (.inr (.inl ⟨my, at_c (by assumption) (by unfold at_; omega), by omega, rfl, rfl⟩)))
     refine ok_sk (.stop [0, 1, 5]) (S := .stop (.leaf (.tuple [.int .i64 (0 : Int), .gsl 0 0, .gsl 1 0])) [0, 1, 5] ([bC 0 5 (k + 1) c, (some Blk.dead, none), bS 5 12 (k + 1) (rowsN (putR R k x))])) (by kernel_rfl) ?_
     exact hold_stop fun hd hb => leaf_new (J := 5) hd (by simp [fitA, nf]) (look_cons hb).1 (by simp [fitA]) (look_cons (look_cons (look_cons hb).2.2).2.2).2.1 (Nat.le_refl _) (fun j hj => rfl) (by decide) (.inr (.inr (.inr ⟨my, at_c (by assumption) (by unfold at_; omega), by omega, rfl, rfl⟩)))
    refine hold_forkD (fun h4 => ?_) (fun h4 => ?_)
    ·
     refine hold_fork (fun h5 => ?_) (fun h5 => ?_)
     ·
      exact hold_stop fun hd hb => leaf_same hd (by simp [fitA, nf]) (look_cons hb).1 (fitsA_self _ rfl) (look_cons (look_cons hb).2.2).2.1 (by decide) (.inr (.inl ⟨my, at_c (by assumption) (by unfold at_; omega), rfl, rfl⟩))
     refine hold_stop (fun hd hb => ?_)
     refine ok_sendD hd rfl (asendD c R k hk x hq) (look_cons hb).1 (look_cons (look_cons hb).2.2).2.1 (by decide) (by kernel_rfl) ?_
     rintro y G (⟨sk, rfl, rfl⟩ | ⟨sk, rfl, rfl⟩)
     ·
      refine ok_sk (.stop [0, 1]) (S := .stop (.leaf (.tuple [.int .i64 (7 : Int), .gsl 0 0, .gsl 1 0])) [0, 1] ([bC 0 1 k c, bS 1 12 k (rowsN R)])) (by kernel_rfl) ?_
      exact hold_stop fun hd hb => leaf_same hd (by simp [fitA, nf]) (look_cons hb).1 (fitsA_self _ rfl) (look_cons (look_cons hb).2.2).2.1 (by decide) (.inr (.inr (.inl ⟨my, at_c (by assumption) (by unfold at_; omega), by omega, rfl, rfl⟩)))
     refine ok_sk (.stop [0, 1, 5]) (S := .stop (.leaf (.tuple [.int .i64 (0 : Int), .gsl 0 0, .gsl 1 0])) [0, 1, 5] ([bC 0 5 (k + 1) c, (some Blk.dead, none), bS 5 12 (k + 1) (rowsN (putR R k x))])) (by kernel_rfl) ?_
     exact hold_stop fun hd hb => leaf_new (J := 5) hd (by simp [fitA, nf]) (look_cons hb).1 (by simp [fitA]) (look_cons (look_cons (look_cons hb).2.2).2.2).2.1 (Nat.le_refl _) (fun j hj => rfl) (by decide) (.inr (.inr (.inr ⟨my, at_c (by assumption) (by unfold at_; omega), by omega, rfl, rfl⟩)))
    refine hold_forkD (fun h5 => ?_) (fun h5 => ?_)
    ·
     refine hold_fork (fun h6 => ?_) (fun h6 => ?_)
     ·
      exact hold_stop fun hd hb => leaf_same hd (by simp [fitA, nf]) (look_cons hb).1 (fitsA_self _ rfl) (look_cons (look_cons hb).2.2).2.1 (by decide) (.inr (.inl ⟨my, at_c (by assumption) (by unfold at_; omega), rfl, rfl⟩))
     refine hold_stop (fun hd hb => ?_)
     refine ok_sendD hd rfl (asendD c R k hk x hq) (look_cons hb).1 (look_cons (look_cons hb).2.2).2.1 (by decide) (by kernel_rfl) ?_
     rintro y G (⟨sk, rfl, rfl⟩ | ⟨sk, rfl, rfl⟩)
     ·
      refine ok_sk (.stop [0, 1]) (S := .stop (.leaf (.tuple [.int .i64 (7 : Int), .gsl 0 0, .gsl 1 0])) [0, 1] ([bC 0 1 k c, bS 1 12 k (rowsN R)])) (by kernel_rfl) ?_
      exact hold_stop fun hd hb => leaf_same hd (by simp [fitA, nf]) (look_cons hb).1 (fitsA_self _ rfl) (look_cons (look_cons hb).2.2).2.1 (by decide) (.inr (.inr (.inl ⟨my, at_c (by assumption) (by unfold at_; omega), by omega, rfl, rfl⟩)))
     refine ok_sk (.stop [0, 1, 5]) (S := .stop (.leaf (.tuple [.int .i64 (0 : Int), .gsl 0 0, .gsl 1 0])) [0, 1, 5] ([bC 0 5 (k + 1) c, (some Blk.dead, none), bS 5 12 (k + 1) (rowsN (putR R k x))])) (by kernel_rfl) ?_
     exact hold_stop fun hd hb => leaf_new (J := 5) hd (by simp [fitA, nf]) (look_cons hb).1 (by simp [fitA]) (look_cons (look_cons (look_cons hb).2.2).2.2).2.1 (Nat.le_refl _) (fun j hj => rfl) (by decide) (.inr (.inr (.inr ⟨my, at_c (by assumption) (by unfold at_; omega), by omega, rfl, rfl⟩)))
    refine hl (bc fun h6 => by omega) ?_
    refine hold_fork (fun h6 => ?_) (fun h6 => ?_)
    ·
     exact hold_stop fun hd hb => leaf_same hd (by simp [fitA, nf]) (look_cons hb).1 (fitsA_self _ rfl) (look_cons (look_cons hb).2.2).2.1 (by decide) (.inr (.inl ⟨my, at_c (by assumption) (by unfold at_; omega), rfl, rfl⟩))
    refine hold_stop (fun hd hb => ?_)
    refine ok_sendD hd rfl (asendD c R k hk x hq) (look_cons hb).1 (look_cons (look_cons hb).2.2).2.1 (by decide) (by kernel_rfl) ?_
    rintro y G (⟨sk, rfl, rfl⟩ | ⟨sk, rfl, rfl⟩)
    ·
     refine ok_sk (.stop [0, 1]) (S := .stop (.leaf (.tuple [.int .i64 (7 : Int), .gsl 0 0, .gsl 1 0])) [0, 1] ([bC 0 1 k c, bS 1 12 k (rowsN R)])) (by kernel_rfl) ?_
     exact hold_stop fun hd hb => leaf_same hd (by simp [fitA, nf]) (look_cons hb).1 (fitsA_self _ rfl) (look_cons (look_cons hb).2.2).2.1 (by decide) (.inr (.inr (.inl ⟨my, at_c (by assumption) (by unfold at_; omega), by omega, rfl, rfl⟩)))
    refine ok_sk (.stop [0, 1, 5]) (S := .stop (.leaf (.tuple [.int .i64 (0 : Int), .gsl 0 0, .gsl 1 0])) [0, 1, 5] ([bC 0 5 (k + 1) c, (some Blk.dead, none), bS 5 12 (k + 1) (rowsN (putR R k x))])) (by kernel_rfl) ?_
    exact hold_stop fun hd hb => leaf_new (J := 5) hd (by simp [fitA, nf]) (look_cons hb).1 (by simp [fitA]) (look_cons (look_cons (look_cons hb).2.2).2.2).2.1 (Nat.le_refl _) (fun j hj => rfl) (by decide) (.inr (.inr (.inr ⟨my, at_c (by assumption) (by unfold at_; omega), by omega, rfl, rfl⟩)))
   refine hold_forkD (fun h2 => ?_) (fun h2 => ?_)
   ·
    refine hold_forkD (fun h3 => ?_) (fun h3 => ?_)
    ·
     refine hold_fork (fun h4 => ?_) (fun h4 => ?_)
     ·
      exact hold_stop fun hd hb => leaf_same hd (by simp [fitA, nf]) (look_cons hb).1 (fitsA_self _ rfl) (look_cons (look_cons hb).2.2).2.1 (by decide) (.inr (.inl ⟨my, at_c (by assumption) (by unfold at_; omega), rfl, rfl⟩))
     refine hold_stop (fun hd hb => ?_)
     refine ok_sendD hd rfl (asendD c R k hk x hq) (look_cons hb).1 (look_cons (look_cons hb).2.2).2.1 (by decide) (by kernel_rfl) ?_
     rintro y G (⟨sk, rfl, rfl⟩ | ⟨sk, rfl, rfl⟩)
     ·
      refine ok_sk (.stop [0, 1]) (S := .stop (.leaf (.tuple [.int .i64 (7 : Int), .gsl 0 0, .gsl 1 0])) [0, 1] ([bC 0 1 k c, bS 1 12 k (rowsN R)])) (by kernel_rfl) ?_
      exact hold_stop fun hd hb => leaf_same hd (by simp [fitA, nf]) (look_cons hb).1 (fitsA_self _ rfl) (look_cons (look_cons hb).2.2).2.1 (by decide) (.inr (.inr (.inl ⟨my, at_c (by assumption) (by unfold at_; omega), by omega, rfl, rfl⟩)))
     refine ok_sk (.stop [0, 1, 5]) (S := .stop (.leaf (.tuple [.int .i64 (0 : Int), .gsl 0 0, .gsl 1 0])) [0, 1, 5] ([bC 0 5 (k + 1) c, (some Blk.dead, none), bS 5 12 (k + 1) (rowsN (putR R k x))])) (by kernel_rfl) ?_
     exact hold_stop fun hd hb => leaf_new (J := 5) hd (by simp [fitA, nf]) (look_cons hb).1 (by simp [fitA]) (look_cons (look_cons (look_cons hb).2.2).2.2).2.1 (Nat.le_refl _) (fun j hj => rfl) (by decide) (.inr (.inr (.inr ⟨my, at_c (by assumption) (by unfold at_; omega), by omega, rfl, rfl⟩)))
    refine hzr (fun h4 => by omega) ?_
    refine hold_forkD (fun h4 => ?_) (fun h4 => ?_)
    ·
     refine hold_fork (fun h5 => ?_) (fun h5 => ?_)
     ·
      exact hold_stop fun hd hb => leaf_same hd (by simp [fitA, nf]) (look_cons hb).1 (fitsA_self _ rfl) (look_cons (look_cons hb).2.2).2.1 (by decide) (.inr (.inl ⟨my, at_c (by assumption) (by unfold at_; omega), rfl, rfl⟩))
     refine hold_stop (fun hd hb => ?_)
     refine ok_sendD hd rfl (asendD c R k hk x hq) (look_cons hb).1 (look_cons (look_cons hb).2.2).2.1 (by decide) (by kernel_rfl) ?_
     rintro y G (⟨sk, rfl, rfl⟩ | ⟨sk, rfl, rfl⟩)
     ·
      refine ok_sk (.stop [0, 1]) (S := .stop (.leaf (.tuple [.int .i64 (7 : Int), .gsl 0 0, .gsl 1 0])) [0, 1] ([bC 0 1 k c, bS 1 12 k (rowsN R)])) (by kernel_rfl) ?_
      exact hold_stop fun hd hb => leaf_same hd (by simp [fitA, nf]) (look_cons hb).1 (fitsA_self _ rfl) (look_cons (look_cons hb).2.2).2.1 (by decide) (.inr (.inr (.inl ⟨my, at_c (by assumption) (by unfold at_; omega), by omega, rfl, rfl⟩)))
     refine ok_sk (.stop [0, 1, 5]) (S := .stop (.leaf (.tuple [.int .i64 (0 : Int), .gsl 0 0, .gsl 1 0])) [0, 1, 5] ([bC 0 5 (k + 1) c, (some Blk.dead, none), bS 5 12 (k + 1) (rowsN (putR R k x))])) (by kernel_rfl) ?_
     exact hold_stop fun hd hb => leaf_new (J := 5) hd (by simp [fitA, nf]) (look_cons hb).1 (by simp [fitA]) (look_cons (look_cons (look_cons hb).2.2).2.2).2.1 (Nat.le_refl _) (fun j hj => rfl) (by decide) (.inr (.inr (.inr ⟨my, at_c (by assumption) (by unfold at_; omega), by omega, rfl, rfl⟩)))
    refine hold_forkD (fun h5 => ?_) (fun h5 => ?_)
    ·
     refine hold_fork (fun h6 => ?_) (fun h6 => ?_)
     ·
      exact hold_stop fun hd hb => leaf_same hd (by simp [fitA, nf]) (look_cons hb).1 (fitsA_self _ rfl) (look_cons (look_cons hb).2.2).2.1 (by decide) (.inr (.inl ⟨my, at_c (by assumption) (by unfold at_; omega), rfl, rfl⟩))
     refine hold_stop (fun hd hb => ?_)
     refine ok_sendD hd rfl (asendD c R k hk x hq) (look_cons hb).1 (look_cons (look_cons hb).2.2).2.1 (by decide) (by kernel_rfl) ?_
     rintro y G (⟨sk, rfl, rfl⟩ | ⟨sk, rfl, rfl⟩)
     ·
      refine ok_sk (.stop [0, 1]) (S := .stop (.leaf (.tuple [.int .i64 (7 : Int), .gsl 0 0, .gsl 1 0])) [0, 1] ([bC 0 1 k c, bS 1 12 k (rowsN R)])) (by kernel_rfl) ?_
      exact hold_stop fun hd hb => leaf_same hd (by simp [fitA, nf]) (look_cons hb).1 (fitsA_self _ rfl) (look_cons (look_cons hb).2.2).2.1 (by decide) (.inr (.inr (.inl ⟨my, at_c (by assumption) (by unfold at_; omega), by omega, rfl, rfl⟩)))
     refine ok_sk (.stop [0, 1, 5]) (S := .stop (.leaf (.tuple [.int .i64 (0 : Int), .gsl 0 0, .gsl 1 0])) [0, 1, 5] ([bC 0 5 (k + 1) c, (some Blk.dead, none), bS 5 12 (k + 1) (rowsN (putR R k x))])) (by kernel_rfl) ?_
     exact hold_stop fun hd hb => leaf_new (J := 5) hd (by simp [fitA, nf]) (look_cons hb).1 (by simp [fitA]) (look_cons (look_cons (look_cons hb).2.2).2.2).2.1 (Nat.le_refl _) (fun j hj => rfl) (by decide) (.inr (.inr (.inr ⟨my, at_c (by assumption) (by unfold at_; omega), by omega, rfl, rfl⟩)))
    refine hold_forkD (fun h6 => ?_) (fun h6 => ?_)
    ·
     refine hold_fork (fun h7 => ?_) (fun h7 => ?_)
     ·
      exact hold_stop fun hd hb => leaf_same hd (by simp [fitA, nf]) (look_cons hb).1 (fitsA_self _ rfl) (look_cons (look_cons hb).2.2).2.1 (by decide) (.inr (.inl ⟨my, at_c (by assumption) (by unfold at_; omega), rfl, rfl⟩))
     refine hold_stop (fun hd hb => ?_)
     refine ok_sendD hd rfl (asendD c R k hk x hq) (look_cons hb).1 (look_cons (look_cons hb).2.2).2.1 (by decide) (by kernel_rfl) ?_
     rintro y G (⟨sk, rfl, rfl⟩ | ⟨sk, rfl, rfl⟩)
     ·
      refine ok_sk (.stop [0, 1]) (S := .stop (.leaf (.tuple [.int .i64 (7 : Int), .gsl 0 0, .gsl 1 0])) [0, 1] ([bC 0 1 k c, bS 1 12 k (rowsN R)])) (by kernel_rfl) ?_
      exact hold_stop fun hd hb => leaf_same hd (by simp [fitA, nf]) (look_cons hb).1 (fitsA_self _ rfl) (look_cons (look_cons hb).2.2).2.1 (by decide) (.inr (.inr (.inl ⟨my, at_c (by assumption) (by unfold at_; omega), by omega, rfl, rfl⟩)))
     refine ok_sk (.stop [0, 1, 5]) (S := .stop (.leaf (.tuple [.int .i64 (0 : Int), .gsl 0 0, .gsl 1 0])) [0, 1, 5] ([bC 0 5 (k + 1) c, (some Blk.dead, none), bS 5 12 (k + 1) (rowsN (putR R k x))])) (by kernel_rfl) ?_
     exact hold_stop fun hd hb => leaf_new (J := 5) hd (by simp [fitA, nf]) (look_cons hb).1 (by simp [fitA]) (look_cons (look_cons (look_cons hb).2.2).2.2).2.1 (Nat.le_refl _) (fun j hj => rfl) (by decide) (.inr (.inr (.inr ⟨my, at_c (by assumption) (by unfold at_; omega), by omega, rfl, rfl⟩)))
    refine hl (bc fun h7 => by omega) ?_
    refine hold_fork (fun h7 => ?_) (fun h7 => ?_)
    ·
     exact hold_stop fun hd hb => leaf_same hd (by simp [fitA, nf]) (look_cons hb).1 (fitsA_self _ rfl) (look_cons (look_cons hb).2.2).2.1 (by decide) (.inr (.inl ⟨my, at_c (by assumption) (by unfold at_; omega), rfl, rfl⟩))
    refine hold_stop (fun hd hb => ?_)
    refine ok_sendD hd rfl (asendD c R k hk x hq) (look_cons hb).1 (look_cons (look_cons hb).2.2).2.1 (by decide) (by kernel_rfl) ?_
    rintro y G (⟨sk, rfl, rfl⟩ | ⟨sk, rfl, rfl⟩)
    ·
     refine ok_sk (.stop [0, 1]) (S := .stop (.leaf (.tuple [.int .i64 (7 : Int), .gsl 0 0, .gsl 1 0])) [0, 1] ([bC 0 1 k c, bS 1 12 k (rowsN R)])) (by kernel_rfl) ?_
     exact hold_stop fun hd hb => leaf_same hd (by simp [fitA, nf]) (look_cons hb).1 (fitsA_self _ rfl) (look_cons (look_cons hb).2.2).2.1 (by decide) (.inr (.inr (.inl ⟨my, at_c (by assumption) (by unfold at_; omega), by omega, rfl, rfl⟩)))
    refine ok_sk (.stop [0, 1, 5]) (S := .stop (.leaf (.tuple [.int .i64 (0 : Int), .gsl 0 0, .gsl 1 0])) [0, 1, 5] ([bC 0 5 (k + 1) c, (some Blk.dead, none), bS 5 12 (k + 1) (rowsN (putR R k x))])) (by kernel_rfl) ?_
    exact hold_stop fun hd hb => leaf_new (J := 5) hd (by simp [fitA, nf]) (look_cons hb).1 (by simp [fitA]) (look_cons (look_cons (look_cons hb).2.2).2.2).2.1 (Nat.le_refl _) (fun j hj => rfl) (by decide) (.inr (.inr (.inr ⟨my, at_c (by assumption) (by unfold at_; omega), by omega, rfl, rfl⟩)))
   refine hold_forkD (fun h3 => ?_) (fun h3 => ?_)
   ·
    refine hold_forkD (fun h4 => ?_) (fun h4 => ?_)
    ·
     refine hold_fork (fun h5 => ?_) (fun h5 => ?_)
     ·
      exact hold_stop fun hd hb => leaf_same hd (by simp [fitA, nf]) (look_cons hb).1 (fitsA_self _ rfl) (look_cons (look_cons hb).2.2).2.1 (by decide) (.inr (.inl ⟨my, at_c (by assumption) (by unfold at_; omega), rfl, rfl⟩))
     refine hold_stop (fun hd hb => ?_)
     refine ok_sendD hd rfl (asendD c R k hk x hq) (look_cons hb).1 (look_cons (look_cons hb).2.2).2.1 (by decide) (by kernel_rfl) ?_
     rintro y G (⟨sk, rfl, rfl⟩ | ⟨sk, rfl, rfl⟩)
     ·
      refine ok_sk (.stop [0, 1]) (S := .stop (.leaf (.tuple [.int .i64 (7 : Int), .gsl 0 0, .gsl 1 0])) [0, 1] ([bC 0 1 k c, bS 1 12 k (rowsN R)])) (by kernel_rfl) ?_
      exact hold_stop fun hd hb => leaf_same hd (by simp [fitA, nf]) (look_cons hb).1 (fitsA_self _ rfl) (look_cons (look_cons hb).2.2).2.1 (by decide) (.inr (.inr (.inl ⟨my, at_c (by assumption) (by unfold at_; omega), by omega, rfl, rfl⟩)))
     refine ok_sk (.stop [0, 1, 5]) (S := .stop (.leaf (.tuple [.int .i64 (0 : Int), .gsl 0 0, .gsl 1 0])) [0, 1, 5] ([bC 0 5 (k + 1) c, (some Blk.dead, none), bS 5 12 (k + 1) (rowsN (putR R k x))])) (by kernel_rfl) ?_
     exact hold_stop fun hd hb => leaf_new (J := 5) hd (by simp [fitA, nf]) (look_cons hb).1 (by simp [fitA]) (look_cons (look_cons (look_cons hb).2.2).2.2).2.1 (Nat.le_refl _) (fun j hj => rfl) (by decide) (.inr (.inr (.inr ⟨my, at_c (by assumption) (by unfold at_; omega), by omega, rfl, rfl⟩)))
    refine hold_forkD (fun h5 => ?_) (fun h5 => ?_)
    ·
     refine hold_fork (fun h6 => ?_) (fun h6 => ?_)
     ·
      exact hold_stop fun hd hb => leaf_same hd (by simp [fitA, nf]) (look_cons hb).1 (fitsA_self _ rfl) (look_cons (look_cons hb).2.2).2.1 (by decide) (.inr (.inl ⟨my, at_c (by assumption) (by unfold at_; omega), rfl, rfl⟩))
     refine hold_stop (fun hd hb => ?_)
     refine ok_sendD hd rfl (asendD c R k hk x hq) (look_cons hb).1 (look_cons (look_cons hb).2.2).2.1 (by decide) (by kernel_rfl) ?_
     rintro y G (⟨sk, rfl, rfl⟩ | ⟨sk, rfl, rfl⟩)
     ·
      refine ok_sk (.stop [0, 1]) (S := .stop (.leaf (.tuple [.int .i64 (7 : Int), .gsl 0 0, .gsl 1 0])) [0, 1] ([bC 0 1 k c, bS 1 12 k (rowsN R)])) (by kernel_rfl) ?_
      exact hold_stop fun hd hb => leaf_same hd (by simp [fitA, nf]) (look_cons hb).1 (fitsA_self _ rfl) (look_cons (look_cons hb).2.2).2.1 (by decide) (.inr (.inr (.inl ⟨my, at_c (by assumption) (by unfold at_; omega), by omega, rfl, rfl⟩)))
     refine ok_sk (.stop [0, 1, 5]) (S := .stop (.leaf (.tuple [.int .i64 (0 : Int), .gsl 0 0, .gsl 1 0])) [0, 1, 5] ([bC 0 5 (k + 1) c, (some Blk.dead, none), bS 5 12 (k + 1) (rowsN (putR R k x))])) (by kernel_rfl) ?_
     exact hold_stop fun hd hb => leaf_new (J := 5) hd (by simp [fitA, nf]) (look_cons hb).1 (by simp [fitA]) (look_cons (look_cons (look_cons hb).2.2).2.2).2.1 (Nat.le_refl _) (fun j hj => rfl) (by decide) (.inr (.inr (.inr ⟨my, at_c (by assumption) (by unfold at_; omega), by omega, rfl, rfl⟩)))
    refine hzr (fun h6 => by omega) ?_
    refine hold_forkD (fun h6 => ?_) (fun h6 => ?_)
    ·
     refine hold_fork (fun h7 => ?_) (fun h7 => ?_)
     ·
      exact hold_stop fun hd hb => leaf_same hd (by simp [fitA, nf]) (look_cons hb).1 (fitsA_self _ rfl) (look_cons (look_cons hb).2.2).2.1 (by decide) (.inr (.inl ⟨my, at_c (by assumption) (by unfold at_; omega), rfl, rfl⟩))
     refine hold_stop (fun hd hb => ?_)
     refine ok_sendD hd rfl (asendD c R k hk x hq) (look_cons hb).1 (look_cons (look_cons hb).2.2).2.1 (by decide) (by kernel_rfl) ?_
     rintro y G (⟨sk, rfl, rfl⟩ | ⟨sk, rfl, rfl⟩)
     ·
      refine ok_sk (.stop [0, 1]) (S := .stop (.leaf (.tuple [.int .i64 (7 : Int), .gsl 0 0, .gsl 1 0])) [0, 1] ([bC 0 1 k c, bS 1 12 k (rowsN R)])) (by kernel_rfl) ?_
      exact hold_stop fun hd hb => leaf_same hd (by simp [fitA, nf]) (look_cons hb).1 (fitsA_self _ rfl) (look_cons (look_cons hb).2.2).2.1 (by decide) (.inr (.inr (.inl ⟨my, at_c (by assumption) (by unfold at_; omega), by omega, rfl, rfl⟩)))
     refine ok_sk (.stop [0, 1, 5]) (S := .stop (.leaf (.tuple [.int .i64 (0 : Int), .gsl 0 0, .gsl 1 0])) [0, 1, 5] ([bC 0 5 (k + 1) c, (some Blk.dead, none), bS 5 12 (k + 1) (rowsN (putR R k x))])) (by kernel_rfl) ?_
     exact hold_stop fun hd hb => leaf_new (J := 5) hd (by simp [fitA, nf]) (look_cons hb).1 (by simp [fitA]) (look_cons (look_cons (look_cons hb).2.2).2.2).2.1 (Nat.le_refl _) (fun j hj => rfl) (by decide) (.inr (.inr (.inr ⟨my, at_c (by assumption) (by unfold at_; omega), by omega, rfl, rfl⟩)))
    refine hold_forkD (fun h7 => ?_) (fun h7 => ?_)
    ·
     refine hold_fork (fun h8 => ?_) (fun h8 => ?_)
     ·
      exact hold_stop fun hd hb => leaf_same hd (by simp [fitA, nf]) (look_cons hb).1 (fitsA_self _ rfl) (look_cons (look_cons hb).2.2).2.1 (by decide) (.inr (.inl ⟨my, at_c (by assumption) (by unfold at_; omega), rfl, rfl⟩))
     refine hold_stop (fun hd hb => ?_)
     refine ok_sendD hd rfl (asendD c R k hk x hq) (look_cons hb).1 (look_cons (look_cons hb).2.2).2.1 (by decide) (by kernel_rfl) ?_
     rintro y G (⟨sk, rfl, rfl⟩ | ⟨sk, rfl, rfl⟩)
     ·
      refine ok_sk (.stop [0, 1]) (S := .stop (.leaf (.tuple [.int .i64 (7 : Int), .gsl 0 0, .gsl 1 0])) [0, 1] ([bC 0 1 k c, bS 1 12 k (rowsN R)])) (by kernel_rfl) ?_
      exact hold_stop fun hd hb => leaf_same hd (by simp [fitA, nf]) (look_cons hb).1 (fitsA_self _ rfl) (look_cons (look_cons hb).2.2).2.1 (by decide) (.inr (.inr (.inl ⟨my, at_c (by assumption) (by unfold at_; omega), by omega, rfl, rfl⟩)))
     refine ok_sk (.stop [0, 1, 5]) (S := .stop (.leaf (.tuple [.int .i64 (0 : Int), .gsl 0 0, .gsl 1 0])) [0, 1, 5] ([bC 0 5 (k + 1) c, (some Blk.dead, none), bS 5 12 (k + 1) (rowsN (putR R k x))])) (by kernel_rfl) ?_
     exact hold_stop fun hd hb => leaf_new (J := 5) hd (by simp [fitA, nf]) (look_cons hb).1 (by simp [fitA]) (look_cons (look_cons (look_cons hb).2.2).2.2).2.1 (Nat.le_refl _) (fun j hj => rfl) (by decide) (.inr (.inr (.inr ⟨my, at_c (by assumption) (by unfold at_; omega), by omega, rfl, rfl⟩)))
    refine hl (bc fun h8 => by omega) ?_
    refine hold_fork (fun h8 => ?_) (fun h8 => ?_)
    ·
     exact hold_stop fun hd hb => leaf_same hd (by simp [fitA, nf]) (look_cons hb).1 (fitsA_self _ rfl) (look_cons (look_cons hb).2.2).2.1 (by decide) (.inr (.inl ⟨my, at_c (by assumption) (by unfold at_; omega), rfl, rfl⟩))
    refine hold_stop (fun hd hb => ?_)
    refine ok_sendD hd rfl (asendD c R k hk x hq) (look_cons hb).1 (look_cons (look_cons hb).2.2).2.1 (by decide) (by kernel_rfl) ?_
    rintro y G (⟨sk, rfl, rfl⟩ | ⟨sk, rfl, rfl⟩)
    ·
     refine ok_sk (.stop [0, 1]) (S := .stop (.leaf (.tuple [.int .i64 (7 : Int), .gsl 0 0, .gsl 1 0])) [0, 1] ([bC 0 1 k c, bS 1 12 k (rowsN R)])) (by kernel_rfl) ?_
     exact hold_stop fun hd hb => leaf_same hd (by simp [fitA, nf]) (look_cons hb).1 (fitsA_self _ rfl) (look_cons (look_cons hb).2.2).2.1 (by decide) (.inr (.inr (.inl ⟨my, at_c (by assumption) (by unfold at_; omega), by omega, rfl, rfl⟩)))
    refine ok_sk (.stop [0, 1, 5]) (S := .stop (.leaf (.tuple [.int .i64 (0 : Int), .gsl 0 0, .gsl 1 0])) [0, 1, 5] ([bC 0 5 (k + 1) c, (some Blk.dead, none), bS 5 12 (k + 1) (rowsN (putR R k x))])) (by kernel_rfl) ?_
    exact hold_stop fun hd hb => leaf_new (J := 5) hd (by simp [fitA, nf]) (look_cons hb).1 (by simp [fitA]) (look_cons (look_cons (look_cons hb).2.2).2.2).2.1 (Nat.le_refl _) (fun j hj => rfl) (by decide) (.inr (.inr (.inr ⟨my, at_c (by assumption) (by unfold at_; omega), by omega, rfl, rfl⟩)))
   refine hold_forkD (fun h4 => ?_) (fun h4 => ?_)
   ·
    refine hold_forkD (fun h5 => ?_) (fun h5 => ?_)
    ·
     refine hold_fork (fun h6 => ?_) (fun h6 => ?_)
     ·
      exact hold_stop fun hd hb => leaf_same hd (by simp [fitA, nf]) (look_cons hb).1 (fitsA_self _ rfl) (look_cons (look_cons hb).2.2).2.1 (by decide) (.inr (.inl ⟨my, at_c (by assumption) (by unfold at_; omega), rfl, rfl⟩))
     refine hold_stop (fun hd hb => ?_)
     refine ok_sendD hd rfl (asendD c R k hk x hq) (look_cons hb).1 (look_cons (look_cons hb).2.2).2.1 (by decide) (by kernel_rfl) ?_
     rintro y G (⟨sk, rfl, rfl⟩ | ⟨sk, rfl, rfl⟩)
     ·
      refine ok_sk (.stop [0, 1]) (S := .stop (.leaf (.tuple [.int .i64 (7 : Int), .gsl 0 0, .gsl 1 0])) [0, 1] ([bC 0 1 k c, bS 1 12 k (rowsN R)])) (by kernel_rfl) ?_
      exact hold_stop fun hd hb => leaf_same hd (by simp [fitA, nf]) (look_cons hb).1 (fitsA_self _ rfl) (look_cons (look_cons hb).2.2).2.1 (by decide) (.inr (.inr (.inl ⟨my, at_c (by assumption) (by unfold at_; omega), by omega, rfl, rfl⟩)))
     refine ok_sk (.stop [0, 1, 5]) (S := .stop (.leaf (.tuple [.int .i64 (0 : Int), .gsl 0 0, .gsl 1 0])) [0, 1, 5] ([bC 0 5 (k + 1) c, (some Blk.dead, none), bS 5 12 (k + 1) (rowsN (putR R k x))])) (by kernel_rfl) ?_
     exact hold_stop fun hd hb => leaf_new (J := 5) hd (by simp [fitA, nf]) (look_cons hb).1 (by simp [fitA]) (look_cons (look_cons (look_cons hb).2.2).2.2).2.1 (Nat.le_refl _) (fun j hj => rfl) (by decide) (.inr (.inr (.inr ⟨my, at_c (by assumption) (by unfold at_; omega), by omega, rfl, rfl⟩)))
    refine hold_forkD (fun h6 => ?_) (fun h6 => ?_)
    ·
     refine hold_fork (fun h7 => ?_) (fun h7 => ?_)
     ·
      exact hold_stop fun hd hb => leaf_same hd (by simp [fitA, nf]) (look_cons hb).1 (fitsA_self _ rfl) (look_cons (look_cons hb).2.2).2.1 (by decide) (.inr (.inl ⟨my, at_c (by assumption) (by unfold at_; omega), rfl, rfl⟩))
     refine hold_stop (fun hd hb => ?_)
     refine ok_sendD hd rfl (asendD c R k hk x hq) (look_cons hb).1 (look_cons (look_cons hb).2.2).2.1 (by decide) (by kernel_rfl) ?_
     rintro y G (⟨sk, rfl, rfl⟩ | ⟨sk, rfl, rfl⟩)
     ·
      refine ok_sk (.stop [0, 1]) (S := .stop (.leaf (.tuple [.int .i64 (7 : Int), .gsl 0 0, .gsl 1 0])) [0, 1] ([bC 0 1 k c, bS 1 12 k (rowsN R)])) (by kernel_rfl) ?_
      exact hold_stop fun hd hb => leaf_same hd (by simp [fitA, nf]) (look_cons hb).1 (fitsA_self _ rfl) (look_cons (look_cons hb).2.2).2.1 (by decide) (.inr (.inr (.inl ⟨my, at_c (by assumption) (by unfold at_; omega), by omega, rfl, rfl⟩)))
     refine ok_sk (.stop [0, 1, 5]) (S := .stop (.leaf (.tuple [.int .i64 (0 : Int), .gsl 0 0, .gsl 1 0])) [0, 1, 5] ([bC 0 5 (k + 1) c, (some Blk.dead, none), bS 5 12 (k + 1) (rowsN (putR R k x))])) (by kernel_rfl) ?_
     exact hold_stop fun hd hb => leaf_new (J := 5) hd (by simp [fitA, nf]) (look_cons hb).1 (by simp [fitA]) (look_cons (look_cons (look_cons hb).2.2).2.2).2.1 (Nat.le_refl _) (fun j hj => rfl) (by decide) (.inr (.inr (.inr ⟨my, at_c (by assumption) (by unfold at_; omega), by omega, rfl, rfl⟩)))
    refine hold_forkD (fun h7 => ?_) (fun h7 => ?_)
    ·
     refine hold_fork (fun h8 => ?_) (fun h8 => ?_)
     ·
      exact hold_stop fun hd hb => leaf_same hd (by simp [fitA, nf]) (look_cons hb).1 (fitsA_self _ rfl) (look_cons (look_cons hb).2.2).2.1 (by decide) (.inr (.inl ⟨my, at_c (by assumption) (by unfold at_; omega), rfl, rfl⟩))
     refine hold_stop (fun hd hb => ?_)
     refine ok_sendD hd rfl (asendD c R k hk x hq) (look_cons hb).1 (look_cons (look_cons hb).2.2).2.1 (by decide) (by kernel_rfl) ?_
     rintro y G (⟨sk, rfl, rfl⟩ | ⟨sk, rfl, rfl⟩)
     ·
      refine ok_sk (.stop [0, 1]) (S := .stop (.leaf (.tuple [.int .i64 (7 : Int), .gsl 0 0, .gsl 1 0])) [0, 1] ([bC 0 1 k c, bS 1 12 k (rowsN R)])) (by kernel_rfl) ?_
      exact hold_stop fun hd hb => leaf_same hd (by simp [fitA, nf]) (look_cons hb).1 (fitsA_self _ rfl) (look_cons (look_cons hb).2.2).2.1 (by decide) (.inr (.inr (.inl ⟨my, at_c (by assumption) (by unfold at_; omega), by omega, rfl, rfl⟩)))
     refine ok_sk (.stop [0, 1, 5]) (S := .stop (.leaf (.tuple [.int .i64 (0 : Int), .gsl 0 0, .gsl 1 0])) [0, 1, 5] ([bC 0 5 (k + 1) c, (some Blk.dead, none), bS 5 12 (k + 1) (rowsN (putR R k x))])) (by kernel_rfl) ?_
     exact hold_stop fun hd hb => leaf_new (J := 5) hd (by simp [fitA, nf]) (look_cons hb).1 (by simp [fitA]) (look_cons (look_cons (look_cons hb).2.2).2.2).2.1 (Nat.le_refl _) (fun j hj => rfl) (by decide) (.inr (.inr (.inr ⟨my, at_c (by assumption) (by unfold at_; omega), by omega, rfl, rfl⟩)))
    refine hzr (fun h8 => by omega) ?_
    refine hold_forkD (fun h8 => ?_) (fun h8 => ?_)
    ·
     refine hold_fork (fun h9 => ?_) (fun h9 => ?_)
     ·
      exact hold_stop fun hd hb => leaf_same hd (by simp [fitA, nf]) (look_cons hb).1 (fitsA_self _ rfl) (look_cons (look_cons hb).2.2).2.1 (by decide) (.inr (.inl ⟨my, at_c (by assumption) (by unfold at_; omega), rfl, rfl⟩))
     refine hold_stop (fun hd hb => ?_)
     refine ok_sendD hd rfl (asendD c R k hk x hq) (look_cons hb).1 (look_cons (look_cons hb).2.2).2.1 (by decide) (by kernel_rfl) ?_
     rintro y G (⟨sk, rfl, rfl⟩ | ⟨sk, rfl, rfl⟩)
     ·
      refine ok_sk (.stop [0, 1]) (S := .stop (.leaf (.tuple [.int .i64 (7 : Int), .gsl 0 0, .gsl 1 0])) [0, 1] ([bC 0 1 k c, bS 1 12 k (rowsN R)])) (by kernel_rfl) ?_
      exact hold_stop fun hd hb => leaf_same hd (by simp [fitA, nf]) (look_cons hb).1 (fitsA_self _ rfl) (look_cons (look_cons hb).2.2).2.1 (by decide) (.inr (.inr (.inl ⟨my, at_c (by assumption) (by unfold at_; omega), by omega, rfl, rfl⟩)))
     refine ok_sk (.stop [0, 1, 5]) (S := .stop (.leaf (.tuple [.int .i64 (0 : Int), .gsl 0 0, .gsl 1 0])) [0, 1, 5] ([bC 0 5 (k + 1) c, (some Blk.dead, none), bS 5 12 (k + 1) (rowsN (putR R k x))])) (by kernel_rfl) ?_
     exact hold_stop fun hd hb => leaf_new (J := 5) hd (by simp [fitA, nf]) (look_cons hb).1 (by simp [fitA]) (look_cons (look_cons (look_cons hb).2.2).2.2).2.1 (Nat.le_refl _) (fun j hj => rfl) (by decide) (.inr (.inr (.inr ⟨my, at_c (by assumption) (by unfold at_; omega), by omega, rfl, rfl⟩)))
    refine hl (bc fun h9 => by omega) ?_
    refine hold_fork (fun h9 => ?_) (fun h9 => ?_)
    ·
     exact hold_stop fun hd hb => leaf_same hd (by simp [fitA, nf]) (look_cons hb).1 (fitsA_self _ rfl) (look_cons (look_cons hb).2.2).2.1 (by decide) (.inr (.inl ⟨my, at_c (by assumption) (by unfold at_; omega), rfl, rfl⟩))
    refine hold_stop (fun hd hb => ?_)
    refine ok_sendD hd rfl (asendD c R k hk x hq) (look_cons hb).1 (look_cons (look_cons hb).2.2).2.1 (by decide) (by kernel_rfl) ?_
    rintro y G (⟨sk, rfl, rfl⟩ | ⟨sk, rfl, rfl⟩)
    ·
     refine ok_sk (.stop [0, 1]) (S := .stop (.leaf (.tuple [.int .i64 (7 : Int), .gsl 0 0, .gsl 1 0])) [0, 1] ([bC 0 1 k c, bS 1 12 k (rowsN R)])) (by kernel_rfl) ?_
     exact hold_stop fun hd hb => leaf_same hd (by simp [fitA, nf]) (look_cons hb).1 (fitsA_self _ rfl) (look_cons (look_cons hb).2.2).2.1 (by decide) (.inr (.inr (.inl ⟨my, at_c (by assumption) (by unfold at_; omega), by omega, rfl, rfl⟩)))
    refine ok_sk (.stop [0, 1, 5]) (S := .stop (.leaf (.tuple [.int .i64 (0 : Int), .gsl 0 0, .gsl 1 0])) [0, 1, 5] ([bC 0 5 (k + 1) c, (some Blk.dead, none), bS 5 12 (k + 1) (rowsN (putR R k x))])) (by kernel_rfl) ?_
    exact hold_stop fun hd hb => leaf_new (J := 5) hd (by simp [fitA, nf]) (look_cons hb).1 (by simp [fitA]) (look_cons (look_cons (look_cons hb).2.2).2.2).2.1 (Nat.le_refl _) (fun j hj => rfl) (by decide) (.inr (.inr (.inr ⟨my, at_c (by assumption) (by unfold at_; omega), by omega, rfl, rfl⟩)))
   refine hold_forkD (fun h5 => ?_) (fun h5 => ?_)
   ·
    refine hold_forkD (fun h6 => ?_) (fun h6 => ?_)
    ·
     refine hold_fork (fun h7 => ?_) (fun h7 => ?_)
     ·
      exact hold_stop fun hd hb => leaf_same hd (by simp [fitA, nf]) (look_cons hb).1 (fitsA_self _ rfl) (look_cons (look_cons hb).2.2).2.1 (by decide) (.inr (.inl ⟨my, at_c (by assumption) (by unfold at_; omega), rfl, rfl⟩))
     refine hold_stop (fun hd hb => ?_)
     refine ok_sendD hd rfl (asendD c R k hk x hq) (look_cons hb).1 (look_cons (look_cons hb).2.2).2.1 (by decide) (by kernel_rfl) ?_
     rintro y G (⟨sk, rfl, rfl⟩ | ⟨sk, rfl, rfl⟩)
     ·
      refine ok_sk (.stop [0, 1]) (S := .stop (.leaf (.tuple [.int .i64 (7 : Int), .gsl 0 0, .gsl 1 0])) [0, 1] ([bC 0 1 k c, bS 1 12 k (rowsN R)])) (by kernel_rfl) ?_
      exact hold_stop fun hd hb => leaf_same hd (by simp [fitA, nf]) (look_cons hb).1 (fitsA_self _ rfl) (look_cons (look_cons hb).2.2).2.1 (by decide) (.inr (.inr (.inl ⟨my, at_c (by assumption) (by unfold at_; omega), by omega, rfl, rfl⟩)))
     refine ok_sk (.stop [0, 1, 5]) (S := .stop (.leaf (.tuple [.int .i64 (0 : Int), .gsl 0 0, .gsl 1 0])) [0, 1, 5] ([bC 0 5 (k + 1) c, (some Blk.dead, none), bS 5 12 (k + 1) (rowsN (putR R k x))])) (by kernel_rfl) ?_
     exact hold_stop fun hd hb => leaf_new (J := 5) hd (by simp [fitA, nf]) (look_cons hb).1 (by simp [fitA]) (look_cons (look_cons (look_cons hb).2.2).2.2).2.1 (Nat.le_refl _) (fun j hj => rfl) (by decide) (.inr (.inr (.inr ⟨my, at_c (by assumption) (by unfold at_; omega), by omega, rfl, rfl⟩)))
    refine hold_forkD (fun h7 => ?_) (fun h7 => ?_)
    ·
     refine hold_fork (fun h8 => ?_) (fun h8 => ?_)
     ·
      exact hold_stop fun hd hb => leaf_same hd (by simp [fitA, nf]) (look_cons hb).1 (fitsA_self _ rfl) (look_cons (look_cons hb).2.2).2.1 (by decide) (.inr (.inl ⟨my, at_c (by assumption) (by unfold at_; omega), rfl, rfl⟩))
     refine hold_stop (fun hd hb => ?_)
     refine ok_sendD hd rfl (asendD c R k hk x hq) (look_cons hb).1 (look_cons (look_cons hb).2.2).2.1 (by decide) (by kernel_rfl) ?_
     rintro y G (⟨sk, rfl, rfl⟩ | ⟨sk, rfl, rfl⟩)
     ·
      refine ok_sk (.stop [0, 1]) (S := .stop (.leaf (.tuple [.int .i64 (7 : Int), .gsl 0 0, .gsl 1 0])) [0, 1] ([bC 0 1 k c, bS 1 12 k (rowsN R)])) (by kernel_rfl) ?_
      exact hold_stop fun hd hb => leaf_same hd (by simp [fitA, nf]) (look_cons hb).1 (fitsA_self _ rfl) (look_cons (look_cons hb).2.2).2.1 (by decide) (.inr (.inr (.inl ⟨my, at_c (by assumption) (by unfold at_; omega), by omega, rfl, rfl⟩)))
     refine ok_sk (.stop [0, 1, 5]) (S := .stop (.leaf (.tuple [.int .i64 (0 : Int), .gsl 0 0, .gsl 1 0])) [0, 1, 5] ([bC 0 5 (k + 1) c, (some Blk.dead, none), bS 5 12 (k + 1) (rowsN (putR R k x))])) (by kernel_rfl) ?_
     exact hold_stop fun hd hb => leaf_new (J := 5) hd (by simp [fitA, nf]) (look_cons hb).1 (by simp [fitA]) (look_cons (look_cons (look_cons hb).2.2).2.2).2.1 (Nat.le_refl _) (fun j hj => rfl) (by decide) (.inr (.inr (.inr ⟨my, at_c (by assumption) (by unfold at_; omega), by omega, rfl, rfl⟩)))
    refine hold_forkD (fun h8 => ?_) (fun h8 => ?_)
    ·
     refine hold_fork (fun h9 => ?_) (fun h9 => ?_)
     ·
      exact hold_stop fun hd hb => leaf_same hd (by simp [fitA, nf]) (look_cons hb).1 (fitsA_self _ rfl) (look_cons (look_cons hb).2.2).2.1 (by decide) (.inr (.inl ⟨my, at_c (by assumption) (by unfold at_; omega), rfl, rfl⟩))
     refine hold_stop (fun hd hb => ?_)
     refine ok_sendD hd rfl (asendD c R k hk x hq) (look_cons hb).1 (look_cons (look_cons hb).2.2).2.1 (by decide) (by kernel_rfl) ?_
     rintro y G (⟨sk, rfl, rfl⟩ | ⟨sk, rfl, rfl⟩)
     ·
      refine ok_sk (.stop [0, 1]) (S := .stop (.leaf (.tuple [.int .i64 (7 : Int), .gsl 0 0, .gsl 1 0])) [0, 1] ([bC 0 1 k c, bS 1 12 k (rowsN R)])) (by kernel_rfl) ?_
      exact hold_stop fun hd hb => leaf_same hd (by simp [fitA, nf]) (look_cons hb).1 (fitsA_self _ rfl) (look_cons (look_cons hb).2.2).2.1 (by decide) (.inr (.inr (.inl ⟨my, at_c (by assumption) (by unfold at_; omega), by omega, rfl, rfl⟩)))
     refine ok_sk (.stop [0, 1, 5]) (S := .stop (.leaf (.tuple [.int .i64 (0 : Int), .gsl 0 0, .gsl 1 0])) [0, 1, 5] ([bC 0 5 (k + 1) c, (some Blk.dead, none), bS 5 12 (k + 1) (rowsN (putR R k x))])) (by kernel_rfl) ?_
     exact hold_stop fun hd hb => leaf_new (J := 5) hd (by simp [fitA, nf]) (look_cons hb).1 (by simp [fitA]) (look_cons (look_cons (look_cons hb).2.2).2.2).2.1 (Nat.le_refl _) (fun j hj => rfl) (by decide) (.inr (.inr (.inr ⟨my, at_c (by assumption) (by unfold at_; omega), by omega, rfl, rfl⟩)))
    refine hold_forkD (fun h9 => ?_) (fun h9 => ?_)
    ·
     refine hold_fork (fun h10 => ?_) (fun h10 => ?_)
     ·
      exact hold_stop fun hd hb => leaf_same hd (by simp [fitA, nf]) (look_cons hb).1 (fitsA_self _ rfl) (look_cons (look_cons hb).2.2).2.1 (by decide) (.inr (.inl ⟨my, at_c (by assumption) (by unfold at_; omega), rfl, rfl⟩))
     refine hold_stop (fun hd hb => ?_)
     refine ok_sendD hd rfl (asendD c R k hk x hq) (look_cons hb).1 (look_cons (look_cons hb).2.2).2.1 (by decide) (by kernel_rfl) ?_
     rintro y G (⟨sk, rfl, rfl⟩ | ⟨sk, rfl, rfl⟩)
     ·
      refine ok_sk (.stop [0, 1]) (S := .stop (.leaf (.tuple [.int .i64 (7 : Int), .gsl 0 0, .gsl 1 0])) [0, 1] ([bC 0 1 k c, bS 1 12 k (rowsN R)])) (by kernel_rfl) ?_
      exact hold_stop fun hd hb => leaf_same hd (by simp [fitA, nf]) (look_cons hb).1 (fitsA_self _ rfl) (look_cons (look_cons hb).2.2).2.1 (by decide) (.inr (.inr (.inl ⟨my, at_c (by assumption) (by unfold at_; omega), by omega, rfl, rfl⟩)))
     refine ok_sk (.stop [0, 1, 5]) (S := .stop (.leaf (.tuple [.int .i64 (0 : Int), .gsl 0 0, .gsl 1 0])) [0, 1, 5] ([bC 0 5 (k + 1) c, (some Blk.dead, none), bS 5 12 (k + 1) (rowsN (putR R k x))])) (by kernel_rfl) ?_
     exact hold_stop fun hd hb => leaf_new (J := 5) hd (by simp [fitA, nf]) (look_cons hb).1 (by simp [fitA]) (look_cons (look_cons (look_cons hb).2.2).2.2).2.1 (Nat.le_refl _) (fun j hj => rfl) (by decide) (.inr (.inr (.inr ⟨my, at_c (by assumption) (by unfold at_; omega), by omega, rfl, rfl⟩)))
    refine hzr (fun h10 => by omega) ?_
    refine hl (bc fun h10 => by omega) ?_
    refine hold_fork (fun h10 => ?_) (fun h10 => ?_)
    ·
     exact hold_stop fun hd hb => leaf_same hd (by simp [fitA, nf]) (look_cons hb).1 (fitsA_self _ rfl) (look_cons (look_cons hb).2.2).2.1 (by decide) (.inr (.inl ⟨my, at_c (by assumption) (by unfold at_; omega), rfl, rfl⟩))
    refine hold_stop (fun hd hb => ?_)
    refine ok_sendD hd rfl (asendD c R k hk x hq) (look_cons hb).1 (look_cons (look_cons hb).2.2).2.1 (by decide) (by kernel_rfl) ?_
    rintro y G (⟨sk, rfl, rfl⟩ | ⟨sk, rfl, rfl⟩)
    ·
     refine ok_sk (.stop [0, 1]) (S := .stop (.leaf (.tuple [.int .i64 (7 : Int), .gsl 0 0, .gsl 1 0])) [0, 1] ([bC 0 1 k c, bS 1 12 k (rowsN R)])) (by kernel_rfl) ?_
     exact hold_stop fun hd hb => leaf_same hd (by simp [fitA, nf]) (look_cons hb).1 (fitsA_self _ rfl) (look_cons (look_cons hb).2.2).2.1 (by decide) (.inr (.inr (.inl ⟨my, at_c (by assumption) (by unfold at_; omega), by omega, rfl, rfl⟩)))
    refine ok_sk (.stop [0, 1, 5]) (S := .stop (.leaf (.tuple [.int .i64 (0 : Int), .gsl 0 0, .gsl 1 0])) [0, 1, 5] ([bC 0 5 (k + 1) c, (some Blk.dead, none), bS 5 12 (k + 1) (rowsN (putR R k x))])) (by kernel_rfl) ?_
    exact hold_stop fun hd hb => leaf_new (J := 5) hd (by simp [fitA, nf]) (look_cons hb).1 (by simp [fitA]) (look_cons (look_cons (look_cons hb).2.2).2.2).2.1 (Nat.le_refl _) (fun j hj => rfl) (by decide) (.inr (.inr (.inr ⟨my, at_c (by assumption) (by unfold at_; omega), by omega, rfl, rfl⟩)))
   refine hl (bc fun h6 => by omega) ?_
   refine hold_forkD (fun h6 => ?_) (fun h6 => ?_)
   ·
    refine hold_fork (fun h7 => ?_) (fun h7 => ?_)
    ·
     exact hold_stop fun hd hb => leaf_same hd (by simp [fitA, nf]) (look_cons hb).1 (fitsA_self _ rfl) (look_cons (look_cons hb).2.2).2.1 (by decide) (.inr (.inl ⟨my, at_c (by assumption) (by unfold at_; omega), rfl, rfl⟩))
    refine hold_stop (fun hd hb => ?_)
    refine ok_sendD hd rfl (asendD c R k hk x hq) (look_cons hb).1 (look_cons (look_cons hb).2.2).2.1 (by decide) (by kernel_rfl) ?_
    rintro y G (⟨sk, rfl, rfl⟩ | ⟨sk, rfl, rfl⟩)
    ·
     refine ok_sk (.stop [0, 1]) (S := .stop (.leaf (.tuple [.int .i64 (7 : Int), .gsl 0 0, .gsl 1 0])) [0, 1] ([bC 0 1 k c, bS 1 12 k (rowsN R)])) (by kernel_rfl) ?_
     exact hold_stop fun hd hb => leaf_same hd (by simp [fitA, nf]) (look_cons hb).1 (fitsA_self _ rfl) (look_cons (look_cons hb).2.2).2.1 (by decide) (.inr (.inr (.inl ⟨my, at_c (by assumption) (by unfold at_; omega), by omega, rfl, rfl⟩)))
    refine ok_sk (.stop [0, 1, 5]) (S := .stop (.leaf (.tuple [.int .i64 (0 : Int), .gsl 0 0, .gsl 1 0])) [0, 1, 5] ([bC 0 5 (k + 1) c, (some Blk.dead, none), bS 5 12 (k + 1) (rowsN (putR R k x))])) (by kernel_rfl) ?_
    exact hold_stop fun hd hb => leaf_new (J := 5) hd (by simp [fitA, nf]) (look_cons hb).1 (by simp [fitA]) (look_cons (look_cons (look_cons hb).2.2).2.2).2.1 (Nat.le_refl _) (fun j hj => rfl) (by decide) (.inr (.inr (.inr ⟨my, at_c (by assumption) (by unfold at_; omega), by omega, rfl, rfl⟩)))
   refine hold_forkD (fun h7 => ?_) (fun h7 => ?_)
   ·
    refine hold_fork (fun h8 => ?_) (fun h8 => ?_)
    ·
     exact hold_stop fun hd hb => leaf_same hd (by simp [fitA, nf]) (look_cons hb).1 (fitsA_self _ rfl) (look_cons (look_cons hb).2.2).2.1 (by decide) (.inr (.inl ⟨my, at_c (by assumption) (by unfold at_; omega), rfl, rfl⟩))
    refine hold_stop (fun hd hb => ?_)
    refine ok_sendD hd rfl (asendD c R k hk x hq) (look_cons hb).1 (look_cons (look_cons hb).2.2).2.1 (by decide) (by kernel_rfl) ?_
    rintro y G (⟨sk, rfl, rfl⟩ | ⟨sk, rfl, rfl⟩)
    ·
     refine ok_sk (.stop [0, 1]) (S := .stop (.leaf (.tuple [.int .i64 (7 : Int), .gsl 0 0, .gsl 1 0])) [0, 1] ([bC 0 1 k c, bS 1 12 k (rowsN R)])) (by kernel_rfl) ?_
     exact hold_stop fun hd hb => leaf_same hd (by simp [fitA, nf]) (look_cons hb).1 (fitsA_self _ rfl) (look_cons (look_cons hb).2.2).2.1 (by decide) (.inr (.inr (.inl ⟨my, at_c (by assumption) (by unfold at_; omega), by omega, rfl, rfl⟩)))
    refine ok_sk (.stop [0, 1, 5]) (S := .stop (.leaf (.tuple [.int .i64 (0 : Int), .gsl 0 0, .gsl 1 0])) [0, 1, 5] ([bC 0 5 (k + 1) c, (some Blk.dead, none), bS 5 12 (k + 1) (rowsN (putR R k x))])) (by kernel_rfl) ?_
    exact hold_stop fun hd hb => leaf_new (J := 5) hd (by simp [fitA, nf]) (look_cons hb).1 (by simp [fitA]) (look_cons (look_cons (look_cons hb).2.2).2.2).2.1 (Nat.le_refl _) (fun j hj => rfl) (by decide) (.inr (.inr (.inr ⟨my, at_c (by assumption) (by unfold at_; omega), by omega, rfl, rfl⟩)))
   refine hold_forkD (fun h8 => ?_) (fun h8 => ?_)
   ·
    refine hold_fork (fun h9 => ?_) (fun h9 => ?_)
    ·
     exact hold_stop fun hd hb => leaf_same hd (by simp [fitA, nf]) (look_cons hb).1 (fitsA_self _ rfl) (look_cons (look_cons hb).2.2).2.1 (by decide) (.inr (.inl ⟨my, at_c (by assumption) (by unfold at_; omega), rfl, rfl⟩))
    refine hold_stop (fun hd hb => ?_)
    refine ok_sendD hd rfl (asendD c R k hk x hq) (look_cons hb).1 (look_cons (look_cons hb).2.2).2.1 (by decide) (by kernel_rfl) ?_
    rintro y G (⟨sk, rfl, rfl⟩ | ⟨sk, rfl, rfl⟩)
    ·
     refine ok_sk (.stop [0, 1]) (S := .stop (.leaf (.tuple [.int .i64 (7 : Int), .gsl 0 0, .gsl 1 0])) [0, 1] ([bC 0 1 k c, bS 1 12 k (rowsN R)])) (by kernel_rfl) ?_
     exact hold_stop fun hd hb => leaf_same hd (by simp [fitA, nf]) (look_cons hb).1 (fitsA_self _ rfl) (look_cons (look_cons hb).2.2).2.1 (by decide) (.inr (.inr (.inl ⟨my, at_c (by assumption) (by unfold at_; omega), by omega, rfl, rfl⟩)))
    refine ok_sk (.stop [0, 1, 5]) (S := .stop (.leaf (.tuple [.int .i64 (0 : Int), .gsl 0 0, .gsl 1 0])) [0, 1, 5] ([bC 0 5 (k + 1) c, (some Blk.dead, none), bS 5 12 (k + 1) (rowsN (putR R k x))])) (by kernel_rfl) ?_
    exact hold_stop fun hd hb => leaf_new (J := 5) hd (by simp [fitA, nf]) (look_cons hb).1 (by simp [fitA]) (look_cons (look_cons (look_cons hb).2.2).2.2).2.1 (Nat.le_refl _) (fun j hj => rfl) (by decide) (.inr (.inr (.inr ⟨my, at_c (by assumption) (by unfold at_; omega), by omega, rfl, rfl⟩)))
   refine hold_forkD (fun h9 => ?_) (fun h9 => ?_)
   ·
    refine hold_fork (fun h10 => ?_) (fun h10 => ?_)
    ·
     exact hold_stop fun hd hb => leaf_same hd (by simp [fitA, nf]) (look_cons hb).1 (fitsA_self _ rfl) (look_cons (look_cons hb).2.2).2.1 (by decide) (.inr (.inl ⟨my, at_c (by assumption) (by unfold at_; omega), rfl, rfl⟩))
    refine hold_stop (fun hd hb => ?_)
    refine ok_sendD hd rfl (asendD c R k hk x hq) (look_cons hb).1 (look_cons (look_cons hb).2.2).2.1 (by decide) (by kernel_rfl) ?_
    rintro y G (⟨sk, rfl, rfl⟩ | ⟨sk, rfl, rfl⟩)
    ·
     refine ok_sk (.stop [0, 1]) (S := .stop (.leaf (.tuple [.int .i64 (7 : Int), .gsl 0 0, .gsl 1 0])) [0, 1] ([bC 0 1 k c, bS 1 12 k (rowsN R)])) (by kernel_rfl) ?_
     exact hold_stop fun hd hb => leaf_same hd (by simp [fitA, nf]) (look_cons hb).1 (fitsA_self _ rfl) (look_cons (look_cons hb).2.2).2.1 (by decide) (.inr (.inr (.inl ⟨my, at_c (by assumption) (by unfold at_; omega), by omega, rfl, rfl⟩)))
    refine ok_sk (.stop [0, 1, 5]) (S := .stop (.leaf (.tuple [.int .i64 (0 : Int), .gsl 0 0, .gsl 1 0])) [0, 1, 5] ([bC 0 5 (k + 1) c, (some Blk.dead, none), bS 5 12 (k + 1) (rowsN (putR R k x))])) (by kernel_rfl) ?_
    exact hold_stop fun hd hb => leaf_new (J := 5) hd (by simp [fitA, nf]) (look_cons hb).1 (by simp [fitA]) (look_cons (look_cons (look_cons hb).2.2).2.2).2.1 (Nat.le_refl _) (fun j hj => rfl) (by decide) (.inr (.inr (.inr ⟨my, at_c (by assumption) (by unfold at_; omega), by omega, rfl, rfl⟩)))
   refine hl (bc fun h10 => by omega) ?_
   refine hold_fork (fun h10 => ?_) (fun h10 => ?_)
   ·
    exact hold_stop fun hd hb => leaf_same hd (by simp [fitA, nf]) (look_cons hb).1 (fitsA_self _ rfl) (look_cons (look_cons hb).2.2).2.1 (by decide) (.inr (.inl ⟨my, at_c (by assumption) (by unfold at_; omega), rfl, rfl⟩))
   refine hold_stop (fun hd hb => ?_)
   refine ok_sendD hd rfl (asendD c R k hk x hq) (look_cons hb).1 (look_cons (look_cons hb).2.2).2.1 (by decide) (by kernel_rfl) ?_
   rintro y G (⟨sk, rfl, rfl⟩ | ⟨sk, rfl, rfl⟩)
   ·
    refine ok_sk (.stop [0, 1]) (S := .stop (.leaf (.tuple [.int .i64 (7 : Int), .gsl 0 0, .gsl 1 0])) [0, 1] ([bC 0 1 k c, bS 1 12 k (rowsN R)])) (by kernel_rfl) ?_
    exact hold_stop fun hd hb => leaf_same hd (by simp [fitA, nf]) (look_cons hb).1 (fitsA_self _ rfl) (look_cons (look_cons hb).2.2).2.1 (by decide) (.inr (.inr (.inl ⟨my, at_c (by assumption) (by unfold at_; omega), by omega, rfl, rfl⟩)))
   refine ok_sk (.stop [0, 1, 5]) (S := .stop (.leaf (.tuple [.int .i64 (0 : Int), .gsl 0 0, .gsl 1 0])) [0, 1, 5] ([bC 0 5 (k + 1) c, (some Blk.dead, none), bS 5 12 (k + 1) (rowsN (putR R k x))])) (by kernel_rfl) ?_
   exact hold_stop fun hd hb => leaf_new (J := 5) hd (by simp [fitA, nf]) (look_cons hb).1 (by simp [fitA]) (look_cons (look_cons (look_cons hb).2.2).2.2).2.1 (Nat.le_refl _) (fun j hj => rfl) (by decide) (.inr (.inr (.inr ⟨my, at_c (by assumption) (by unfold at_; omega), by omega, rfl, rfl⟩)))
  refine ok_sk (.stop [0, 1]) (S := .stop (.leaf (.tuple [.int .i64 (1 : Int), .gsl 0 0, .gsl 1 0])) [0, 1] ([bC 0 1 k c, bS 1 12 k (rowsN R)])) (by kernel_rfl) ?_
  exact hold_stop fun hd hb => leaf_same hd (by simp [fitA, nf]) (look_cons hb).1 (fitsA_self _ rfl) (look_cons (look_cons hb).2.2).2.1 (by decide) (.inl ⟨my, rfl, rfl⟩)
end Go.Proofs.Ytkdmlpmjfnjnmaa
