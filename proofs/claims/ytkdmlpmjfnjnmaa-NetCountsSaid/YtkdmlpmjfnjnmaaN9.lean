import Derived.Test.YtkdmlpmjfnjnmaaN8
set_option linter.unusedSimpArgs false
namespace Go.Proofs.Ytkdmlpmjfnjnmaa
open Go Go.RowKit Sv
set_option linter.unusedVariables false
set_option maxRecDepth 100000
set_option maxHeartbeats 0
structure StM where
  d : Int
  x : NM
  K : Int
  J : Int
def StM.row (s : StM) : List AV := [.sint .u8 s.d, .sint .u8 s.x.m.k, .sint .i64 s.x.m.f, .sint .i64 s.x.m.t, .sint .u64 s.x.m.v0, .sint .u64 s.x.m.v1, .sint .u64 s.x.m.v2, .sint .u64 s.x.m.v3, .sint .u64 s.x.m.v4, .sint .u64 s.x.m.v5, evs s.x.q s.x.E, .sint .u64 s.x.m.n, .sint .i64 s.x.m.a, .sint .i64 s.K, .sint .i64 s.J]
def stp (n : Nat) (S : Nat → StM) : AV := .data 15 n fun i => (S i).row
theorem works : Runs Try.prog 6 [] fun x G => x = .bool true ∧ G = [] := by
  refine runs_treeF plain mixed (fun _ => false) (fun _ => false) 1000 ?_
  refine ok_sk (.stop []) (S := .stop (.leaf (.bool true)) [] ([])) (by kernel_rfl) ?_
  exact hold_stop fun hd hb => ok_leaf0 hd rfl ⟨rfl, rfl⟩
def fewS (n : Nat) (S : Nat → StM) (i : Nat) : List AV := [stp n S, .top, .top, .sint .i64 (i : Int), .top, .top, .top, .top, .top, .top, .top, .top, .top, .top, .top, .top, .top, .top, .top, .top, .top]
theorem few_up {S : Nat → StM} {i : Nat} (h : ∀ j, j < i → (S j).x.q ≤ 20) (h1 : (S i).x.q ≤ 20) : ∀ j, j < i + 1 → (S j).x.q ≤ 20 := fun j hj => by
  rcases Nat.lt_or_ge j i with h' | h'
  · exact h j h'
  · obtain rfl : j = i := by omega
    exact h1
theorem few (n : Nat) (S : Nat → StM) (hn : n ≤ 9223372036854775807) (hS : ∀ i, (S i).x.q ≤ 9223372036854775807) : Runs Try.prog 5 [stp n S] fun x G => G = [] ∧ ((x = .bool true ∧ n ≤ 250 ∧ ∀ i, i < n → (S i).x.q ≤ 20) ∨ x = .bool false) := by
  refine runs_treeF plain mixed (fun _ => false) (fun _ => true) 60 ?_
  refine ok_sk (.both (.stop []) (.stop [])) (S := .fork (decide (250 < (↑n : Int))) (.stop (.leaf (.bool false)) [] ([])) (.stop (.loop 54 [stp n S, .tuple [], .bool false, .int .i64 (0 : Int), stp n S, .sint .i64 (↑n : Int), .bool false, .tuple [], .tuple [], .tuple [], .tuple [], .tuple [], .tuple [], .tuple [], .tuple [], .tuple [], .tuple [], .tuple [], .tuple [], .tuple [], .tuple []]) [] ([]))) (by kernel_rfl) ?_
  refine hold_forkD (fun h0 => ?_) (fun h0 => ?_)
  ·
   exact hold_stop fun hd hb => ok_leaf0 hd rfl ⟨rfl, .inr rfl⟩
  refine hold_stop (fun hd hb => ?_)
  refine ok_loop hd (X := {i : Nat // i ≤ n ∧ ∀ j, j < i → (S j).x.q ≤ 20}) (fun i => fewS n S i.1) (fun _ => []) (fun i => n - i.1) [] ⟨0, by omega, fun j hj => absurd hj (Nat.not_lt_zero j)⟩ ⟨by simp [fewS, stp, StM.row, evs, fitsA, fitA, nf], trivial, .nil⟩ ?_
  rintro ⟨i, i1, i2⟩
  have h0 : ((i : Int).toNat) = i := by omega
  refine ok_sk (.both (.l (.both (.stop []) (.l (.stop [])))) (.stop [])) (S := .fork (decide ((↑i : Int) < (↑n : Int))) (.left (decide (0 ≤ (↑i : Int) ∧ (↑i : Int).toNat < n)) (.fork (decide (20 < (↑(S (↑i : Int).toNat).x.q : Int))) (.stop (.leaf (.bool false)) [] ([])) (.left (decide ((-9223372036854775808 : Int) ≤ (↑i : Int) + 1 ∧ (↑i : Int) + 1 ≤ 9223372036854775807)) (.stop (.again (again' (fun (i : { i : Nat // i ≤ n ∧ ∀ (j : Nat), j < i → (S j).x.q ≤ 20 }) => fewS n S i.val) (fun (x : { i : Nat // i ≤ n ∧ ∀ (j : Nat), j < i → (S j).x.q ≤ 20 }) => []) (fun (i : { i : Nat // i ≤ n ∧ ∀ (j : Nat), j < i → (S j).x.q ≤ 20 }) => n - i.val) ⟨i, ⟨i1, i2⟩⟩) [stp n S, .top, .top, .sint .i64 ((↑i : Int) + 1), .top, .top, .top, .sint .i64 (↑i : Int), stp n S, .sint .i64 (↑n : Int), .bool true, .sint .i64 (↑i : Int), .sint .i64 ((↑i : Int) + 1), stp n S, .sint .i64 (↑i : Int), .dptr (S (↑i : Int).toNat).row, .dptr [.sint .u8 (S (↑i : Int).toNat).x.m.k, .sint .i64 (S (↑i : Int).toNat).x.m.f, .sint .i64 (S (↑i : Int).toNat).x.m.t, .sint .u64 (S (↑i : Int).toNat).x.m.v0, .sint .u64 (S (↑i : Int).toNat).x.m.v1, .sint .u64 (S (↑i : Int).toNat).x.m.v2, .sint .u64 (S (↑i : Int).toNat).x.m.v3, .sint .u64 (S (↑i : Int).toNat).x.m.v4, .sint .u64 (S (↑i : Int).toNat).x.m.v5, .data 14 (S (↑i : Int).toNat).x.q fun j => ((S (↑i : Int).toNat).x.E j).row, .sint .u64 (S (↑i : Int).toNat).x.m.n, .sint .i64 (S (↑i : Int).toNat).x.m.a, .sint .i64 (S (↑i : Int).toNat).K, .sint .i64 (S (↑i : Int).toNat).J], .dptr [.data 14 (S (↑i : Int).toNat).x.q fun j => ((S (↑i : Int).toNat).x.E j).row, .sint .u64 (S (↑i : Int).toNat).x.m.n, .sint .i64 (S (↑i : Int).toNat).x.m.a, .sint .i64 (S (↑i : Int).toNat).K, .sint .i64 (S (↑i : Int).toNat).J], .data 14 (S (↑i : Int).toNat).x.q fun j => ((S (↑i : Int).toNat).x.E j).row, .sint .i64 (↑(S (↑i : Int).toNat).x.q : Int), .bool false]) [] ([]))))) (.stop (.leaf (.bool true)) [] ([]))) (by kernel_rfl) ?_
  refine hold_forkD (fun h2 => ?_) (fun h2 => ?_)
  ·
   refine hl (bc fun h3 => by omega) ?_
   refine hold_forkD (fun h3 => ?_) (fun h3 => ?_)
   ·
    exact hold_stop fun hd hb => ok_leaf0 hd rfl ⟨rfl, .inr rfl⟩
   refine hl (bc fun h4 => by omega) ?_
   refine hold_stop (fun hd hb => ?_)
   refine ok_again hd [] ⟨i + 1, by omega, few_up i2 (by rw [h0] at *; omega)⟩ (by show n - (i + 1) < n - i; omega) ⟨by simp [fewS, stp, StM.row, evs, fitsA, fitA, nf], trivial, .nil⟩
  exact hold_stop fun hd hb => ok_leaf0 hd rfl ⟨rfl, .inl ⟨rfl, by omega, fun j hj => i2 j (by omega)⟩⟩
def npS (n : Nat) (S : Nat → StM) (i : Nat) : List AV := [stp n S, .top, .top, .ptr 0 0, .ptr 1 0, .sint .i64 (i : Int), .top, .top, .top, .top, .top, .top, .top, .top, .top, .top, .top, .top, .top, .top, .top, .top, .top, .top, .top, .top, .top, .top, .top, .top, .top, .top, .top, .top, .top, .top, .top, .top, .top, .top, .top, .top, .top, .top, .top, .top, .top, .top, .top, .top, .top, .top, .top, .top, .top, .top, .top, .top, .top, .top, .top, .top, .top, .top, .top, .top, .top, .top, .top, .top, .top, .top, .top, .top, .top, .top, .top, .top, .top, .top, .top, .top, .top, .top, .top, .top, .top, .top, .top, .top, .top, .top, .top, .top, .top, .top, .top, .top, .top, .top, .top, .top, .top, .top, .top, .top, .top, .top, .top, .top, .top, .top, .top, .top, .top, .top, .top, .top, .top, .top, .top, .top, .top, .top, .top, .top, .top, .top, .top, .top, .top, .top, .top, .top, .top, .top, .top, .top, .top, .top, .top, .top, .top, .top, .top, .top, .top, .top, .top, .top, .top, .top, .top, .top, .top, .top, .top, .top, .top, .top, .top, .top, .top, .top, .top, .top, .top, .top, .top, .top, .top, .top, .top, .top, .top, .top, .top, .top, .top, .top, .top, .top, .top, .top, .top, .top, .top, .top]
def npG (c : Nat → Bool) (R : Nat → NM) (k : Nat) : List NewB := [netC c 2 k, netC c 3 k, netR R k, netR R k]
def nm0 : NM := ⟨⟨0, 0, 0, 0, 0, 0, 0, 0, 0, 0, 0⟩, 0, fun _ => ⟨0, 0, 0, 0, 0, 0, 0, 0, 0, 0, 0, 0, 0, 0⟩⟩
def cutF : List AV := [.bool false, .bool false, .bool false, .bool false, .bool false, .bool false, .bool false, .bool false, .bool false, .bool false, .bool false, .bool false, .bool false, .bool false, .bool false, .bool false, .bool false, .bool false, .bool false, .bool false, .bool false, .bool false, .bool false, .bool false, .bool false, .bool false, .bool false, .bool false, .bool false, .bool false, .bool false, .bool false, .bool false, .bool false, .bool false, .bool false]
structure NpX (n : Nat) where
  i : Nat
  k : Nat
  c : Nat → Bool
  R : Nat → NM
  hi : i ≤ n
  hk : k ≤ 128
  hq : ∀ j, (R j).q ≤ 20
/-- a call of a net of one's own. -/
theorem ok_net {P : Program} {o lp : Nat → Bool} {n0 : Nat} {R0 R' : AV → List NewB → Prop} {t : T} {f c0 k k2 : Nat} {c : Nat → Bool} {R : Nat → NM} {rest cs : List AV} {f2 : Nat → List AV} (j0 j1 : Nat) (hd : t.hd = .call f (.ptr j0 0 :: rest)) (hr : RunsM P f (netG c R k) (.ptr 0 0 :: rest) R') (hn : nfs rest = true)
    (h0 : t.heap.tr.get j0 = some (.cells c0 none (.gsl j1 k :: cs))) (hcs : cs = cutC c) (h1 : seqAt t.heap j1 = some (12, k2, f2)) (hk2 : k ≤ k2) (hf : ∀ i, i < k → rowsN R i = f2 i) (hc : c0 ≠ j1 ∧ j0 ≠ j1) (ha : alone t.heap [j0, j1] = true) (hk : ∀ x G, R' x G → (t.aftM [j0, j1] x G).ok P o lp n0 R0) : t.ok P o lp n0 R0 := by
  subst hcs
  refine ok_callM hd hr [j0, j1] (by simp [hc.2]) ⟨⟨by simp [fitA], fitsA_self _ hn⟩, ⟨⟨_, _, h0, ⟨by simp [fitA], fitsA_self _ rfl⟩⟩, .inl ⟨_, _, h1, hk2, fun i hi => ⟨hf i hi, rfl⟩⟩, trivial⟩, by simp [clsOf_cells h0, (seq_one h1).1, hc.1]⟩ ha (fun i j hi => ?_) hk
  rcases i with _ | _ | i
  · exact .inr fun ρ E w vs _ hv => vrs_ptr hv (o := 0) (by simp)
  · simp at hi; subst hi; exact .inl (seq_of h1)
  · simp at hi
theorem ok_putA {P : Program} {o lp : Nat → Bool} {n0 : Nat} {R0 R' : AV → List NewB → Prop} {t : T} {f c0 k q : Nat} {c : Nat → Bool} {R : Nat → NM} {m : MsI} {E : Nat → EvI} (j0 j1 j2 : Nat) (hd : t.hd = .call f [.ptr j0 0, .agg (m.row (.gsl j2 q))]) (hr : RunsM P f (putG c R k q E) [.ptr 0 0, .agg (m.row (.gsl 2 q))] R')
    (h0 : t.heap.tr.get j0 = some (.cells c0 none (.gsl j1 k :: cutC c))) (h1 : seqAt t.heap j1 = some (12, k, rowsN R)) (h2 : seqAt t.heap j2 = some (14, q, fun i => (E i).row)) (hc : c0 ≠ j1 ∧ c0 ≠ j2 ∧ j0 ≠ j1 ∧ j0 ≠ j2 ∧ j1 ≠ j2) (ha : alone t.heap [j0, j1, j2] = true) (hk : ∀ x G, R' x G → (t.aftM [j0, j1, j2] x G).ok P o lp n0 R0) : t.ok P o lp n0 R0 := by
  have e0 := clsOf_cells h0
  have e1 := (seq_one h1).1
  have e2 := (seq_one h2).1
  refine ok_callM hd hr [j0, j1, j2] (by simp [hc]) ⟨⟨by simp [fitA], by simp [MsI.row, fitA, fitsA], trivial⟩, ⟨⟨_, _, h0, ⟨by simp [fitA], fitsA_self _ rfl⟩⟩, .inl ⟨_, _, h1, Nat.le_refl _, fun i hi => ⟨rfl, rfl⟩⟩, .inl ⟨_, _, h2, Nat.le_refl _, fun i hi => ⟨rfl, rfl⟩⟩, trivial⟩, by simp [e0, e1, e2, hc]⟩ ha (fun i j hi => ?_) hk
  rcases i with _ | _ | _ | i
  · exact .inr fun ρ E w vs _ hv => vrs_ptr hv (o := 0) (by simp)
  · simp at hi; subst hi; exact .inl (seq_of h1)
  · simp at hi; subst hi; exact .inl (seq_of h2)
  · simp at hi
def npT (n : Nat) (S : Nat → StM) : NpX n → List AV | ⟨i, _, _, _, _, _, _⟩ => npS n S i
def npH {n : Nat} : NpX n → List NewB | ⟨_, k, c, R, _, _, _⟩ => npG c R k
def npM {n : Nat} : NpX n → Nat | ⟨i, _, _, _, _, _, _⟩ => n - i
theorem msame_self (x : NM) : eqMs x.m x.m x.q x.q x.E x.E := ⟨rfl, rfl, fun _ _ => rfl⟩
theorem views_zero {H : AH} : views H [.agg zeroRow, .agg zeroRow] [.agg nm0.row, .agg nm0.row] := by
  have hv : view H .nilSlice (evs 0 nm0.E) := by unfold evs view; rfl
  have h1 : view H (.agg zeroRow) (.agg nm0.row) := by
    unfold zeroRow NM.row MsI.row view
    simp only [views]
    refine ⟨?_, ?_, ?_, ?_, ?_, ?_, ?_, ?_, ?_, hv, ?_, ?_, trivial⟩ <;> (unfold view; exact ⟨rfl, rfl⟩)
  exact ⟨h1, h1, trivial⟩
def drS : List AV := [.top, .top, .top, .ptr 0 0, .ptr 1 0, .top, .top, .top, .top, .top, .top, .top, .top, .top, .top, .top, .top, .top, .top, .top, .top, .top, .top, .top, .top, .top, .top, .top, .top, .top, .top, .top, .top, .top, .top, .top, .top, .top, .top, .top, .top, .top, .top, .top, .top, .top, .top, .top, .top, .top, .top, .top, .top, .top, .top, .top, .top, .top, .top, .top, .top, .top, .top, .top, .top, .top, .top, .top, .top, .top, .top, .top, .top, .top, .top, .top, .top, .top, .top, .top, .top, .top, .top, .top, .top, .top, .top, .top, .top, .top, .top, .top, .top, .top, .top, .top, .top, .top, .top, .top, .top, .top, .top, .top, .top, .top, .top, .top, .top, .top, .top, .top, .top, .top, .top, .top, .top, .top, .top, .top, .top, .top, .top, .top, .top, .top, .top, .top, .top, .top, .top, .top, .top, .top, .top, .top, .top, .top, .top, .top, .top, .top, .top, .top, .top, .top, .top, .top, .top, .top, .top, .top, .top, .top, .top, .top, .top, .top, .top, .top, .top, .top, .top, .top, .top, .top, .top, .top, .top, .top, .top, .top, .top, .top, .top, .top, .top, .top, .top, .top, .top, .top, .top, .top, .top, .top, .top, .top]
structure DrX where
  k : Nat
  R : Nat → NM
  hk : k ≤ 128
  hq : ∀ j, (R j).q ≤ 20
def drT : DrX → List AV | ⟨_, _, _, _⟩ => drS
def drH (c : Nat → Bool) : DrX → List NewB | ⟨k, R, _, _⟩ => npG c R k
def drM : DrX → Nat | ⟨k, _, _, _⟩ => k
def ev0 : EvI := ⟨0, 0, 0, 0, 0, 0, 0, 0, 0, 0, 0, 0, 0, 0⟩
def evZ : List AV := [.int .i64 0, .int .u64 0, .int .u64 0, .int .u64 0, .int .u64 0, .int .u64 0, .int .u64 0, .int .u64 0, .int .u8 0, .int .u64 0, .int .i64 0, .int .i64 0, .int .u64 0, .int .u64 0]
def upE (F : Nat → EvI) (k j : Nat) : EvI := if j = k then ev0 else F j
theorem ev0_ices {H : AH} {fz : List Nat} : Ices H fz ev0.row evZ := by
  unfold EvI.row evZ ev0
  exact .cons _ _ _ _ (.sint _ _) (.cons _ _ _ _ (.sint _ _) (.cons _ _ _ _ (.sint _ _) (.cons _ _ _ _ (.sint _ _) (.cons _ _ _ _ (.sint _ _) (.cons _ _ _ _ (.sint _ _) (.cons _ _ _ _ (.sint _ _) (.cons _ _ _ _ (.sint _ _) (.cons _ _ _ _ (.sint _ _) (.cons _ _ _ _ (.sint _ _) (.cons _ _ _ _ (.sint _ _) (.cons _ _ _ _ (.sint _ _) (.cons _ _ _ _ (.sint _ _) (.cons _ _ _ _ (.sint _ _) (.nil))))))))))))))
theorem pw_some : ∀ {l : List Nat}, l.Nodup → (l.map some).Pairwise fun a b => a = none ∨ a ≠ b := fun {l} h => by
  rw [List.pairwise_map]
  exact h.imp fun h => .inr fun e => h (Option.some.inj e)
structure InX (q : Nat) where
  i : Nat
  F : Nat → EvI
  h : i ≤ q
def inS (n : Nat) (S : Nat → StM) (i : Nat) (ev : Int) (k : Nat) : List AV := [stp n S, .top, .top, .ptr 0 0, .ptr 1 0, .sint .i64 (i : Int), .ptr 4 0, .ptr 5 0, .sint .i64 ev, .sint .i64 (k : Int), .top, .top, .top, .top, .top, .top, .top, .top, .top, .top, .top, .top, .top, .top, .top, .top, .top, .top, .top, .top, .top, .top, .top, .top, .top, .top, .top, .top, .top, .top, .top, .top, .top, .top, .top, .top, .top, .top, .top, .top, .top, .top, .top, .top, .top, .top, .top, .top, .top, .top, .top, .top, .top, .top, .top, .top, .top, .top, .top, .top, .top, .top, .top, .top, .top, .top, .top, .top, .top, .top, .top, .top, .top, .top, .top, .top, .top, .top, .top, .top, .top, .top, .top, .top, .top, .top, .top, .top, .top, .top, .top, .top, .top, .top, .top, .top, .top, .top, .top, .top, .top, .top, .top, .top, .top, .top, .top, .top, .top, .top, .top, .top, .top, .top, .top, .top, .top, .top, .top, .top, .top, .top, .top, .top, .top, .top, .top, .top, .top, .top, .top, .top, .top, .top, .top, .top, .top, .top, .top, .top, .top, .top, .top, .top, .top, .top, .top, .top, .top, .top, .top, .top, .top, .top, .top, .top, .top, .top, .top, .top, .top, .top, .top, .top, .top, .top, .top, .top, .top, .top, .top, .top, .top, .top, .top, .top, .top, .top]
def inT (n : Nat) (S : Nat → StM) (i : Nat) (ev : Int) {q : Nat} : InX q → List AV | ⟨k, _, _⟩ => inS n S i ev k
def inG (c : Nat → Bool) (Ra R : Nat → NM) (ka k : Nat) (s : StM) (F : Nat → EvI) : List NewB := [netC c 2 ka, netC c 3 k, netR Ra ka, netR R k, .cells none s.row, .cells none (s.x.m.row (.gsl 6 s.x.q)), .seq 14 s.x.q fun j => (F j).row]
def inH (c : Nat → Bool) (Ra R : Nat → NM) (ka k : Nat) (s : StM) : InX s.x.q → List NewB | ⟨_, F, _⟩ => inG c Ra R ka k s F
def inM {q : Nat} : InX q → Nat | ⟨k, _, _⟩ => q - k
end Go.Proofs.Ytkdmlpmjfnjnmaa
