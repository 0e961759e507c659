import Derived.Test.YtkdmlpmjfnjnmaaSvz
/-! a tree, node by node. -/
namespace Go.Proofs.Ytkdmlpmjfnjnmaa.Sv
open Go Go.RowKit
set_option linter.unusedVariables false
set_option linter.unusedSimpArgs false
noncomputable section
def allocAllT : List NewB → Nat → AH → (AH → T) → T
  | [], _, H, K => K H
  | g :: r, s, H, K => H.allocT (g.ren (· + s)) fun H => allocAllT r s H K
/-- what stands at a tree's root. -/
inductive Hd where
  | ff
  | tt
  | leaf (x : AV)
  | again (N : List AV → AH → Bool) (t : List AV)
  | fork (c : Bool)
  | both
  | call (f : Nat) (args : List AV)
  | loop (n : Nat) (t : List AV)
def T.hd : T → Hd
  | .ff => .ff
  | .tt => .tt
  | .leaf x _ => .leaf x
  | .again N t _ => .again N t
  | .fork c _ _ => .fork c
  | .both _ _ => .both
  | .call f a _ _ => .call f a
  | .loop n _ t _ _ => .loop n t
def T.left : T → T
  | .fork _ x _ => x
  | .both x _ => x
  | _ => .ff
def T.right : T → T
  | .fork _ _ y => y
  | .both _ y => y
  | _ => .ff
def T.heap : T → AH
  | .leaf _ H => H
  | .again _ _ H => H
  | .call _ _ H _ => H
  | .loop _ _ _ H _ => H
  | _ => AH.none
/-- behind a call that told x, with blocks G. -/
def T.aft (x : AV) (G : List NewB) : T → T
  | .call _ _ H K => allocAllT G H.next H fun H2 => K (x.ren (· + H.next)) H2
  | _ => .ff
/-- a round of a loop. -/
def T.round (P : Program) (o lp : Nat → Bool) (n0 : Nat) (Ts : List AV) (G : List NewB) (N : List AV → AH → Bool) : T → T
  | .loop n b _ _ K => allocAllT G 0 AH.none fun H' => evTopRT P (evCallRT P o n0) lp n b Ts H' fun e t H2 => match e with | .normal => .again N t H2 | e => K e t H2
  | _ => .ff
def newPT (s : Nat → Nat) (m : Nat) : Nat → List NewB → AH → (AH → T) → T
  | _, [], H, K => K H
  | k, g :: G, H, K => H.allocT (cond (Nat.blt k m && g.kept) (.cells none []) (g.ren s)) fun H => newPT s m (k + 1) G H K
def updPT (s : Nat → Nat) : List Nat → List NewB → AH → (AH → T) → T
  | [], _, H, K => K H
  | j :: js, g :: G, H, K => H.putT j (cond g.kept ((g.ren s).blk j) .dead) fun H => updPT s js G H K
  | _ :: _, [], _, _ => .ff
/-- behind a call that wrote blocks js of its caller's. -/
def T.aftM (js : List Nat) (x : AV) (G : List NewB) : T → T
  | .call _ _ H K => updPT (sig js G H.next) js G H fun H1 => newPT (sig js G H.next) js.length 0 G H1 fun H2 => K (x.ren (sig js G H.next)) H2
  | _ => .ff
/-- the tree of a function that writes memory of its caller's. -/
def treeM0 (P : Program) (o : Nat → Bool) (n : Nat) (fn : Func) (c : Code) (G0 : List NewB) (args : List AV) : T :=
  allocAllT G0 0 AH.none fun H0 => evCodeRT P (evCallRT P o n) false n c (args ++ undefs (fn.ntmps - args.length)) H0 (endFunT P fn.results.toList fun x H => .leaf (.tuple (x :: marks0 0 G0.length)) H)
def treeOf (P : Program) (o lp : Nat → Bool) (n : Nat) (fn : Func) (c : Code) (args : List AV) : T :=
  evTopRT P (evCallRT P o n) lp n c (args ++ undefs (fn.ntmps - args.length)) AH.none (endFunT P fn.results.toList .leaf)
/-- a tree holds. -/
@[irreducible] def T.ok (P : Program) (o lp : Nat → Bool) (n0 : Nat) (R : AV → List NewB → Prop) (t : T) : Prop :=
  t.run (leaf' R) (callSpec P) (fun n b => loopSpec (evTopR P (evCallR P o (callSpec P) n0) lp n b)) = true
variable {P : Program} {o lp : Nat → Bool} {n0 : Nat} {R : AV → List NewB → Prop} {t : T}
theorem ok_def : t.ok P o lp n0 R = (t.run (leaf' R) (callSpec P) (fun n b => loopSpec (evTopR P (evCallR P o (callSpec P) n0) lp n b)) = true) := by unfold T.ok; rfl
theorem runs_tree (hP : Plain P) (hm : P.follows .mixedOrders = true) {f : Nat} {fn : Func} {c : Code} (hf : P.funcs[f]? = some fn) (hb : fn.body = some c) {n : Nat} {args : List AV}
    (h : (treeOf P o lp n fn c args).ok P o lp n R) : Runs P f args R := by
  refine runs_by hP hm hf hb (o := o) (lp := lp) (n := n) ?_
  rw [ok_def] at h
  unfold treeOf at h
  rw [evTop_sim lp (evCall_sim o n)] at h
  have e : (fun (e : Ex) t H => T.run (leaf' R) (callSpec P) (fun n_1 b => loopSpec (evTopR P (evCallR P o (callSpec P) n) lp n_1 b)) (endFunT P fn.results.toList .leaf e t H)) = endFun P fn.results.toList (leaf' R) := by
    funext e t H
    unfold endFunT endFun
    split
    · split <;> rfl
    · split <;> rfl
    · rfl
  rw [e] at h
  exact h
theorem ok_fork {c : Bool} (h : t.hd = .fork c) (h1 : c = true → t.left.ok P o lp n0 R) (h2 : c = false → t.right.ok P o lp n0 R) : t.ok P o lp n0 R := by
  cases t <;> cases h
  rw [ok_def] at h1 h2 ⊢
  rw [run_fork, fork_eq]
  cases c
  · exact h2 rfl
  · exact h1 rfl
theorem ok_forkD {p : Prop} [d : Decidable p] (h : t.hd = .fork (decide p)) (h1 : p → t.left.ok P o lp n0 R) (h2 : ¬ p → t.right.ok P o lp n0 R) : t.ok P o lp n0 R :=
  ok_fork h (fun k => h1 (of_decide_eq_true k)) fun k => h2 (of_decide_eq_false k)
theorem ok_forkC {p : Prop} (h : t.hd = .fork (@decide p (Classical.propDecidable p))) (h1 : p → t.left.ok P o lp n0 R) (h2 : ¬ p → t.right.ok P o lp n0 R) : t.ok P o lp n0 R :=
  @ok_forkD _ _ _ _ _ _ _ (Classical.propDecidable p) h h1 h2
theorem ok_both (h : t.hd = .both) (h1 : t.left.ok P o lp n0 R) (h2 : t.right.ok P o lp n0 R) : t.ok P o lp n0 R := by
  cases t <;> cases h
  rw [ok_def] at h1 h2 ⊢
  rw [run_both]
  unfold T.left at h1
  unfold T.right at h2
  simp only at h1 h2
  rw [h1, h2]
theorem ok_tt (h : t.hd = .tt) : t.ok P o lp n0 R := by
  cases t <;> cases h
  rw [ok_def]; rfl
theorem ok_leafZ {x y : AV} {fz : List Nat} {ns : List (Option Nat)} {G : List NewB} (h : t.hd = .leaf x) (hf : FitsZ fz ns [x] t.heap [y] G) (hR : R y G) : t.ok P o lp n0 R := by
  cases t <;> cases h
  rw [ok_def]
  exact leaf_ofZ fz ns y G hf hR
theorem ok_leaf {x y : AV} {ns : List (Option Nat)} {G : List NewB} (h : t.hd = .leaf x) (hf : Fits ns [x] t.heap [y] G) (hR : R y G) : t.ok P o lp n0 R := by
  cases t <;> cases h
  rw [ok_def]
  exact leaf_of ns y G hf hR
theorem ok_againZ {X : Type} {S : X → List AV} {G : X → List NewB} {m : X → Nat} {x : X} {tm : List AV} (h : t.hd = .again (again' S G m x) tm) (fz : List Nat) (ns : List (Option Nat)) (y : X) (hm : m y < m x) (hf : FitsZ fz ns tm t.heap (S y) (G y)) : t.ok P o lp n0 R := by
  cases t <;> cases h
  rw [ok_def]
  exact again_ofZ fz ns y hm hf
theorem ok_again {X : Type} {S : X → List AV} {G : X → List NewB} {m : X → Nat} {x : X} {tm : List AV} (h : t.hd = .again (again' S G m x) tm) (ns : List (Option Nat)) (y : X) (hm : m y < m x) (hf : Fits ns tm t.heap (S y) (G y)) : t.ok P o lp n0 R := by
  cases t <;> cases h
  rw [ok_def]
  exact again_of ns y hm hf
theorem allocAll_sim {L : AV → AH → Bool} {rc : Nat → List AV → AH → (AV → AH → Bool) → Bool} {rl : Nat → Code → List AV → AH → (Ex → List AV → AH → Bool) → Bool} : ∀ (G : List NewB) (s : Nat) (H : AH) (K : AH → T), (allocAllT G s H K).run L rc rl = allocAll G s H fun H => (K H).run L rc rl
  | [], s, H, K => rfl
  | g :: r, s, H, K => by
    rw [allocAllT, allocAll, alloc_sim]
    simp only [allocAll_sim r]
theorem ok_call {f : Nat} {args ds : List AV} {R' : AV → List NewB → Prop} (h : t.hd = .call f args) (hr : Runs P f ds R') (hv : views t.heap args ds) (hk : ∀ x G, R' x G → df x = true ∧ (∀ g ∈ G, GDF g) ∧ (t.aft x G).ok P o lp n0 R) : t.ok P o lp n0 R := by
  cases t <;> cases h
  rw [ok_def]
  refine callSpec_of hr hv fun x G hx => ?_
  obtain ⟨k1, k2, k3⟩ := hk x G hx
  refine ⟨k1, k2, ?_⟩
  rw [ok_def] at k3
  unfold T.aft at k3
  simp only at k3
  rw [allocAll_sim] at k3
  exact k3
/-- a call that sees no memory of its caller's. -/
theorem ok_callK {f : Nat} {args ds : List AV} {R' : AV → List NewB → Prop} (h : t.hd = .call f args) (hr : Runs P f ds R') (hv : fitsA [] ds args) (hn : nfs ds = true) (hk : ∀ x G, R' x G → (t.aft x G).ok P o lp n0 R) : t.ok P o lp n0 R := by
  cases t <;> cases h
  rw [ok_def]
  refine callSpec_K ⟨R', ds, hv, hn, hr, fun x G hx => ?_⟩
  have k3 := hk x G hx
  rw [ok_def] at k3
  unfold T.aft at k3
  simp only at k3
  rw [allocAll_sim] at k3
  exact k3
theorem newP_sim {L : AV → AH → Bool} {rc : Nat → List AV → AH → (AV → AH → Bool) → Bool} {rl : Nat → Code → List AV → AH → (Ex → List AV → AH → Bool) → Bool} (s : Nat → Nat) (m : Nat) : ∀ (G : List NewB) (k : Nat) (H : AH) (K : AH → T), (newPT s m k G H K).run L rc rl = newP s m k G H fun H => (K H).run L rc rl
  | [], k, H, K => rfl
  | g :: r, k, H, K => by
    rw [newPT, newP, alloc_sim]
    simp only [newP_sim s m r]
theorem updP_sim {L : AV → AH → Bool} {rc : Nat → List AV → AH → (AV → AH → Bool) → Bool} {rl : Nat → Code → List AV → AH → (Ex → List AV → AH → Bool) → Bool} (s : Nat → Nat) : ∀ (js : List Nat) (G : List NewB) (H : AH) (K : AH → T), (updPT s js G H K).run L rc rl = updP s js G H fun H => (K H).run L rc rl
  | [], G, H, K => rfl
  | j :: js, [], H, K => rfl
  | j :: js, g :: G, H, K => by
    rw [updPT, updP, put_sim]
    simp only [updP_sim s js]
theorem ok_callM {f : Nat} {args bs : List AV} {G0 : List NewB} {R' : AV → List NewB → Prop} (h : t.hd = .call f args) (hr : RunsM P f G0 bs R') (js : List Nat) (hn : js.Nodup) (hf : Fits (js.map some) args t.heap bs G0) (ha : alone t.heap js = true)
    (hnm : ∀ (k j : Nat), js[k]? = some j → (∃ c z n f, t.heap.tr.get j = some (.seq c z n f)) ∨ ∀ (ρ : Ctx) (E : Env) (w : World) (vs : List Value), RelG ρ E G0 w → VRs ρ E bs vs → ∃ r, E k = some r)
    (hk : ∀ x G, R' x G → (t.aftM js x G).ok P o lp n0 R) : t.ok P o lp n0 R := by
  cases t <;> cases h
  rw [ok_def]
  refine callSpec_M ⟨R', G0, bs, js, hr, hn, hf, ha, hnm, fun x G hx => ?_⟩
  have k3 := hk x G hx
  rw [ok_def] at k3
  unfold T.aftM at k3
  simp only at k3
  rw [updP_sim] at k3
  simp only [newP_sim] at k3
  exact k3
theorem runsM_tree (hP : Plain P) (hm : P.follows .mixedOrders = true) {f : Nat} {fn : Func} {c : Code} (hf : P.funcs[f]? = some fn) (hb : fn.body = some c) {n : Nat} {G0 : List NewB} {args : List AV}
    (h : (treeM0 P o n fn c G0 args).ok P o (fun _ => false) n (RM G0.length R)) : RunsM P f G0 args R := by
  refine runsM_by hP hm hf hb (o := o) (n := n) ?_
  rw [ok_def] at h
  unfold treeM0 at h
  rw [allocAll_sim] at h
  have e : ∀ H0, (evCodeRT P (evCallRT P o n) false n c (args ++ undefs (fn.ntmps - args.length)) H0 (endFunT P fn.results.toList fun x H => T.leaf (.tuple (x :: marks0 0 G0.length)) H)).run (leaf' (RM G0.length R)) (callSpec P) (fun n_1 b => loopSpec (evTopR P (evCallR P o (callSpec P) n) (fun _ => false) n_1 b)) =
      evCodeR P (evCallR P o (callSpec P) n) false n c (args ++ undefs (fn.ntmps - args.length)) H0 (endFun P fn.results.toList fun x H => leaf' (RM G0.length R) (.tuple (x :: marks0 0 G0.length)) H) := fun H0 => by
    rw [evCode_sim (evCall_sim o n)]
    congr 1
    funext e t H
    unfold endFunT endFun
    split
    · split <;> rfl
    · split <;> rfl
    · rfl
  simp only [e] at h
  exact h
theorem ok_loopZ {n : Nat} {tm : List AV} (h : t.hd = .loop n tm) {X : Type} (S : X → List AV) (G : X → List NewB) (m : X → Nat) (fz : List Nat) (ns : List (Option Nat)) (x0 : X) (hf : FitsZ fz ns tm t.heap (S x0) (G x0))
    (hk : ∀ x, (t.round P o lp n0 (S x) (G x) (again' S G m x)).ok P o lp n0 R) : t.ok P o lp n0 R := by
  cases t <;> cases h
  rename_i b H K
  rw [ok_def]
  refine loop_ofZ S G m fz ns x0 hf fun x => ?_
  have k := hk x
  rw [ok_def] at k
  unfold T.round at k
  simp only at k
  rw [allocAll_sim] at k
  have e : ∀ H', ((evTopRT P (evCallRT P o n0) lp n b (S x) H' fun e t H2 => match e with | .normal => Sv.T.again (again' S G m x) t H2 | e => K e t H2).run (leaf' R) (callSpec P) fun n b => loopSpec (evTopR P (evCallR P o (callSpec P) n0) lp n b)) =
      evTopR P (evCallR P o (callSpec P) n0) lp n b (S x) H' fun e t H2 => match e with | .normal => again' S G m x t H2 | e => (K e t H2).run (leaf' R) (callSpec P) fun n b => loopSpec (evTopR P (evCallR P o (callSpec P) n0) lp n b) := fun H' => by
    rw [evTop_sim lp (evCall_sim o n0)]
    congr 1
    funext e t H2
    cases e <;> rfl
  simp only [e] at k
  exact k
theorem ok_loop {n : Nat} {tm : List AV} (h : t.hd = .loop n tm) {X : Type} (S : X → List AV) (G : X → List NewB) (m : X → Nat) (ns : List (Option Nat)) (x0 : X) (hf : Fits ns tm t.heap (S x0) (G x0))
    (hk : ∀ x, (t.round P o lp n0 (S x) (G x) (again' S G m x)).ok P o lp n0 R) : t.ok P o lp n0 R := by
  cases t <;> cases h
  rename_i b H K
  rw [ok_def]
  refine loop_of S G m ns x0 hf fun x => ?_
  have k := hk x
  rw [ok_def] at k
  unfold T.round at k
  simp only at k
  rw [allocAll_sim] at k
  have e : ∀ H', ((evTopRT P (evCallRT P o n0) lp n b (S x) H' fun e t H2 => match e with | .normal => Sv.T.again (again' S G m x) t H2 | e => K e t H2).run (leaf' R) (callSpec P) fun n b => loopSpec (evTopR P (evCallR P o (callSpec P) n0) lp n b)) =
      evTopR P (evCallR P o (callSpec P) n0) lp n b (S x) H' fun e t H2 => match e with | .normal => again' S G m x t H2 | e => (K e t H2).run (leaf' R) (callSpec P) fun n b => loopSpec (evTopR P (evCallR P o (callSpec P) n0) lp n b) := fun H' => by
    rw [evTop_sim lp (evCall_sim o n0)]
    congr 1
    funext e t H2
    cases e <;> rfl
  simp only [e] at k
  exact k
theorem ok_ff (h : T.ok P o lp n0 R .ff) : False := by
  rw [ok_def] at h
  cases h
/-- the tree of a function's call. -/
@[irreducible] def treeF (P : Program) (o lp : Nat → Bool) (n f : Nat) (args : List AV) : T := match P.funcs[f]? with
  | none => .ff
  | some fn => match fn.body with
    | none => .ff
    | some c => treeOf P o lp n fn c args
/-- a function runs as its tree says. -/
theorem runs_treeF (hP : Plain P) (hm : P.follows .mixedOrders = true) {f : Nat} (o lp : Nat → Bool) (n : Nat) {args : List AV} (h : (treeF P o lp n f args).ok P o lp n R) : Runs P f args R := by
  unfold treeF at h
  split at h
  · exact (ok_ff h).elim
  · rename_i fn hf
    split at h
    · exact (ok_ff h).elim
    · rename_i c hb
      exact runs_tree hP hm hf hb h
/-- the tree of a function that writes memory of its caller's. -/
@[irreducible] def treeM (P : Program) (o : Nat → Bool) (n f : Nat) (G0 : List NewB) (args : List AV) : T := match P.funcs[f]? with
  | none => .ff
  | some fn => match fn.body with
    | none => .ff
    | some c => treeM0 P o n fn c G0 args
theorem runs_treeM (hP : Plain P) (hm : P.follows .mixedOrders = true) {f : Nat} (o : Nat → Bool) (n : Nat) (G0 : List NewB) {args : List AV} (h : (treeM P o n f G0 args).ok P o (fun _ => false) n (RM G0.length R)) : RunsM P f G0 args R := by
  unfold treeM at h
  split at h
  · exact (ok_ff h).elim
  · rename_i fn hf
    split at h
    · exact (ok_ff h).elim
    · rename_i c hb
      exact runsM_tree hP hm hf hb h
mutual
theorem fitA_self {ns : List (Option Nat)} : ∀ (a : AV), nf a = true → fitA ns a a
  | .agg l, h => by
    unfold fitA
    exact fitsA_self l (by simpa [nf] using h)
  | .tuple l, h => by
    unfold fitA
    exact fitsA_self l (by simpa [nf] using h)
  | .sint k x, h => by simp [fitA]
  | .bool _, h => by simp [fitA, nf]
  | .int _ _, h => by simp [fitA, nf]
  | .str _, h => by simp [fitA, nf]
  | .nilPtr, h => by simp [fitA, nf]
  | .nilSlice, h => by simp [fitA, nf]
  | .nilMap, h => by simp [fitA, nf]
  | .nilFn, h => by simp [fitA, nf]
  | .data _ _ _, h => by simp [fitA, nf]
  | .dptr _, h => by simp [fitA, nf]
  | .fn f a b, h => by
    unfold fitA
    simp only [nf, Bool.and_eq_true] at h
    exact ⟨rfl, fitsA_self a h.1, fitsA_self b h.2⟩
  | .ptr _ _, h => by simp [nf] at h
  | .slice _ _ _ _ _, h => by simp [nf] at h
  | .empty, h => by simp [nf] at h
  | .map _, h => by simp [nf] at h
  | .yield _, h => by simp [nf] at h
  | .atom _, h => by simp [nf] at h
  | .any, h => by simp [nf] at h
  | .anySlice, h => by simp [nf] at h
  | .unkI _, h => by simp [nf] at h
  | .unkB, h => by simp [nf] at h
  | .sbool _, h => by simp [fitA, nf]
  | .half _, h => by simp [nf] at h
  | .top, h => by simp [nf] at h
  | .gsl _ _, h => by simp [nf] at h
  | .gptr _ _ _, h => by simp [nf] at h
  | .part _ _ _, h => by simp [nf] at h
theorem fitsA_self {ns : List (Option Nat)} : ∀ (l : List AV), nfs l = true → fitsA ns l l
  | [], h => by simp [fitsA]
  | a :: l, h => by
    unfold fitsA
    simp only [nfs, Bool.and_eq_true] at h
    exact ⟨fitA_self a h.1, fitsA_self l h.2⟩
end
/-- a result that names no memory. -/
theorem ok_leaf0 {x : AV} (h : t.hd = .leaf x) (hn : nf x = true) (hR : R x []) : t.ok P o lp n0 R :=
  ok_leaf (ns := []) (G := []) h ⟨⟨fitA_self x hn, trivial⟩, trivial, .nil⟩ hR
end
end Go.Proofs.Ytkdmlpmjfnjnmaa.Sv
