import Derived.Test.YtkdmlpmjfnjnmaaSvw
/-! the tree's truth is the evaluator's. -/
namespace Go.Proofs.Ytkdmlpmjfnjnmaa.Sv
open Go Go.RowKit
set_option linter.unusedVariables false
set_option linter.unusedSimpArgs false
def T.run (L : AV → AH → Bool) (rc : Nat → List AV → AH → (AV → AH → Bool) → Bool) (rl : Nat → Code → List AV → AH → (Ex → List AV → AH → Bool) → Bool) : T → Bool
  | .ff => false
  | .tt => true
  | .leaf x H => L x H
  | .again N t H => N t H
  | .fork c x y => Sv.fork c (x.run L rc rl) (y.run L rc rl)
  | .both x y => match x.run L rc rl with | true => y.run L rc rl | false => false
  | .call f a H K => rc f a H fun x H => (K x H).run L rc rl
  | .loop n b t H K => rl n b t H fun e t H => (K e t H).run L rc rl
variable {P : Program} {H : AH} {L : AV → AH → Bool} {rc : Nat → List AV → AH → (AV → AH → Bool) → Bool} {rl : Nat → Code → List AV → AH → (Ex → List AV → AH → Bool) → Bool}
theorem run_ff : T.run L rc rl .ff = false := rfl
theorem run_tt : T.run L rc rl .tt = true := rfl
theorem run_fork (c : Bool) (x y : T) : T.run L rc rl (.fork c x y) = Sv.fork c (x.run L rc rl) (y.run L rc rl) := rfl
theorem run_both (x y : T) : T.run L rc rl (.both x y) = match x.run L rc rl with | true => y.run L rc rl | false => false := rfl
theorem run_cond (c : Bool) (x y : T) : T.run L rc rl (cond c x y) = cond c (x.run L rc rl) (y.run L rc rl) := by cases c <;> rfl
theorem run_allT {α : Type} (f : α → T) : ∀ l, T.run L rc rl (allT f l) = allB (fun a => (f a).run L rc rl) l
  | [] => rfl
  | a :: r => by
    have e : allT f (a :: r) = .both (f a) (allT f r) := rfl
    rw [e, run_both, run_allT f r, allB]
    cases T.run L rc rl (f a) <;> rfl
theorem fNat_sim (n : Nat) (K : Nat → T) : (fNatT n K).run L rc rl = fNat n fun n => (K n).run L rc rl := by cases n <;> rfl
theorem fInt_sim (n : Int) (K : Int → T) : (fIntT n K).run L rc rl = fInt n fun n => (K n).run L rc rl := by
  cases n <;> simp only [fIntT, fInt, fNat_sim]
theorem force_sim (a : AV) (K : AV → T) : (a.forceT K).run L rc rl = a.force fun a => (K a).run L rc rl := by
  cases a <;> try rfl
  case bool b => cases b <;> rfl
  case int k n => simp only [AV.forceT, AV.force, fInt_sim]
  case ptr b o => simp only [AV.forceT, AV.force, fNat_sim]
  case slice b o l c e => simp only [AV.forceT, AV.force, fNat_sim]; cases e <;> rfl
theorem force1_sim (a : AV) (K : AV → T) : (force1T a K).run L rc rl = force1 a fun a => (K a).run L rc rl := by
  cases a <;> try rfl
  case bool b => cases b <;> rfl
  case int k n => simp only [force1T, force1, fInt_sim]
  case slice b o l c e => simp only [force1T, force1, fNat_sim]; cases e <;> rfl
  all_goals simp only [force1T, force1, fNat_sim]
theorem forceL_sim : ∀ (l : List AV) (K : List AV → T), (forceLT l K).run L rc rl = forceL l fun l => (K l).run L rc rl
  | [], K => rfl
  | a :: l, K => by
    have e : forceLT (a :: l) K = force1T a fun a => forceLT l fun r => K (a :: r) := rfl
    have e' : forceL (a :: l) (fun l => (K l).run L rc rl) = force1 a fun a => forceL l fun r => (K (a :: r)).run L rc rl := rfl
    rw [e, e', force1_sim]
    simp only [forceL_sim l]
theorem force2_sim (a : AV) (K : AV → T) : (force2T a K).run L rc rl = force2 a fun a => (K a).run L rc rl := by
  unfold force2T force2
  split
  · exact forceL_sim _ _
  · exact force1_sim _ _
theorem forceL2_sim : ∀ (l : List AV) (K : List AV → T), (forceL2T l K).run L rc rl = forceL2 l fun l => (K l).run L rc rl
  | [], K => rfl
  | a :: l, K => by
    have e : forceL2T (a :: l) K = force2T a fun a => forceL2T l fun r => K (a :: r) := rfl
    have e' : forceL2 (a :: l) (fun l => (K l).run L rc rl) = force2 a fun a => forceL2 l fun r => (K (a :: r)).run L rc rl := rfl
    rw [e, e', force2_sim]
    simp only [forceL2_sim l]
theorem fd_sim (a : AV) (K : AV → T) : (a.fdT K).run L rc rl = a.fd fun a => (K a).run L rc rl := by
  unfold AV.fdT AV.fd
  split
  · exact forceL_sim _ _
  · exact forceL2_sim _ _
  · exact force1_sim _ _
theorem set_sim {α : Type} : ∀ (f : Nat) (t : Tr α) (k : Nat) (v : α) (K : Tr α → T), (Tr.setT f t k v K).run L rc rl = Tr.set f t k v fun t => (K t).run L rc rl
  | 0, t, k, v, K => rfl
  | f + 1, .nil, k, v, K => by
    have e : Tr.setT (f + 1) .nil k v K = @Bool.rec (fun _ => T) (@Bool.rec (fun _ => T) (Tr.setT f .nil (Nat.sub (Nat.div k 2) 1) v fun r => K (.node .nil none r)) (Tr.setT f .nil (Nat.div k 2) v fun l => K (.node l none .nil)) (Nat.beq (Nat.mod k 2) 1)) (K (.node .nil (some v) .nil)) (Nat.beq k 0) := rfl
    have e' : Tr.set (f + 1) .nil k v (fun t => (K t).run L rc rl) = @Bool.rec (fun _ => Bool) (@Bool.rec (fun _ => Bool) (Tr.set f .nil (Nat.sub (Nat.div k 2) 1) v fun r => (K (.node .nil none r)).run L rc rl) (Tr.set f .nil (Nat.div k 2) v fun l => (K (.node l none .nil)).run L rc rl) (Nat.beq (Nat.mod k 2) 1)) ((K (.node .nil (some v) .nil)).run L rc rl) (Nat.beq k 0) := rfl
    rw [e, e']
    cases Nat.beq k 0
    · cases Nat.beq (Nat.mod k 2) 1
      · exact set_sim f _ _ _ _
      · exact set_sim f _ _ _ _
    · rfl
  | f + 1, .node l x r, k, v, K => by
    have e : Tr.setT (f + 1) (.node l x r) k v K = @Bool.rec (fun _ => T) (@Bool.rec (fun _ => T) (Tr.setT f r (Nat.sub (Nat.div k 2) 1) v fun r => K (.node l x r)) (Tr.setT f l (Nat.div k 2) v fun l => K (.node l x r)) (Nat.beq (Nat.mod k 2) 1)) (K (.node l (some v) r)) (Nat.beq k 0) := rfl
    have e' : Tr.set (f + 1) (.node l x r) k v (fun t => (K t).run L rc rl) = @Bool.rec (fun _ => Bool) (@Bool.rec (fun _ => Bool) (Tr.set f r (Nat.sub (Nat.div k 2) 1) v fun r => (K (.node l x r)).run L rc rl) (Tr.set f l (Nat.div k 2) v fun l => (K (.node l x r)).run L rc rl) (Nat.beq (Nat.mod k 2) 1)) ((K (.node l (some v) r)).run L rc rl) (Nat.beq k 0) := rfl
    rw [e, e']
    cases Nat.beq k 0
    · cases Nat.beq (Nat.mod k 2) 1
      · exact set_sim f _ _ _ _
      · exact set_sim f _ _ _ _
    · rfl
theorem put_sim (H : AH) (b : Nat) (k : Blk) (K : AH → T) : (H.putT b k K).run L rc rl = H.put b k fun H => (K H).run L rc rl := by
  cases H
  unfold AH.putT AH.put
  exact set_sim _ _ _ _ _
theorem kill_sim (b : Nat) : ∀ (l : List Nat) (H : AH) (K : AH → T), (AH.killT b l H K).run L rc rl = AH.kill b l H fun H => (K H).run L rc rl
  | [], H, K => rfl
  | x :: l, H, K => by
    rw [AH.killT, AH.kill, run_cond, kill_sim b l, put_sim]
    simp only [kill_sim b l]
theorem own_sim (H : AH) (b : Nat) (K : AH → T) : (H.ownT b K).run L rc rl = H.own b fun H => (K H).run L rc rl := by
  unfold AH.ownT AH.own
  split
  · rfl
  · split
    · rfl
    · split
      · rfl
      · rw [kill_sim]
        congr 1
        funext H
        cases H
        exact set_sim _ _ _ _ _
theorem alloc_sim (H : AH) (n : NewB) (K : AH → T) : (H.allocT n K).run L rc rl = H.alloc n fun H => (K H).run L rc rl := by
  cases H with
  | mk t m x =>
    unfold AH.allocT AH.alloc
    dsimp only
    simp only [set_sim, fNat_sim]
theorem aset0_sim : ∀ (l : List AV) (n : Nat) (v : AV) (K : List AV → T), (aset0T l n v K).run L rc rl = aset0 l n v fun l => (K l).run L rc rl
  | [], n, v, K => rfl
  | a :: l, 0, v, K => rfl
  | a :: l, n + 1, v, K => aset0_sim l n v fun r => K (a :: r)
theorem asetC_sim : ∀ (q : Nat) (l : List AV) (n : Nat) (v : AV) (K : List AV → T), (asetCT q l n v K).run L rc rl = asetC q l n v fun l => (K l).run L rc rl
  | 0, l, n, v, K => aset0_sim l n v K
  | q + 1, l, n, v, K => by
    have h1 : asetCT (q + 1) l n v K = (match (generalizing := false) l with
      | a :: b :: c :: d :: e :: f :: g :: h :: r => asetCT q r n v fun r => K (a :: b :: c :: d :: e :: f :: g :: h :: r)
      | l => K l) := rfl
    have h2 : asetC (q + 1) l n v (fun l => (K l).run L rc rl) = (match (generalizing := false) l with
      | a :: b :: c :: d :: e :: f :: g :: h :: r => asetC q r n v fun r => (K (a :: b :: c :: d :: e :: f :: g :: h :: r)).run L rc rl
      | l => (K l).run L rc rl) := rfl
    rw [h1, h2]
    split
    · exact asetC_sim q _ _ _ _
    · rfl
theorem aset_sim (l : List AV) (n : Nat) (v : AV) (K : List AV → T) : (asetT l n v K).run L rc rl = aset l n v fun l => (K l).run L rc rl := asetC_sim _ _ _ _ _
theorem wset_sim : ∀ (l : List AV) (o : Nat) (vs : List AV) (K : List AV → T), (wsetT l o vs K).run L rc rl = wset l o vs fun l => (K l).run L rc rl
  | l, o, [], K => by rw [wsetT, wset]
  | [], o, v :: vs, K => by rw [wsetT, wset]; rfl
  | a :: r, 0, v :: vs, K => by rw [wsetT, wset]; exact wset_sim r 0 vs _
  | a :: r, o + 1, v :: vs, K => by rw [wsetT, wset]; exact wset_sim r o (v :: vs) _
theorem fillG_sim (place : Nat → Option (Nat × Nat)) : ∀ (l : List (Nat × AV)) (cs : List AV) (K : List AV → T), (fillGT place l cs K).run L rc rl = fillG place l cs fun l => (K l).run L rc rl
  | [], cs, K => by rw [fillGT, fillG]
  | (i, v) :: r, cs, K => by
    rw [fillGT, fillG]
    split
    · rfl
    · rw [run_cond, wset_sim]
      simp only [fillG_sim place r, run_ff]
theorem lscal_sim (P : Program) (o : Sem Value) (K : AV → T) : (lscalT P o K).run L rc rl = lscal P o fun a => (K a).run L rc rl := by
  unfold lscalT lscal
  split
  · rfl
  · split
    · rfl
    · exact force_sim _ _
theorem two_sim (b : Bool) (K : AV → T) : (twoT b K).run L rc rl = two b fun a => (K a).run L rc rl := by cases b <;> rfl
theorem fk_sim (lit c : Bool) (x y : T) : (fkT lit c x y).run L rc rl = fk lit c (x.run L rc rl) (y.run L rc rl) := by
  cases lit
  · rfl
  · exact run_cond _ _ _
theorem fastBin_sim (op : BinOp) (k k' : IntKind) (m n : Nat) (slow : T) (K : AV → T) : (fastBinT op k k' m n slow K).run L rc rl = fastBin op k k' m n (slow.run L rc rl) fun a => (K a).run L rc rl := by
  unfold fastBinT fastBin
  split
  · rfl
  · cases op <;> simp only [two_sim] <;> split <;> simp only [fNat_sim]
theorem wr_sim (k : IntKind) (x : Int) (K : Res → T) : (wrT k x K).run L rc rl = wr k x fun a => (K a).run L rc rl := rfl
theorem cvt_sim (k : IntKind) (x : Int) (K : Res → T) : (cvtT k x K).run L rc rl = cvt k x fun a => (K a).run L rc rl := by
  unfold cvtT cvt
  split <;> rfl
theorem orK_sim (k : IntKind) (a b : Int) (K : Res → T) : (orKT k a b K).run L rc rl = orK k a b fun a => (K a).run L rc rl := by
  unfold orKT orK
  split <;> rfl
theorem symArith_sim (op : BinOp) (k k' : IntKind) (a b : Int) (lit : Bool) (K : Res → T) : (symArithT op k k' a b lit K).run L rc rl = symArith op k k' a b lit fun a => (K a).run L rc rl := by
  unfold symArithT symArith
  split
  · rfl
  · cases op <;> simp only [fk_sim, wr_sim, orK_sim, run_ff, run_fork]
theorem symBin_sim (op : BinOp) (k k' : IntKind) (a b : Int) (lit : Bool) (K : Res → T) : (symBinT op k k' a b lit K).run L rc rl = symBin op k k' a b lit fun a => (K a).run L rc rl := by
  unfold symBinT symBin
  cases op <;> simp only [symArith_sim, fk_sim, wr_sim, run_ff]
theorem eqAgg_sim (P : Program) (op : BinOp) (t : TypeId) (a b : AV) (K : Res → T) : (eqAggT P op t a b K).run L rc rl = eqAgg P op t a b fun a => (K a).run L rc rl := by
  unfold eqAggT eqAgg
  split
  · split
    · rw [run_cond]
      cases op <;> simp only [run_fork, run_ff]
    · rfl
  · rfl
theorem aBin_sim (P : Program) (op : BinOp) (t : TypeId) (x y : Operand) (a b : AV) (K : Res → T) : (aBinT P op t x y a b K).run L rc rl = aBin P op t x y a b fun a => (K a).run L rc rl := by
  unfold aBinT aBin
  split
  · cases op <;> simp only [run_fork, run_ff]
  · exact symBin_sim _ _ _ _ _ _ _
  · exact symBin_sim _ _ _ _ _ _ _
  · exact symBin_sim _ _ _ _ _ _ _
  all_goals first
    | (rw [run_cond]; cases op <;> simp only [run_ff] <;> (repeat' split) <;> rfl)
    | (simp only [fastBin_sim, lscal_sim])
    | skip
  all_goals (repeat' split)
  all_goals first | rfl | exact lscal_sim _ _ _ | (rw [run_cond]; done) | (rw [run_cond]; rfl) | (rw [run_cond, eqAgg_sim]; done) | (rw [run_cond, eqAgg_sim]; rfl) | (simp only [run_cond, run_fork, run_ff, eqAgg_sim]; done) | skip
end Go.Proofs.Ytkdmlpmjfnjnmaa.Sv
