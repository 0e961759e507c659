import Derived.Test.YtkdmlpmjfnjnmaaSvx
namespace Go.Proofs.Ytkdmlpmjfnjnmaa.Sv
open Go Go.RowKit
set_option linter.unusedVariables false
set_option linter.unusedSimpArgs false
variable {P : Program} {H : AH} {L : AV → AH → Bool} {rc : Nat → List AV → AH → (AV → AH → Bool) → Bool} {rl : Nat → Code → List AV → AH → (Ex → List AV → AH → Bool) → Bool}
theorem aConv_sim (P : Program) (H : AH) (s d : TypeId) (a : AV) (K : Res → T) : (aConvT P H s d a K).run L rc rl = aConv P H s d a fun a => (K a).run L rc rl := by
  unfold aConvT aConv
  repeat' split
  all_goals first | rfl | (simp only [lscal_sim, wr_sim, cvt_sim, run_fork, run_ff]; done) | skip
theorem forkIx_sim (i : Int) (K : Nat → T) : ∀ n, (forkIxT i K n).run L rc rl = forkIx i (fun n => (K n).run L rc rl) n
  | 0 => rfl
  | n + 1 => by rw [forkIxT, forkIx, run_fork, forkIx_sim i K n]
theorem aSlice0_sim (P : Program) (H : AH) (t : TypeId) (x : AV) (lo hi mx : Option AV) (K : Res → T) : (aSlice0T P H t x lo hi mx K).run L rc rl = aSlice0 P H t x lo hi mx fun a => (K a).run L rc rl := by
  unfold aSlice0T aSlice0
  repeat' split
  all_goals first | rfl | (simp only [run_cond, force_sim, run_fork, run_ff]; done) | skip
theorem aSlice_sim (P : Program) (H : AH) (t : TypeId) (x : AV) (lo hi mx : Option AV) (K : Res → T) : (aSliceT P H t x lo hi mx K).run L rc rl = aSlice P H t x lo hi mx fun a => (K a).run L rc rl := by
  unfold aSliceT aSlice
  split
  · rw [forkIx_sim]; simp only [aSlice0_sim]
  · rw [forkIx_sim]; simp only [aSlice0_sim]
  · exact aSlice0_sim _ _ _ _ _ _ _ _
theorem aLook0_sim (P : Program) (kt e : TypeId) (es : List Ent) (ok : Bool) (k : AV) (K : Res → T) : (aLook0T P kt e es ok k K).run L rc rl = aLook0 P kt e es ok k fun a => (K a).run L rc rl := by
  unfold aLook0T aLook0
  repeat' split
  all_goals rfl
theorem pin_sim (j : IntKind) (x : Int) (K : AV → T) : ∀ es, (pinT j x K es).run L rc rl = pin j x (fun k => (K k).run L rc rl) es
  | [] => rfl
  | e :: r => by
    unfold pinT pin
    split
    · rw [run_fork, pin_sim j x K r]
    · rfl
theorem aLook_sim (P : Program) (kt e : TypeId) (es : List Ent) (ok : Bool) (k : AV) (K : Res → T) : (aLookT P kt e es ok k K).run L rc rl = aLook P kt e es ok k fun a => (K a).run L rc rl := by
  unfold aLookT aLook
  split
  · rw [pin_sim]; simp only [aLook0_sim]
  · exact aLook0_sim _ _ _ _ _ _ _
theorem aLen_sim (P : Program) (H : AH) (t : TypeId) (a : AV) (K : Res → T) : (aLenT P H t a K).run L rc rl = aLen P H t a fun a => (K a).run L rc rl := by
  unfold aLenT aLen
  repeat' split
  all_goals first | rfl | (simp only [fNat_sim]; done) | skip
theorem aUn_sim (P : Program) (op : UnOp) (a : AV) (K : Res → T) : (aUnT P op a K).run L rc rl = aUn P op a fun a => (K a).run L rc rl := by
  unfold aUnT aUn
  repeat' split
  all_goals first | rfl | exact lscal_sim _ _ _ | exact wr_sim _ _ _ | skip
theorem maxK_sim (b : Bool) (l : List AV) (K : Res → T) : (maxKT b l K).run L rc rl = maxK b l fun a => (K a).run L rc rl := by
  unfold maxKT maxK
  repeat' split
  all_goals first | rfl | (simp only [run_fork]; done)
theorem evR0_sim (P : Program) (H : AH) (tmps : List AV) (o : Oper) (K : Res → T) : (evR0T P H tmps o K).run L rc rl = evR0 P H tmps o fun a => (K a).run L rc rl := by
  obtain ⟨dst, op, ty, pos, after, guard⟩ := o
  unfold evR0T evR0
  cases op <;> dsimp only
  all_goals first | rfl | skip
  all_goals (repeat' split)
  all_goals first | rfl | (simp only [run_cond, run_fork, run_ff, fillG_sim, force_sim, lscal_sim, aBin_sim, aUn_sim, aConv_sim, aSlice_sim, aLook_sim, aLen_sim, forkIx_sim, fNat_sim, maxK_sim]; done) | (rw [forkIx_sim]; congr 1; funext i; split <;> rfl) | skip
  all_goals (simp only [run_cond, run_fork, run_ff, fillG_sim, force_sim, lscal_sim, aBin_sim, aUn_sim, aConv_sim, aSlice_sim, aLook_sim, aLen_sim, forkIx_sim, fNat_sim, maxK_sim])
  all_goals first | (congr 1; split <;> rfl) | skip
theorem evR_sim (P : Program) (H : AH) (tmps : List AV) (o : Oper) (K : Res → T) : (evRT P H tmps o K).run L rc rl = evR P H tmps o fun a => (K a).run L rc rl := by
  rw [evRT_eq, evR_eq]; exact evR0_sim _ _ _ _ _
theorem write1_sim (H : AH) (b off : Nat) (vs : List AV) (K : AH → T) : (H.write1T b off vs K).run L rc rl = H.write1 b off vs fun H => (K H).run L rc rl := by
  unfold AH.write1T AH.write1
  rw [own_sim]
  congr 1
  funext H
  split
  · rw [wset_sim]; simp only [put_sim]
  · rfl
theorem write_sim (H : AH) (b off : Nat) (vs : List AV) (K : AH → T) : (H.writeT b off vs K).run L rc rl = H.write b off vs fun H => (K H).run L rc rl := by
  unfold AH.writeT AH.write
  split
  · rfl
  · rw [run_cond, write1_sim, run_ff]
theorem cull_sim (n : Nat) : ∀ (l : List Nat) (H : AH) (K : List Nat → AH → T), (AH.cullT n l H K).run L rc rl = AH.cull n l H fun l H => (K l H).run L rc rl
  | [], H, K => rfl
  | x :: l, H, K => by
    rw [AH.cullT, AH.cull]
    split
    · rw [run_cond, cull_sim n l, put_sim]; simp only [cull_sim n l]
    · exact cull_sim n l _ _
    · rfl
theorem grown_sim (H : AH) (b n len : Nat) (vs : List AV) (need : Nat) (K : AV → AH → T) : (H.grownT b n len vs need K).run L rc rl = H.grown b n len vs need fun a H => (K a H).run L rc rl := by
  unfold AH.grownT AH.grown
  rw [fNat_sim]
  congr 1
  funext nx
  repeat' split
  all_goals first | rfl | (simp only [run_cond, cull_sim, set_sim, fNat_sim, run_ff]; done) | skip
theorem aAppend_sim (P : Program) (H : AH) (e : TypeId) (n m : Nat) (s : AV) (vs : List AV) (K : AV → AH → T) : (aAppendT P H e n m s vs K).run L rc rl = aAppend P H e n m s vs fun a H => (K a H).run L rc rl := by
  unfold aAppendT aAppend
  split
  · rw [run_cond, run_ff]
    congr 1
    split
    · rw [run_cond, alloc_sim]
    · rw [run_cond, run_cond, write_sim, run_ff]
      simp only [force_sim]
      congr 2
      split
      · split
        · rfl
        · rw [alloc_sim]; simp only [fNat_sim]
      · rw [run_cond, grown_sim, run_ff]
    · rfl
  · rfl
theorem rowsOf_sim (H : AH) (z : Nat) (x : AV) (K : Nat → (Nat → List AV) → T) : (rowsOfT H z x K).run L rc rl = rowsOf H z x fun m g => (K m g).run L rc rl := by
  unfold rowsOfT rowsOf
  repeat' split
  all_goals first | rfl | (simp only [run_cond, run_fork, run_ff]; done) | skip
theorem lim_sim (w c1 c2 : Bool) (x : T) : (limT w c1 c2 x).run L rc rl = lim w c1 c2 (x.run L rc rl) := by
  unfold limT lim
  rw [run_fork, run_cond, run_fork, run_ff]
theorem gAppend_sim (P : Program) (H : AH) (e : TypeId) (z m : Nat) (s : AV) (g : Nat → List AV) (K : AV → AH → T) : (gAppendT P H e z m s g K).run L rc rl = gAppend P H e z m s g fun a H => (K a H).run L rc rl := by
  unfold gAppendT gAppend
  split
  · rw [run_cond, run_ff, lim_sim]
    congr 2
    repeat' split
    all_goals first | rfl | (simp only [run_cond, run_fork, run_ff, lim_sim, alloc_sim, put_sim]; done) | skip
  · rfl
theorem gOver_sim (P : Program) (H : AH) (e : TypeId) (z m b k : Nat) (g : Nat → List AV) (K : AV → AH → T) : (gOverT P H e z m b k g K).run L rc rl = gOver P H e z m b k g fun a H => (K a H).run L rc rl := by
  unfold gOverT gOver
  repeat' split
  all_goals first | rfl | (simp only [run_cond, run_fork, run_ff, alloc_sim, put_sim]; done) | skip
theorem gPut_sim (P : Program) (H : AH) (e : TypeId) (z m : Nat) (s x : AV) (g : Nat → List AV) (K : AV → AH → T) : (gPutT P H e z m s x g K).run L rc rl = gPut P H e z m s x g fun a H => (K a H).run L rc rl := by
  unfold gPutT gPut
  repeat' split
  all_goals first | rfl | (simp only [run_cond, gOver_sim, gAppend_sim]; done) | skip
theorem aMapSet_sim (P : Program) (H : AH) (t : TypeId) (m k x : AV) (K : AH → T) : (aMapSetT P H t m k x K).run L rc rl = aMapSet P H t m k x fun H => (K H).run L rc rl := by
  unfold aMapSetT aMapSet
  split
  · rw [own_sim]
    congr 1
    funext H
    repeat' split
    all_goals first | rfl | (simp only [run_cond, run_ff, put_sim, fNat_sim]; done) | skip
  · rfl
theorem aDelete_sim (P : Program) (H : AH) (t : TypeId) (m k : AV) (K : AH → T) : (aDeleteT P H t m k K).run L rc rl = aDelete P H t m k fun H => (K H).run L rc rl := by
  unfold aDeleteT aDelete
  split
  · repeat' split
    all_goals rfl
  · rw [own_sim]
    congr 1
    funext H
    repeat' split
    all_goals first | rfl | (simp only [put_sim]; done) | skip
  · rfl
theorem aNext_sim (H : AH) (x : AV) (K : AV → AH → T) : (aNextT H x K).run L rc rl = aNext H x fun a H => (K a H).run L rc rl := by
  unfold aNextT aNext
  split
  · rw [own_sim]
    congr 1
    funext H
    split
    · rfl
    · split
      · rw [run_cond, run_ff]
        congr 1
        rw [run_both, run_allT]
        simp only [put_sim]
        generalize allB _ _ = y
        generalize List.isEmpty _ = q
        cases q
        · rfl
        · show (match T.run L rc rl (K (.tuple [.bool false]) H) with | true => y | false => false) = (T.run L rc rl (K (.tuple [.bool false]) H) && y)
          cases T.run L rc rl (K (.tuple [.bool false]) H) <;> rfl
      · rfl
    · rfl
  · rfl
theorem done_sim (H : AH) (r : Res) (K : AV → AH → T) : (doneT H r K).run L rc rl = done H r fun a H => (K a H).run L rc rl := by
  unfold doneT done
  split
  · rfl
  · exact alloc_sim _ _ _
theorem evE_sim (P : Program) (H : AH) (tmps : List AV) (o : Oper) (K : AV → AH → T) : (evET P H tmps o K).run L rc rl = evE P H tmps o fun a H => (K a H).run L rc rl := by
  unfold evET evE
  repeat' split
  all_goals first | rfl | (simp only [run_cond, run_fork, run_ff, write_sim, put_sim, aMapSet_sim, aNext_sim, aAppend_sim, rowsOf_sim, gPut_sim, fNat_sim, aDelete_sim, alloc_sim]; done) | (rw [evR_sim]; simp only [done_sim]; done) | (rw [own_sim]; congr 1; funext H; split <;> first | rfl | exact put_sim _ _ _ _)
end Go.Proofs.Ytkdmlpmjfnjnmaa.Sv
