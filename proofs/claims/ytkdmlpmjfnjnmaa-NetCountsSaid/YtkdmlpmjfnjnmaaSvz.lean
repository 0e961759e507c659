import Derived.Test.YtkdmlpmjfnjnmaaSvy
namespace Go.Proofs.Ytkdmlpmjfnjnmaa.Sv
open Go Go.RowKit
set_option linter.unusedVariables false
set_option linter.unusedSimpArgs false
variable {P : Program} {H : AH} {L : AV → AH → Bool} {rc : Nat → List AV → AH → (AV → AH → Bool) → Bool} {rl : Nat → Code → List AV → AH → (Ex → List AV → AH → Bool) → Bool}
/-- a tree's caller tells what the other one tells. -/
def CSim (L : AV → AH → Bool) (rc : Nat → List AV → AH → (AV → AH → Bool) → Bool) (rl : Nat → Code → List AV → AH → (Ex → List AV → AH → Bool) → Bool) (ct : CallT) (c : CallF) : Prop :=
  ∀ t args H (K : AV → AH → T), (ct t args H K).run L rc rl = c t args H fun a H => (K a H).run L rc rl
theorem evW_sim {ct : CallT} {c : CallF} (hc : CSim L rc rl ct c) (H : AH) (tmps : List AV) (o : Oper) (K : AV → AH → T) : (evWT P ct H tmps o K).run L rc rl = evW P c H tmps o fun a H => (K a H).run L rc rl := by
  unfold evWT evW
  rw [run_cond, evE_sim]
  congr 1
  split
  · split
    · exact hc _ _ _ _
    · rfl
  · rfl
theorem putT_sim (tmps : List AV) (d : Option Nat) (a : AV) (K : List AV → T) : (Sv.putT tmps d a K).run L rc rl = Sv.put tmps d a fun t => (K t).run L rc rl := by
  unfold Sv.putT Sv.put
  split
  · rfl
  · rw [fd_sim]; simp only [aset_sim]
theorem sides_sim (a : AV) (K : AV → T) : (sidesT a K).run L rc rl = sides a fun a => (K a).run L rc rl := by
  unfold sidesT sides
  split
  · rfl
  · rw [run_fork]
  · rfl
mutual
theorem beqK_sim : ∀ (a b : AV) (K : T), (a.beqKT b K).run L rc rl = a.beqK b (K.run L rc rl)
  | a, b, K => by
    unfold AV.beqKT AV.beqK
    split
    · rw [run_cond]; rfl
    · exact beqsK_sim _ _ _
    · exact beqsK_sim _ _ _
    · rfl
    · exact beqsK_sim _ _ _
    · rfl
    · rw [run_cond]; rfl
    · rw [run_cond]; rfl
    · rw [run_cond]; rfl
    · rfl
    · rw [run_cond]; rfl
theorem beqsK_sim : ∀ (a b : List AV) (K : T), (AV.beqsKT a b K).run L rc rl = AV.beqsK a b (K.run L rc rl)
  | [], [], K => by unfold AV.beqsKT AV.beqsK; rfl
  | a :: r, b :: s, K => by
    unfold AV.beqsKT AV.beqsK
    rw [beqK_sim a b, beqsK_sim r s]
  | [], _ :: _, K => by unfold AV.beqsKT AV.beqsK; rfl
  | _ :: _, [], K => by unfold AV.beqsKT AV.beqsK; rfl
end
theorem nbeqK_sim (a b : NewB) (K : T) : (a.beqKT b K).run L rc rl = a.beqK b (K.run L rc rl) := by
  cases a with
  | cells g cs => cases b with
    | cells h ds => cases g with
      | none => cases h with
        | none => exact beqsK_sim _ _ _
        | some h => rfl
      | some g => cases h with
        | none => rfl
        | some h => exact (run_cond _ _ _).trans (by rw [beqsK_sim]; rfl)
    | _ => first | rfl | (cases g <;> first | rfl | exact run_cond _ _ _)
  | _ => cases b <;> first | rfl | exact run_cond _ _ _
theorem rbeqK_sim (a b : Res) (K : T) : (a.beqKT b K).run L rc rl = a.beqK b (K.run L rc rl) := by
  cases a <;> cases b <;> first
    | rfl
    | exact beqK_sim _ _ _
    | exact (run_cond _ _ _).trans (by rw [nbeqK_sim]; rfl)
theorem endLoop_sim (H : AH) (b : Nat) (K : Option Code → AH → T) : (endLoopT H b K).run L rc rl = endLoop H b fun j H => (K j H).run L rc rl := by
  unfold endLoopT endLoop
  rw [own_sim]
  congr 1
  funext H
  split
  · rw [run_cond, put_sim]; rfl
  · rfl
theorem setParams_sim : ∀ (ps : List Nat) (as t : List AV) (K : List AV → T), (setParamsT ps as t K).run L rc rl = setParams ps as t fun t => (K t).run L rc rl
  | [], [], t, K => rfl
  | p :: ps, a :: as, t, K => by
    rw [setParamsT, setParams, aset_sim]
    simp only [setParams_sim ps as]
  | [], _ :: _, t, K => rfl
  | _ :: _, [], t, K => rfl
theorem opStep_sim {ct : CallT} {c : CallF} (hc : CSim L rc rl ct c) (ops : Array Oper) (o : Oper) (rt : OpsT) (rb : OpsF) (hr : ∀ tmps H (K : List AV → AH → T), (rt tmps H K).run L rc rl = rb tmps H fun t H => (K t H).run L rc rl) (tmps : List AV) (H : AH) (K : List AV → AH → T) :
    (opStepT P ct ops o rt tmps H K).run L rc rl = opStep P c ops o rb tmps H fun t H => (K t H).run L rc rl := by
  unfold opStepT opStep
  split
  · rfl
  · rw [putT_sim]; simp only [hr]
  · split
    · rw [evR_sim]; simp only [done_sim, sides_sim, putT_sim, hr]
    · rw [evW_sim hc]; simp only [putT_sim, hr]
theorem evOps_sim {ct : CallT} {c : CallF} (hc : CSim L rc rl ct c) (ops : Array Oper) : ∀ (l : List Oper) (tmps : List AV) (H : AH) (K : List AV → AH → T), (evOpsRT P ct ops l tmps H K).run L rc rl = evOpsR P c ops l tmps H fun t H => (K t H).run L rc rl
  | [], tmps, H, K => rfl
  | o :: r, tmps, H, K => opStep_sim hc ops o _ _ (evOps_sim hc ops r) tmps H K
theorem again_sim (H : AH) (anc : Nat) : ∀ (l : List Rec) (K : T), (againRT P H anc l K).run L rc rl = againR P H anc l (K.run L rc rl)
  | [], K => rfl
  | q :: r, K => by
    have e : againRT P H anc (q :: r) K = fNatT q.i fun i => cond (bit anc i) (againRT P H anc r K) (evRT P H q.tmps q.o fun x => x.beqKT q.res (againRT P H anc r K)) := rfl
    have e' : againR P H anc (q :: r) (K.run L rc rl) = fNat q.i fun i => cond (bit anc i) (againR P H anc r (K.run L rc rl)) (evR P H q.tmps q.o fun x => x.beqK q.res (againR P H anc r (K.run L rc rl))) := rfl
    rw [e, e', fNat_sim]
    simp only [run_cond, evR_sim, rbeqK_sim, again_sim H anc r]
theorem againIf_sim (c : Bool) (H : AH) (anc : Nat) (l : List Rec) (K : T) : (againIfRT c P H anc l K).run L rc rl = againIfR c P H anc l (K.run L rc rl) := by
  cases c
  · rfl
  · exact again_sim H anc l K
theorem masksK_sim : ∀ (l : List (Nat × Oper)) (K : List (Nat × Nat × Oper) → T), (masksKT l K).run L rc rl = masksK l fun m => (K m).run L rc rl
  | [], K => rfl
  | x :: l, K => by
    have e : masksKT (x :: l) K = fNatT x.1 fun i => fNatT (direct x.2) fun d => masksKT l fun r => K ((i, d, x.2) :: r) := rfl
    have e' : masksK (x :: l) (fun m => (K m).run L rc rl) = fNat x.1 fun i => fNat (direct x.2) fun d => masksK l fun r => (K ((i, d, x.2) :: r)).run L rc rl := rfl
    rw [e, e', fNat_sim]
    simp only [fNat_sim, masksK_sim l]
theorem closuresK_sim : ∀ (l : List Oper) (acc : List Nat) (K : List Nat → T), (closuresKT l acc K).run L rc rl = closuresK l acc fun m => (K m).run L rc rl
  | [], acc, K => rfl
  | o :: l, acc, K => by
    have e : closuresKT (o :: l) acc K = fNatT (closeM acc o) fun m => closuresKT l (acc ++ [m]) K := rfl
    have e' : closuresK (o :: l) acc (fun m => (K m).run L rc rl) = fNat (closeM acc o) fun m => closuresK l (acc ++ [m]) fun m => (K m).run L rc rl := rfl
    rw [e, e', fNat_sim]
    simp only [closuresK_sim l]
theorem evDraw_sim {ct : CallT} {c : CallF} (hc : CSim L rc rl ct c) (ops : Array Oper) (io : List (Nat × Nat × Oper)) (cl : List Nat) : ∀ (n dn : Nat) (tmps : List AV) (H : AH) (rs : List Rec) (K : List AV → AH → T),
    (evDrawRT P ct ops io cl n dn tmps H rs K).run L rc rl = evDrawR P c ops io cl n dn tmps H rs fun t H => (K t H).run L rc rl
  | 0, dn, tmps, H, rs, K => rfl
  | n + 1, dn, tmps, H, rs, K => by
    have ih := evDraw_sim hc ops io cl n
    show (drawStepT P ct ops io cl (evDrawRT P ct ops io cl n) dn tmps H rs K).run L rc rl = drawStep P c ops io cl (evDrawR P c ops io cl n) dn tmps H rs fun t H => (K t H).run L rc rl
    unfold drawStepT drawStep
    split
    · simp only [fNat_sim, putT_sim, ih]
    · simp only [evR_sim, done_sim, againIf_sim, fNat_sim, putT_sim, ih]
    · split
      · rw [run_cond]; rfl
      · split
        · rw [run_cond]; simp only [evW_sim hc, fNat_sim, again_sim, putT_sim, ih, run_ff]
        · rfl
theorem evCode_sim {ct : CallT} {c : CallF} (hc : CSim L rc rl ct c) (rd : Bool) : ∀ (n : Nat) (cd : Code) (tmps : List AV) (H : AH) (K : Ex → List AV → AH → T),
    (evCodeRT P ct rd n cd tmps H K).run L rc rl = evCodeR P c rd n cd tmps H fun e t H => (K e t H).run L rc rl
  | 0, cd, tmps, H, K => rfl
  | n + 1, cd, tmps, H, K => by
    have ih := evCode_sim hc rd n
    show (codeStepT P ct rd (evCodeRT P ct rd n) cd tmps H K).run L rc rl = codeStep P c rd (evCodeR P c rd n) cd tmps H fun e t H => (K e t H).run L rc rl
    unfold codeStepT codeStep
    split
    · rfl
    · rfl
    · exact evOps_sim hc _ _ _ _ _
    · rw [fork_eq, run_cond]
      simp only [masksK_sim, closuresK_sim, evDraw_sim hc, run_ff]
    · rw [ih]
      congr 1
      funext e t H
      cases e <;> simp only [ih]
    · split
      · exact ih _ _ _ _
      · exact ih _ _ _ _
      · rw [run_both, ih, ih]
        rfl
      · rw [run_fork, ih, ih]
      · rfl
    · rw [ih]
      congr 1
      funext e t H
      cases e <;> simp only [run_cond]
    · rw [ih]
      congr 1
      funext e t H
      cases e <;> simp only [ih]
    · rfl
    · rfl
    · rfl
    · split
      · rw [alloc_sim]
        congr 1
        funext H1
        rw [hc]
        congr 1
        funext _ H2
        rw [endLoop_sim]
        congr 1
        funext j H3
        split
        · rfl
        · exact ih _ _ _ _
      · rfl
    · rfl
theorem evCall_sim (o : Nat → Bool) : ∀ n, CSim L rc rl (evCallRT P o n) (evCallR P o rc n)
  | 0 => fun t args H K => rfl
  | n + 1 => fun t args H K => by
    have ih := evCall_sim o n
    show (callStepT P o n (evCallRT P o n) t args H K).run L rc rl = callStep P o rc n (evCallR P o rc n) t args H fun a H => (K a H).run L rc rl
    unfold callStepT callStep
    split
    · split
      · rfl
      · split
        · rfl
        · split
          · rfl
          · rw [evCode_sim ih]
            congr 1
            funext e t H
            split
            · split <;> rfl
            · split <;> rfl
            · rfl
    · split
      · rw [setParams_sim]
        congr 1
        funext tmps
        rw [evCode_sim ih]
        congr 1
        funext e t H
        split
        · rw [own_sim]
          congr 1
          funext H
          split
          · rw [put_sim]
            congr 1
            funext H
            rw [evCode_sim ih]
            congr 1
            funext e _ H
            rw [own_sim]
            congr 1
            funext H
            split
            · split
              · exact put_sim _ _ _ _
              · exact put_sim _ _ _ _
            · rfl
          · rfl
        · rfl
      · rfl
theorem evTop_sim {ct : CallT} {c : CallF} (lp : Nat → Bool) (hc : CSim L rc (fun n b => loopSpec (evTopR P c lp n b)) ct c) : ∀ (n : Nat) (cd : Code) (tmps : List AV) (H : AH) (K : Ex → List AV → AH → T),
    (evTopRT P ct lp n cd tmps H K).run L rc (fun n b => loopSpec (evTopR P c lp n b)) = evTopR P c lp n cd tmps H fun e t H => (K e t H).run L rc (fun n b => loopSpec (evTopR P c lp n b))
  | 0, cd, tmps, H, K => rfl
  | n + 1, cd, tmps, H, K => by
    have ih := evTop_sim lp hc n
    show (topStepT P ct lp n (evTopRT P ct lp n) cd tmps H K).run L rc _ = topStep P c lp n (evTopR P c lp n) cd tmps H fun e t H => (K e t H).run L rc _
    unfold topStepT topStep
    split
    · rw [ih]
      congr 1
      funext e t H
      cases e <;> simp only [ih]
    · split
      · exact ih _ _ _ _
      · exact ih _ _ _ _
      · rw [run_fork, ih, ih]
      · rfl
    · rw [ih]
      congr 1
      funext e t H
      cases e <;> simp only [run_cond]
    · split
      · rfl
      · rw [ih]
        congr 1
        funext e t H
        cases e <;> simp only [ih]
    · exact evCode_sim hc false _ _ _ _ _
end Go.Proofs.Ytkdmlpmjfnjnmaa.Sv
