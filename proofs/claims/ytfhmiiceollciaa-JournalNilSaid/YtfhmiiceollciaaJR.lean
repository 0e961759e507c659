import Derived.Test.YtfhmiiceollciaaJN
namespace Go.Proofs.Ytfhmiiceollciaa
open Go Go.RowKit Sv
set_option linter.unusedVariables false
set_option maxRecDepth 100000
set_option maxHeartbeats 0
theorem worksRun : Ev.evCall Try.prog (fun _ => false) 1000000 (.fn 9) [] Ev.AH.none (fun a _ => Ev.isTrue a) = true := by kernel_rfl
theorem works : Runs Try.prog 9 [] fun x G => x = .bool true ∧ G = [] :=
  runs_known ⟨_, rfl, rfl⟩ fun w => Ev.ev_true evPlain mixed Ev.known_none worksRun .nil w
theorem law (p : Nat × (Nat → Nat × (Nat → Int))) (hp : p.1 ≤ maxLen ∧ ∀ i, i < p.1 → (p.2 i).1 ≤ maxLen ∧ ∀ j, j < (p.2 i).1 → IntKind.u8.min ≤ (p.2 i).2 j ∧ (p.2 i).2 j ≤ IntKind.u8.max) : Runs Try.prog 5 [.data 1 p.1 fun i => rowB (p.2 i)] fun x G => x = .bool true ∧ G = [] := by
  have hv := vast p.1 p.2 hp.1 (fun i hi => (hp.2 i hi).1)
  refine runs_treeF plain mixed (fun g => Nat.beq g 9 || Nat.beq g 19) (fun _ => false) 40 ?_
  refine ok_sk (.stop []) (S := .stop (Hd.call (19 : Nat) [AV.data (1 : Nat) p.fst fun (i : Nat) => [AV.data (1 : Nat) (p.snd i).1 fun (j : Nat) => [AV.sint IntKind.u8 ((p.snd i).snd j)]], AV.int IntKind.i64 (4096 : Int)]) [] ([])) (by kernel_rfl) ?_
  refine hold_stop (fun hd hb => ?_)
  refine ok_call0 hd hv rfl ?_
  rintro x G ⟨rfl | rfl, rfl⟩ <;> refine ⟨rfl, fun g hg => (by cases hg), ?_⟩
  ·
   refine ok_sk (.stop []) (S := .stop (Hd.call (9 : Nat) []) [] ([])) (by kernel_rfl) ?_
   refine hold_stop (fun hd hb => ?_)
   refine ok_call0 hd works rfl ?_
   rintro x G ⟨rfl, rfl⟩
   refine ⟨rfl, fun g hg => (by cases hg), ?_⟩
   refine ok_sk (.stop []) (S := .stop (Hd.leaf (AV.bool Bool.true)) [] ([])) (by kernel_rfl) ?_
   refine hold_stop (fun hd hb => ?_)
   exact ok_leaf0 hd rfl ⟨rfl, rfl⟩
  refine ok_sk (.stop []) (S := .stop (Hd.call (9 : Nat) []) [] ([])) (by kernel_rfl) ?_
  refine hold_stop (fun hd hb => ?_)
  refine ok_call0 hd works rfl ?_
  rintro x G ⟨rfl, rfl⟩
  refine ⟨rfl, fun g hg => (by cases hg), ?_⟩
  refine ok_sk (.stop []) (S := .stop (Hd.leaf (AV.bool Bool.true)) [] ([])) (by kernel_rfl) ?_
  refine hold_stop (fun hd hb => ?_)
  exact ok_leaf0 hd rfl ⟨rfl, rfl⟩
end Go.Proofs.Ytfhmiiceollciaa
