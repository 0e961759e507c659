import Derived.Test.YtandjcalokecjaaPrl
namespace Go.Proofs.Ytandjcalokecjaa
open Go Go.RowKit Sv
set_option linter.unusedVariables false
set_option maxRecDepth 100000
set_option maxHeartbeats 0
theorem worksRun : Ev.evCall Try.prog (fun _ => false) 1000000 (.fn 9) [] Ev.AH.none (fun a _ => Ev.isTrue a) = true := by kernel_rfl
theorem works : Runs Try.prog 9 [] fun x G => x = .bool true ∧ G = [] :=
  runs_known ⟨_, rfl, rfl⟩ fun w => Ev.ev_true evPlain mixed Ev.known_none worksRun .nil w
theorem all_bytes (n : Nat) (x : Nat → Int) (h : ∀ i, i < n → IntKind.u8.min ≤ x i ∧ x i ≤ IntKind.u8.max) : AllBytes n fun i => [.sint .u8 (x i)] := fun i hi => by
  have h1 := h i hi
  have e : IntKind.u8.max = 255 := by decide
  have e' : IntKind.u8.min = 0 := by decide
  refine ⟨?_, ?_⟩
  · show 0 ≤ x i
    omega
  · show x i < 256
    omega
theorem law (p : Nat × (Nat → Int)) (hp : p.1 ≤ maxLen ∧ ∀ i, i < p.1 → IntKind.u8.min ≤ p.2 i ∧ p.2 i ≤ IntKind.u8.max) (q : Nat × (Nat → Int)) (hq : q.1 ≤ maxLen ∧ ∀ i, i < q.1 → IntKind.u8.min ≤ q.2 i ∧ q.2 i ≤ IntKind.u8.max) (s : Bool) (r : Nat × (Nat → Int)) (hr : r.1 ≤ maxLen ∧ ∀ i, i < r.1 → IntKind.i64.min ≤ r.2 i ∧ r.2 i ≤ IntKind.i64.max) :
    Runs Try.prog 5 [.data 1 p.1 fun i => [.sint .u8 (p.2 i)], .data 1 q.1 fun i => [.sint .u8 (q.2 i)], .bool s, .data 1 r.1 fun i => [.sint .i64 (r.2 i)]] fun x G => x = .bool true ∧ G = [] := by
  have hp0 := hp.1
  have hq0 := hq.1
  have hr0 := hr.1
  rw [show maxLen = 9223372036854775807 by decide] at hp0 hq0 hr0
  have P1 := all_bytes p.1 p.2 hp.2
  have Q1 := all_bytes q.1 q.2 hq.2
  have P2 : RowsOK 1 p.1 fun i => [.sint .u8 (p.2 i)] := fun i hi => ⟨rfl, rfl⟩
  have Q2 : RowsOK 1 q.1 fun i => [.sint .u8 (q.2 i)] := fun i hi => ⟨rfl, rfl⟩
  cases s
  · refine runs_treeF plain mixed (fun g => Nat.beq g 9) (fun _ => false) 60 ?_
    refine ok_sk (.both (.stop []) (.both (.stop []) (.both (.stop []) (.l (.r (.l (.l (.l (.l (.l (.l (.l (.l (.r (.l (.l (.l (.l (.l (.l (.both (.l (.l (.l (.l (.l (.l (.both (.both (.l (.l (.l (.l (.l (.l (.stop []))))))) (.l (.l (.l (.l (.l (.l (.stop [])))))))) (.l (.l (.l (.l (.l (.l (.stop [])))))))))))))) (.l (.both (.l (.l (.l (.l (.l (.l (.both (.both (.l (.l (.l (.l (.l (.l (.stop []))))))) (.l (.l (.l (.l (.l (.l (.stop [])))))))) (.l (.l (.l (.l (.l (.l (.stop [])))))))))))))) (.l (.both (.r (.l (.l (.l (.l (.l (.l (.l (.both (.l (.both (.stop []) (.stop []))) (.stop [])))))))))) (.l (.l (.l (.l (.l (.l (.l (.l (.l (.both (.both (.l (.l (.l (.l (.l (.l (.stop []))))))) (.l (.l (.l (.l (.l (.l (.stop [])))))))) (.l (.l (.l (.l (.l (.l (.stop [])))))))))))))))))))))))))))))))))))))))))) (S := .fork (decide ((4096 : Int) < (↑p.fst : Int))) (.stop (Hd.call (9 : Nat) []) [] ([])) (.fork (decide ((4096 : Int) < (↑q.fst : Int))) (.stop (Hd.call (9 : Nat) []) [] ([])) (.fork (decide ((5 : Int) < (↑r.fst : Int))) (.stop (Hd.call (9 : Nat) []) [] ([])) (.left (decide ((-9223372036854775808 : Int) ≤ (0 : Int) + (↑p.fst : Int) ∧ (0 : Int) + (↑p.fst : Int) ≤ (9223372036854775807 : Int))) (.right (decide ((4194304 : Int) < (0 : Int) + (↑p.fst : Int))) (.left (@decide (p.fst < (65536 : Nat) ∧ RowsOK (1 : Nat) p.fst fun (i : Nat) => [AV.sint IntKind.u8 (p.snd i)]) (Classical.propDecidable _)) (.left (decide ((0 : Int) = (0 : Int) ∧ (0 : Int) ≤ (↑p.fst : Int) ∧ (↑p.fst : Int) ≤ (↑p.fst : Int))) (.left (decide ((↑p.fst : Int).toNat ≤ p.fst)) (.left (@decide ((↑p.fst : Int).toNat < (65536 : Nat) ∧ RowsOK (1 : Nat) (↑p.fst : Int).toNat fun (i : Nat) => [AV.sint IntKind.u8 (p.snd i)]) (Classical.propDecidable _)) (.left (decide ((↑p.fst : Int) = (↑p.fst : Int))) (.left (decide ((↑p.fst : Int) = (↑p.fst : Int))) (.left (decide ((-9223372036854775808 : Int) ≤ (↑(↑p.fst : Int).toNat : Int) + (0 : Int) ∧ (↑(↑p.fst : Int).toNat : Int) + (0 : Int) ≤ (9223372036854775807 : Int))) (.left (decide ((-9223372036854775808 : Int) ≤ (↑(↑p.fst : Int).toNat : Int) + (0 : Int) + (↑q.fst : Int) ∧ (↑(↑p.fst : Int).toNat : Int) + (0 : Int) + (↑q.fst : Int) ≤ (9223372036854775807 : Int))) (.right (decide ((4194304 : Int) < (↑(↑p.fst : Int).toNat : Int) + (0 : Int) + (↑q.fst : Int))) (.left (@decide (q.fst < (65536 : Nat) ∧ RowsOK (1 : Nat) q.fst fun (i : Nat) => [AV.sint IntKind.u8 (q.snd i)]) (Classical.propDecidable _)) (.left (decide ((0 : Int) = (0 : Int) ∧ (0 : Int) ≤ (↑q.fst : Int) ∧ (↑q.fst : Int) ≤ (↑q.fst : Int))) (.left (decide ((↑q.fst : Int).toNat ≤ q.fst)) (.left (@decide ((↑q.fst : Int).toNat < (65536 : Nat) ∧ RowsOK (1 : Nat) (↑q.fst : Int).toNat fun (i : Nat) => [AV.sint IntKind.u8 (q.snd i)]) (Classical.propDecidable _)) (.left (decide ((↑q.fst : Int) = (↑q.fst : Int))) (.left (decide ((↑q.fst : Int) = (↑q.fst : Int))) (.fork (decide ((↑r.fst : Int) ≤ (0 : Int))) (.left (decide ((↑p.fst : Int).toNat ≤ (↑p.fst : Int).toNat)) (.left (@decide ((↑p.fst : Int).toNat < (65536 : Nat) ∧ RowsOK (1 : Nat) (↑p.fst : Int).toNat fun (i : Nat) => [AV.sint IntKind.u8 (p.snd i)]) (Classical.propDecidable _)) (.left (decide ((↑q.fst : Int).toNat ≤ (↑q.fst : Int).toNat)) (.left (@decide ((↑q.fst : Int).toNat < (65536 : Nat) ∧ RowsOK (1 : Nat) (↑q.fst : Int).toNat fun (i : Nat) => [AV.sint IntKind.u8 (q.snd i)]) (Classical.propDecidable _)) (.left (@decide ((↑p.fst : Int).toNat ≤ (↑p.fst : Int).toNat ∧ AllBytes (↑p.fst : Int).toNat fun (i : Nat) => [AV.sint IntKind.u8 (p.snd i)]) (Classical.propDecidable _)) (.left (@decide (AllBytes q.fst fun (i : Nat) => [AV.sint IntKind.u8 (q.snd i)]) (Classical.propDecidable _)) (.fork (decide ((bytesOf (↑p.fst : Int).toNat fun (i : Nat) => [AV.sint IntKind.u8 (p.snd i)]) = bytesOf q.fst fun (i : Nat) => [AV.sint IntKind.u8 (q.snd i)])) (.fork (decide ((↑(↑q.fst : Int).toNat : Int) = (0 : Int))) (.left (@decide ((↑p.fst : Int).toNat ≤ (↑p.fst : Int).toNat ∧ AllBytes (↑p.fst : Int).toNat fun (i : Nat) => [AV.sint IntKind.u8 (p.snd i)]) (Classical.propDecidable _)) (.left (@decide (AllBytes p.fst fun (i : Nat) => [AV.sint IntKind.u8 (p.snd i)]) (Classical.propDecidable _)) (.left (decide ((bytesOf (↑p.fst : Int).toNat fun (i : Nat) => [AV.sint IntKind.u8 (p.snd i)]) = bytesOf p.fst fun (i : Nat) => [AV.sint IntKind.u8 (p.snd i)])) (.left (@decide ((↑q.fst : Int).toNat ≤ (↑q.fst : Int).toNat ∧ AllBytes (↑q.fst : Int).toNat fun (i : Nat) => [AV.sint IntKind.u8 (q.snd i)]) (Classical.propDecidable _)) (.left (@decide (AllBytes q.fst fun (i : Nat) => [AV.sint IntKind.u8 (q.snd i)]) (Classical.propDecidable _)) (.left (decide ((bytesOf (↑q.fst : Int).toNat fun (i : Nat) => [AV.sint IntKind.u8 (q.snd i)]) = bytesOf q.fst fun (i : Nat) => [AV.sint IntKind.u8 (q.snd i)])) (.stop (Hd.call (9 : Nat) []) [] ([])))))))) (.left (@decide ((↑p.fst : Int).toNat ≤ (↑p.fst : Int).toNat ∧ AllBytes (↑p.fst : Int).toNat fun (i : Nat) => [AV.sint IntKind.u8 (p.snd i)]) (Classical.propDecidable _)) (.left (@decide (AllBytes p.fst fun (i : Nat) => [AV.sint IntKind.u8 (p.snd i)]) (Classical.propDecidable _)) (.left (decide ((bytesOf (↑p.fst : Int).toNat fun (i : Nat) => [AV.sint IntKind.u8 (p.snd i)]) = bytesOf p.fst fun (i : Nat) => [AV.sint IntKind.u8 (p.snd i)])) (.left (@decide ((↑q.fst : Int).toNat ≤ (↑q.fst : Int).toNat ∧ AllBytes (↑q.fst : Int).toNat fun (i : Nat) => [AV.sint IntKind.u8 (q.snd i)]) (Classical.propDecidable _)) (.left (@decide (AllBytes q.fst fun (i : Nat) => [AV.sint IntKind.u8 (q.snd i)]) (Classical.propDecidable _)) (.left (decide ((bytesOf (↑q.fst : Int).toNat fun (i : Nat) => [AV.sint IntKind.u8 (q.snd i)]) = bytesOf q.fst fun (i : Nat) => [AV.sint IntKind.u8 (q.snd i)])) (.stop (Hd.call (9 : Nat) []) [] ([]))))))))) (.left (@decide ((↑p.fst : Int).toNat ≤ (↑p.fst : Int).toNat ∧ AllBytes (↑p.fst : Int).toNat fun (i : Nat) => [AV.sint IntKind.u8 (p.snd i)]) (Classical.propDecidable _)) (.left (@decide (AllBytes p.fst fun (i : Nat) => [AV.sint IntKind.u8 (p.snd i)]) (Classical.propDecidable _)) (.left (decide ((bytesOf (↑p.fst : Int).toNat fun (i : Nat) => [AV.sint IntKind.u8 (p.snd i)]) = bytesOf p.fst fun (i : Nat) => [AV.sint IntKind.u8 (p.snd i)])) (.left (@decide ((↑q.fst : Int).toNat ≤ (↑q.fst : Int).toNat ∧ AllBytes (↑q.fst : Int).toNat fun (i : Nat) => [AV.sint IntKind.u8 (q.snd i)]) (Classical.propDecidable _)) (.left (@decide (AllBytes q.fst fun (i : Nat) => [AV.sint IntKind.u8 (q.snd i)]) (Classical.propDecidable _)) (.left (decide ((bytesOf (↑q.fst : Int).toNat fun (i : Nat) => [AV.sint IntKind.u8 (q.snd i)]) = bytesOf q.fst fun (i : Nat) => [AV.sint IntKind.u8 (q.snd i)])) (.stop (Hd.call (9 : Nat) []) [] ([]))))))))))))))) (.left (decide ((0 : Int) ≤ (0 : Int) ∧ (0 : Nat) < r.fst)) (.fork (decide (r.snd (0 : Nat) < (0 : Int))) (.left (decide ((↑p.fst : Int).toNat ≤ (↑p.fst : Int).toNat)) (.left (@decide ((↑p.fst : Int).toNat < (65536 : Nat) ∧ RowsOK (1 : Nat) (↑p.fst : Int).toNat fun (i : Nat) => [AV.sint IntKind.u8 (p.snd i)]) (Classical.propDecidable _)) (.left (decide ((↑q.fst : Int).toNat ≤ (↑q.fst : Int).toNat)) (.left (@decide ((↑q.fst : Int).toNat < (65536 : Nat) ∧ RowsOK (1 : Nat) (↑q.fst : Int).toNat fun (i : Nat) => [AV.sint IntKind.u8 (q.snd i)]) (Classical.propDecidable _)) (.left (@decide ((↑p.fst : Int).toNat ≤ (↑p.fst : Int).toNat ∧ AllBytes (↑p.fst : Int).toNat fun (i : Nat) => [AV.sint IntKind.u8 (p.snd i)]) (Classical.propDecidable _)) (.left (@decide (AllBytes q.fst fun (i : Nat) => [AV.sint IntKind.u8 (q.snd i)]) (Classical.propDecidable _)) (.fork (decide ((bytesOf (↑p.fst : Int).toNat fun (i : Nat) => [AV.sint IntKind.u8 (p.snd i)]) = bytesOf q.fst fun (i : Nat) => [AV.sint IntKind.u8 (q.snd i)])) (.fork (decide ((↑(↑q.fst : Int).toNat : Int) = (0 : Int))) (.left (@decide ((↑p.fst : Int).toNat ≤ (↑p.fst : Int).toNat ∧ AllBytes (↑p.fst : Int).toNat fun (i : Nat) => [AV.sint IntKind.u8 (p.snd i)]) (Classical.propDecidable _)) (.left (@decide (AllBytes p.fst fun (i : Nat) => [AV.sint IntKind.u8 (p.snd i)]) (Classical.propDecidable _)) (.left (decide ((bytesOf (↑p.fst : Int).toNat fun (i : Nat) => [AV.sint IntKind.u8 (p.snd i)]) = bytesOf p.fst fun (i : Nat) => [AV.sint IntKind.u8 (p.snd i)])) (.left (@decide ((↑q.fst : Int).toNat ≤ (↑q.fst : Int).toNat ∧ AllBytes (↑q.fst : Int).toNat fun (i : Nat) => [AV.sint IntKind.u8 (q.snd i)]) (Classical.propDecidable _)) (.left (@decide (AllBytes q.fst fun (i : Nat) => [AV.sint IntKind.u8 (q.snd i)]) (Classical.propDecidable _)) (.left (decide ((bytesOf (↑q.fst : Int).toNat fun (i : Nat) => [AV.sint IntKind.u8 (q.snd i)]) = bytesOf q.fst fun (i : Nat) => [AV.sint IntKind.u8 (q.snd i)])) (.stop (Hd.call (9 : Nat) []) [] ([])))))))) (.left (@decide ((↑p.fst : Int).toNat ≤ (↑p.fst : Int).toNat ∧ AllBytes (↑p.fst : Int).toNat fun (i : Nat) => [AV.sint IntKind.u8 (p.snd i)]) (Classical.propDecidable _)) (.left (@decide (AllBytes p.fst fun (i : Nat) => [AV.sint IntKind.u8 (p.snd i)]) (Classical.propDecidable _)) (.left (decide ((bytesOf (↑p.fst : Int).toNat fun (i : Nat) => [AV.sint IntKind.u8 (p.snd i)]) = bytesOf p.fst fun (i : Nat) => [AV.sint IntKind.u8 (p.snd i)])) (.left (@decide ((↑q.fst : Int).toNat ≤ (↑q.fst : Int).toNat ∧ AllBytes (↑q.fst : Int).toNat fun (i : Nat) => [AV.sint IntKind.u8 (q.snd i)]) (Classical.propDecidable _)) (.left (@decide (AllBytes q.fst fun (i : Nat) => [AV.sint IntKind.u8 (q.snd i)]) (Classical.propDecidable _)) (.left (decide ((bytesOf (↑q.fst : Int).toNat fun (i : Nat) => [AV.sint IntKind.u8 (q.snd i)]) = bytesOf q.fst fun (i : Nat) => [AV.sint IntKind.u8 (q.snd i)])) (.stop (Hd.call (9 : Nat) []) [] ([]))))))))) (.left (@decide ((↑p.fst : Int).toNat ≤ (↑p.fst : Int).toNat ∧ AllBytes (↑p.fst : Int).toNat fun (i : Nat) => [AV.sint IntKind.u8 (p.snd i)]) (Classical.propDecidable _)) (.left (@decide (AllBytes p.fst fun (i : Nat) => [AV.sint IntKind.u8 (p.snd i)]) (Classical.propDecidable _)) (.left (decide ((bytesOf (↑p.fst : Int).toNat fun (i : Nat) => [AV.sint IntKind.u8 (p.snd i)]) = bytesOf p.fst fun (i : Nat) => [AV.sint IntKind.u8 (p.snd i)])) (.left (@decide ((↑q.fst : Int).toNat ≤ (↑q.fst : Int).toNat ∧ AllBytes (↑q.fst : Int).toNat fun (i : Nat) => [AV.sint IntKind.u8 (q.snd i)]) (Classical.propDecidable _)) (.left (@decide (AllBytes q.fst fun (i : Nat) => [AV.sint IntKind.u8 (q.snd i)]) (Classical.propDecidable _)) (.left (decide ((bytesOf (↑q.fst : Int).toNat fun (i : Nat) => [AV.sint IntKind.u8 (q.snd i)]) = bytesOf q.fst fun (i : Nat) => [AV.sint IntKind.u8 (q.snd i)])) (.stop (Hd.call (9 : Nat) []) [] ([]))))))))))))))) (.left (decide ((0 : Int) ≤ (0 : Int) ∧ (0 : Nat) < r.fst)) (.fork (decide ((r.snd (0 : Nat)).tmod (2 : Int) = (1 : Int))) (.right (decide ((r.snd (0 : Nat)).tmod (2 : Int) < (1 : Int))) (.left (decide ((↑q.fst : Int).toNat ≤ (↑q.fst : Int).toNat)) (.left (@decide ((↑q.fst : Int).toNat < (65536 : Nat) ∧ RowsOK (1 : Nat) (↑q.fst : Int).toNat fun (i : Nat) => [AV.sint IntKind.u8 (q.snd i)]) (Classical.propDecidable _)) (.left (@decide ((↑q.fst : Int).toNat ≤ (↑q.fst : Int).toNat ∧ AllBytes (↑q.fst : Int).toNat fun (i : Nat) => [AV.sint IntKind.u8 (q.snd i)]) (Classical.propDecidable _)) (.left (@decide (AllBytes q.fst fun (i : Nat) => [AV.sint IntKind.u8 (q.snd i)]) (Classical.propDecidable _)) (.left (decide ((bytesOf (↑q.fst : Int).toNat fun (i : Nat) => [AV.sint IntKind.u8 (q.snd i)]) = bytesOf q.fst fun (i : Nat) => [AV.sint IntKind.u8 (q.snd i)])) (.left (@decide ((↑q.fst : Int).toNat ≤ (↑q.fst : Int).toNat ∧ AllBytes (↑q.fst : Int).toNat fun (i : Nat) => [AV.sint IntKind.u8 (q.snd i)]) (Classical.propDecidable _)) (.left (@decide (AllBytes p.fst fun (i : Nat) => [AV.sint IntKind.u8 (p.snd i)]) (Classical.propDecidable _)) (.fork (decide ((bytesOf (↑q.fst : Int).toNat fun (i : Nat) => [AV.sint IntKind.u8 (q.snd i)]) = bytesOf p.fst fun (i : Nat) => [AV.sint IntKind.u8 (p.snd i)])) (.left (@decide (AllBytes q.fst fun (i : Nat) => [AV.sint IntKind.u8 (q.snd i)]) (Classical.propDecidable _)) (.fork (decide ([] = bytesOf q.fst fun (i : Nat) => [AV.sint IntKind.u8 (q.snd i)])) (.stop (Hd.call (9 : Nat) []) [] ([])) (.stop (Hd.call (9 : Nat) []) [] ([])))) (.stop (Hd.call (9 : Nat) []) [] ([]))))))))))) (.left (decide ((r.snd (0 : Nat)).tmod (2 : Int) = (0 : Int))) (.left (decide ((r.snd (0 : Nat)).tmod (2 : Int) < (1 : Int))) (.left (decide ((r.snd (0 : Nat)).tmod (2 : Int) = (0 : Int))) (.left (decide ((↑p.fst : Int).toNat ≤ (↑p.fst : Int).toNat)) (.left (@decide ((↑p.fst : Int).toNat < (65536 : Nat) ∧ RowsOK (1 : Nat) (↑p.fst : Int).toNat fun (i : Nat) => [AV.sint IntKind.u8 (p.snd i)]) (Classical.propDecidable _)) (.left (decide ((↑q.fst : Int).toNat ≤ (↑q.fst : Int).toNat)) (.left (@decide ((↑q.fst : Int).toNat < (65536 : Nat) ∧ RowsOK (1 : Nat) (↑q.fst : Int).toNat fun (i : Nat) => [AV.sint IntKind.u8 (q.snd i)]) (Classical.propDecidable _)) (.left (@decide ((↑p.fst : Int).toNat ≤ (↑p.fst : Int).toNat ∧ AllBytes (↑p.fst : Int).toNat fun (i : Nat) => [AV.sint IntKind.u8 (p.snd i)]) (Classical.propDecidable _)) (.left (@decide (AllBytes q.fst fun (i : Nat) => [AV.sint IntKind.u8 (q.snd i)]) (Classical.propDecidable _)) (.fork (decide ((bytesOf (↑p.fst : Int).toNat fun (i : Nat) => [AV.sint IntKind.u8 (p.snd i)]) = bytesOf q.fst fun (i : Nat) => [AV.sint IntKind.u8 (q.snd i)])) (.fork (decide ((↑(↑q.fst : Int).toNat : Int) = (0 : Int))) (.left (@decide ((↑p.fst : Int).toNat ≤ (↑p.fst : Int).toNat ∧ AllBytes (↑p.fst : Int).toNat fun (i : Nat) => [AV.sint IntKind.u8 (p.snd i)]) (Classical.propDecidable _)) (.left (@decide (AllBytes p.fst fun (i : Nat) => [AV.sint IntKind.u8 (p.snd i)]) (Classical.propDecidable _)) (.left (decide ((bytesOf (↑p.fst : Int).toNat fun (i : Nat) => [AV.sint IntKind.u8 (p.snd i)]) = bytesOf p.fst fun (i : Nat) => [AV.sint IntKind.u8 (p.snd i)])) (.left (@decide ((↑q.fst : Int).toNat ≤ (↑q.fst : Int).toNat ∧ AllBytes (↑q.fst : Int).toNat fun (i : Nat) => [AV.sint IntKind.u8 (q.snd i)]) (Classical.propDecidable _)) (.left (@decide (AllBytes q.fst fun (i : Nat) => [AV.sint IntKind.u8 (q.snd i)]) (Classical.propDecidable _)) (.left (decide ((bytesOf (↑q.fst : Int).toNat fun (i : Nat) => [AV.sint IntKind.u8 (q.snd i)]) = bytesOf q.fst fun (i : Nat) => [AV.sint IntKind.u8 (q.snd i)])) (.stop (Hd.call (9 : Nat) []) [] ([])))))))) (.left (@decide ((↑p.fst : Int).toNat ≤ (↑p.fst : Int).toNat ∧ AllBytes (↑p.fst : Int).toNat fun (i : Nat) => [AV.sint IntKind.u8 (p.snd i)]) (Classical.propDecidable _)) (.left (@decide (AllBytes p.fst fun (i : Nat) => [AV.sint IntKind.u8 (p.snd i)]) (Classical.propDecidable _)) (.left (decide ((bytesOf (↑p.fst : Int).toNat fun (i : Nat) => [AV.sint IntKind.u8 (p.snd i)]) = bytesOf p.fst fun (i : Nat) => [AV.sint IntKind.u8 (p.snd i)])) (.left (@decide ((↑q.fst : Int).toNat ≤ (↑q.fst : Int).toNat ∧ AllBytes (↑q.fst : Int).toNat fun (i : Nat) => [AV.sint IntKind.u8 (q.snd i)]) (Classical.propDecidable _)) (.left (@decide (AllBytes q.fst fun (i : Nat) => [AV.sint IntKind.u8 (q.snd i)]) (Classical.propDecidable _)) (.left (decide ((bytesOf (↑q.fst : Int).toNat fun (i : Nat) => [AV.sint IntKind.u8 (q.snd i)]) = bytesOf q.fst fun (i : Nat) => [AV.sint IntKind.u8 (q.snd i)])) (.stop (Hd.call (9 : Nat) []) [] ([]))))))))) (.left (@decide ((↑p.fst : Int).toNat ≤ (↑p.fst : Int).toNat ∧ AllBytes (↑p.fst : Int).toNat fun (i : Nat) => [AV.sint IntKind.u8 (p.snd i)]) (Classical.propDecidable _)) (.left (@decide (AllBytes p.fst fun (i : Nat) => [AV.sint IntKind.u8 (p.snd i)]) (Classical.propDecidable _)) (.left (decide ((bytesOf (↑p.fst : Int).toNat fun (i : Nat) => [AV.sint IntKind.u8 (p.snd i)]) = bytesOf p.fst fun (i : Nat) => [AV.sint IntKind.u8 (p.snd i)])) (.left (@decide ((↑q.fst : Int).toNat ≤ (↑q.fst : Int).toNat ∧ AllBytes (↑q.fst : Int).toNat fun (i : Nat) => [AV.sint IntKind.u8 (q.snd i)]) (Classical.propDecidable _)) (.left (@decide (AllBytes q.fst fun (i : Nat) => [AV.sint IntKind.u8 (q.snd i)]) (Classical.propDecidable _)) (.left (decide ((bytesOf (↑q.fst : Int).toNat fun (i : Nat) => [AV.sint IntKind.u8 (q.snd i)]) = bytesOf q.fst fun (i : Nat) => [AV.sint IntKind.u8 (q.snd i)])) (.stop (Hd.call (9 : Nat) []) [] ([]))))))))))))))))))))))))))))))))))))))))))) (by kernel_rfl) ?_
    refine hold_forkD (fun h0 => ?_) (fun h0 => ?_)
    ·
     refine hold_stop (fun hd hb => ?_)
     refine ok_call0 hd works rfl ?_
     rintro x G ⟨rfl, rfl⟩
     refine ⟨rfl, fun g hg => (by cases hg), ?_⟩
     refine ok_sk (.stop []) (S := .stop (Hd.leaf (AV.bool Bool.true)) [] ([])) (by kernel_rfl) ?_
     refine hold_stop (fun hd hb => ?_)
     exact ok_leaf0 hd rfl ⟨rfl, rfl⟩
    refine hold_forkD (fun h1 => ?_) (fun h1 => ?_)
    ·
     refine hold_stop (fun hd hb => ?_)
     refine ok_call0 hd works rfl ?_
     rintro x G ⟨rfl, rfl⟩
     refine ⟨rfl, fun g hg => (by cases hg), ?_⟩
     refine ok_sk (.stop []) (S := .stop (Hd.leaf (AV.bool Bool.true)) [] ([])) (by kernel_rfl) ?_
     refine hold_stop (fun hd hb => ?_)
     exact ok_leaf0 hd rfl ⟨rfl, rfl⟩
    refine hold_forkD (fun h2 => ?_) (fun h2 => ?_)
    ·
     refine hold_stop (fun hd hb => ?_)
     refine ok_call0 hd works rfl ?_
     rintro x G ⟨rfl, rfl⟩
     refine ⟨rfl, fun g hg => (by cases hg), ?_⟩
     refine ok_sk (.stop []) (S := .stop (Hd.leaf (AV.bool Bool.true)) [] ([])) (by kernel_rfl) ?_
     refine hold_stop (fun hd hb => ?_)
     exact ok_leaf0 hd rfl ⟨rfl, rfl⟩
    refine hold_leftD (Classical.byContradiction fun h3 => by omega) (fun h3 => ?_)
    refine hold_rightD (fun h4 => by omega) (fun h4 => ?_)
    refine hold_leftD (Classical.byContradiction fun h5 => by exact h5 ⟨by omega, P2⟩) (fun h5 => ?_)
    refine hold_leftD (Classical.byContradiction fun h6 => by omega) (fun h6 => ?_)
    refine hold_leftD (Classical.byContradiction fun h7 => by omega) (fun h7 => ?_)
    refine hold_leftD (Classical.byContradiction fun h8 => by exact h8 ⟨by omega, P2⟩) (fun h8 => ?_)
    refine hold_leftD (Classical.byContradiction fun h9 => by omega) (fun h9 => ?_)
    refine hold_leftD (Classical.byContradiction fun h10 => by omega) (fun h10 => ?_)
    refine hold_leftD (Classical.byContradiction fun h11 => by omega) (fun h11 => ?_)
    refine hold_leftD (Classical.byContradiction fun h12 => by omega) (fun h12 => ?_)
    refine hold_rightD (fun h13 => by omega) (fun h13 => ?_)
    refine hold_leftD (Classical.byContradiction fun h14 => by exact h14 ⟨by omega, Q2⟩) (fun h14 => ?_)
    refine hold_leftD (Classical.byContradiction fun h15 => by omega) (fun h15 => ?_)
    refine hold_leftD (Classical.byContradiction fun h16 => by omega) (fun h16 => ?_)
    refine hold_leftD (Classical.byContradiction fun h17 => by exact h17 ⟨by omega, Q2⟩) (fun h17 => ?_)
    refine hold_leftD (Classical.byContradiction fun h18 => by omega) (fun h18 => ?_)
    refine hold_leftD (Classical.byContradiction fun h19 => by omega) (fun h19 => ?_)
    refine hold_forkD (fun h20 => ?_) (fun h20 => ?_)
    ·
     refine hold_leftD (Classical.byContradiction fun h21 => by omega) (fun h21 => ?_)
     refine hold_leftD (Classical.byContradiction fun h22 => by exact h22 ⟨by omega, P2⟩) (fun h22 => ?_)
     refine hold_leftD (Classical.byContradiction fun h23 => by omega) (fun h23 => ?_)
     refine hold_leftD (Classical.byContradiction fun h24 => by exact h24 ⟨by omega, Q2⟩) (fun h24 => ?_)
     refine hold_leftD (Classical.byContradiction fun h25 => by exact h25 ⟨by omega, by first | exact P1 | (rw [Int.toNat_natCast]; exact P1) | (simp only [Int.toNat_natCast]; exact P1)⟩) (fun h25 => ?_)
     refine hold_leftD (Classical.byContradiction fun h26 => by exact h26 (by first | exact Q1 | (rw [Int.toNat_natCast]; exact Q1) | (simp only [Int.toNat_natCast]; exact Q1))) (fun h26 => ?_)
     refine hold_forkD (fun h27 => ?_) (fun h27 => ?_)
     ·
      refine hold_forkD (fun h28 => ?_) (fun h28 => ?_)
      ·
       refine hold_leftD (Classical.byContradiction fun h29 => by exact h29 ⟨by omega, by first | exact P1 | (rw [Int.toNat_natCast]; exact P1) | (simp only [Int.toNat_natCast]; exact P1)⟩) (fun h29 => ?_)
       refine hold_leftD (Classical.byContradiction fun h30 => by exact h30 (by first | exact P1 | (rw [Int.toNat_natCast]; exact P1) | (simp only [Int.toNat_natCast]; exact P1))) (fun h30 => ?_)
       refine hold_leftD (Classical.byContradiction fun h31 => by exact h31 (by simp only [Int.toNat_natCast])) (fun h31 => ?_)
       refine hold_leftD (Classical.byContradiction fun h32 => by exact h32 ⟨by omega, by first | exact Q1 | (rw [Int.toNat_natCast]; exact Q1) | (simp only [Int.toNat_natCast]; exact Q1)⟩) (fun h32 => ?_)
       refine hold_leftD (Classical.byContradiction fun h33 => by exact h33 (by first | exact Q1 | (rw [Int.toNat_natCast]; exact Q1) | (simp only [Int.toNat_natCast]; exact Q1))) (fun h33 => ?_)
       refine hold_leftD (Classical.byContradiction fun h34 => by exact h34 (by simp only [Int.toNat_natCast])) (fun h34 => ?_)
       refine hold_stop (fun hd hb => ?_)
       refine ok_call0 hd works rfl ?_
       rintro x G ⟨rfl, rfl⟩
       refine ⟨rfl, fun g hg => (by cases hg), ?_⟩
       refine ok_sk (.stop []) (S := .stop (Hd.leaf (AV.bool Bool.true)) [] ([])) (by kernel_rfl) ?_
       refine hold_stop (fun hd hb => ?_)
       exact ok_leaf0 hd rfl ⟨rfl, rfl⟩
      refine hold_leftD (Classical.byContradiction fun h29 => by exact h29 ⟨by omega, by first | exact P1 | (rw [Int.toNat_natCast]; exact P1) | (simp only [Int.toNat_natCast]; exact P1)⟩) (fun h29 => ?_)
      refine hold_leftD (Classical.byContradiction fun h30 => by exact h30 (by first | exact P1 | (rw [Int.toNat_natCast]; exact P1) | (simp only [Int.toNat_natCast]; exact P1))) (fun h30 => ?_)
      refine hold_leftD (Classical.byContradiction fun h31 => by exact h31 (by simp only [Int.toNat_natCast])) (fun h31 => ?_)
      refine hold_leftD (Classical.byContradiction fun h32 => by exact h32 ⟨by omega, by first | exact Q1 | (rw [Int.toNat_natCast]; exact Q1) | (simp only [Int.toNat_natCast]; exact Q1)⟩) (fun h32 => ?_)
      refine hold_leftD (Classical.byContradiction fun h33 => by exact h33 (by first | exact Q1 | (rw [Int.toNat_natCast]; exact Q1) | (simp only [Int.toNat_natCast]; exact Q1))) (fun h33 => ?_)
      refine hold_leftD (Classical.byContradiction fun h34 => by exact h34 (by simp only [Int.toNat_natCast])) (fun h34 => ?_)
      refine hold_stop (fun hd hb => ?_)
      refine ok_call0 hd works rfl ?_
      rintro x G ⟨rfl, rfl⟩
      refine ⟨rfl, fun g hg => (by cases hg), ?_⟩
      refine ok_sk (.stop []) (S := .stop (Hd.leaf (AV.bool Bool.true)) [] ([])) (by kernel_rfl) ?_
      refine hold_stop (fun hd hb => ?_)
      exact ok_leaf0 hd rfl ⟨rfl, rfl⟩
     refine hold_leftD (Classical.byContradiction fun h28 => by exact h28 ⟨by omega, by first | exact P1 | (rw [Int.toNat_natCast]; exact P1) | (simp only [Int.toNat_natCast]; exact P1)⟩) (fun h28 => ?_)
     refine hold_leftD (Classical.byContradiction fun h29 => by exact h29 (by first | exact P1 | (rw [Int.toNat_natCast]; exact P1) | (simp only [Int.toNat_natCast]; exact P1))) (fun h29 => ?_)
     refine hold_leftD (Classical.byContradiction fun h30 => by exact h30 (by simp only [Int.toNat_natCast])) (fun h30 => ?_)
     refine hold_leftD (Classical.byContradiction fun h31 => by exact h31 ⟨by omega, by first | exact Q1 | (rw [Int.toNat_natCast]; exact Q1) | (simp only [Int.toNat_natCast]; exact Q1)⟩) (fun h31 => ?_)
     refine hold_leftD (Classical.byContradiction fun h32 => by exact h32 (by first | exact Q1 | (rw [Int.toNat_natCast]; exact Q1) | (simp only [Int.toNat_natCast]; exact Q1))) (fun h32 => ?_)
     refine hold_leftD (Classical.byContradiction fun h33 => by exact h33 (by simp only [Int.toNat_natCast])) (fun h33 => ?_)
     refine hold_stop (fun hd hb => ?_)
     refine ok_call0 hd works rfl ?_
     rintro x G ⟨rfl, rfl⟩
     refine ⟨rfl, fun g hg => (by cases hg), ?_⟩
     refine ok_sk (.stop []) (S := .stop (Hd.leaf (AV.bool Bool.true)) [] ([])) (by kernel_rfl) ?_
     refine hold_stop (fun hd hb => ?_)
     exact ok_leaf0 hd rfl ⟨rfl, rfl⟩
    refine hold_leftD (Classical.byContradiction fun h21 => by omega) (fun h21 => ?_)
    refine hold_forkD (fun h22 => ?_) (fun h22 => ?_)
    ·
     refine hold_leftD (Classical.byContradiction fun h23 => by omega) (fun h23 => ?_)
     refine hold_leftD (Classical.byContradiction fun h24 => by exact h24 ⟨by omega, P2⟩) (fun h24 => ?_)
     refine hold_leftD (Classical.byContradiction fun h25 => by omega) (fun h25 => ?_)
     refine hold_leftD (Classical.byContradiction fun h26 => by exact h26 ⟨by omega, Q2⟩) (fun h26 => ?_)
     refine hold_leftD (Classical.byContradiction fun h27 => by exact h27 ⟨by omega, by first | exact P1 | (rw [Int.toNat_natCast]; exact P1) | (simp only [Int.toNat_natCast]; exact P1)⟩) (fun h27 => ?_)
     refine hold_leftD (Classical.byContradiction fun h28 => by exact h28 (by first | exact Q1 | (rw [Int.toNat_natCast]; exact Q1) | (simp only [Int.toNat_natCast]; exact Q1))) (fun h28 => ?_)
     refine hold_forkD (fun h29 => ?_) (fun h29 => ?_)
     ·
      refine hold_forkD (fun h30 => ?_) (fun h30 => ?_)
      ·
       refine hold_leftD (Classical.byContradiction fun h31 => by exact h31 ⟨by omega, by first | exact P1 | (rw [Int.toNat_natCast]; exact P1) | (simp only [Int.toNat_natCast]; exact P1)⟩) (fun h31 => ?_)
       refine hold_leftD (Classical.byContradiction fun h32 => by exact h32 (by first | exact P1 | (rw [Int.toNat_natCast]; exact P1) | (simp only [Int.toNat_natCast]; exact P1))) (fun h32 => ?_)
       refine hold_leftD (Classical.byContradiction fun h33 => by exact h33 (by simp only [Int.toNat_natCast])) (fun h33 => ?_)
       refine hold_leftD (Classical.byContradiction fun h34 => by exact h34 ⟨by omega, by first | exact Q1 | (rw [Int.toNat_natCast]; exact Q1) | (simp only [Int.toNat_natCast]; exact Q1)⟩) (fun h34 => ?_)
       refine hold_leftD (Classical.byContradiction fun h35 => by exact h35 (by first | exact Q1 | (rw [Int.toNat_natCast]; exact Q1) | (simp only [Int.toNat_natCast]; exact Q1))) (fun h35 => ?_)
       refine hold_leftD (Classical.byContradiction fun h36 => by exact h36 (by simp only [Int.toNat_natCast])) (fun h36 => ?_)
       refine hold_stop (fun hd hb => ?_)
       refine ok_call0 hd works rfl ?_
       rintro x G ⟨rfl, rfl⟩
       refine ⟨rfl, fun g hg => (by cases hg), ?_⟩
       refine ok_sk (.stop []) (S := .stop (Hd.leaf (AV.bool Bool.true)) [] ([])) (by kernel_rfl) ?_
       refine hold_stop (fun hd hb => ?_)
       exact ok_leaf0 hd rfl ⟨rfl, rfl⟩
      refine hold_leftD (Classical.byContradiction fun h31 => by exact h31 ⟨by omega, by first | exact P1 | (rw [Int.toNat_natCast]; exact P1) | (simp only [Int.toNat_natCast]; exact P1)⟩) (fun h31 => ?_)
      refine hold_leftD (Classical.byContradiction fun h32 => by exact h32 (by first | exact P1 | (rw [Int.toNat_natCast]; exact P1) | (simp only [Int.toNat_natCast]; exact P1))) (fun h32 => ?_)
      refine hold_leftD (Classical.byContradiction fun h33 => by exact h33 (by simp only [Int.toNat_natCast])) (fun h33 => ?_)
      refine hold_leftD (Classical.byContradiction fun h34 => by exact h34 ⟨by omega, by first | exact Q1 | (rw [Int.toNat_natCast]; exact Q1) | (simp only [Int.toNat_natCast]; exact Q1)⟩) (fun h34 => ?_)
      refine hold_leftD (Classical.byContradiction fun h35 => by exact h35 (by first | exact Q1 | (rw [Int.toNat_natCast]; exact Q1) | (simp only [Int.toNat_natCast]; exact Q1))) (fun h35 => ?_)
      refine hold_leftD (Classical.byContradiction fun h36 => by exact h36 (by simp only [Int.toNat_natCast])) (fun h36 => ?_)
      refine hold_stop (fun hd hb => ?_)
      refine ok_call0 hd works rfl ?_
      rintro x G ⟨rfl, rfl⟩
      refine ⟨rfl, fun g hg => (by cases hg), ?_⟩
      refine ok_sk (.stop []) (S := .stop (Hd.leaf (AV.bool Bool.true)) [] ([])) (by kernel_rfl) ?_
      refine hold_stop (fun hd hb => ?_)
      exact ok_leaf0 hd rfl ⟨rfl, rfl⟩
     refine hold_leftD (Classical.byContradiction fun h30 => by exact h30 ⟨by omega, by first | exact P1 | (rw [Int.toNat_natCast]; exact P1) | (simp only [Int.toNat_natCast]; exact P1)⟩) (fun h30 => ?_)
     refine hold_leftD (Classical.byContradiction fun h31 => by exact h31 (by first | exact P1 | (rw [Int.toNat_natCast]; exact P1) | (simp only [Int.toNat_natCast]; exact P1))) (fun h31 => ?_)
     refine hold_leftD (Classical.byContradiction fun h32 => by exact h32 (by simp only [Int.toNat_natCast])) (fun h32 => ?_)
     refine hold_leftD (Classical.byContradiction fun h33 => by exact h33 ⟨by omega, by first | exact Q1 | (rw [Int.toNat_natCast]; exact Q1) | (simp only [Int.toNat_natCast]; exact Q1)⟩) (fun h33 => ?_)
     refine hold_leftD (Classical.byContradiction fun h34 => by exact h34 (by first | exact Q1 | (rw [Int.toNat_natCast]; exact Q1) | (simp only [Int.toNat_natCast]; exact Q1))) (fun h34 => ?_)
     refine hold_leftD (Classical.byContradiction fun h35 => by exact h35 (by simp only [Int.toNat_natCast])) (fun h35 => ?_)
     refine hold_stop (fun hd hb => ?_)
     refine ok_call0 hd works rfl ?_
     rintro x G ⟨rfl, rfl⟩
     refine ⟨rfl, fun g hg => (by cases hg), ?_⟩
     refine ok_sk (.stop []) (S := .stop (Hd.leaf (AV.bool Bool.true)) [] ([])) (by kernel_rfl) ?_
     refine hold_stop (fun hd hb => ?_)
     exact ok_leaf0 hd rfl ⟨rfl, rfl⟩
    refine hold_leftD (Classical.byContradiction fun h23 => by omega) (fun h23 => ?_)
    refine hold_forkD (fun h24 => ?_) (fun h24 => ?_)
    ·
     refine hold_rightD (fun h25 => by omega) (fun h25 => ?_)
     refine hold_leftD (Classical.byContradiction fun h26 => by omega) (fun h26 => ?_)
     refine hold_leftD (Classical.byContradiction fun h27 => by exact h27 ⟨by omega, Q2⟩) (fun h27 => ?_)
     refine hold_leftD (Classical.byContradiction fun h28 => by exact h28 ⟨by omega, by first | exact Q1 | (rw [Int.toNat_natCast]; exact Q1) | (simp only [Int.toNat_natCast]; exact Q1)⟩) (fun h28 => ?_)
     refine hold_leftD (Classical.byContradiction fun h29 => by exact h29 (by first | exact Q1 | (rw [Int.toNat_natCast]; exact Q1) | (simp only [Int.toNat_natCast]; exact Q1))) (fun h29 => ?_)
     refine hold_leftD (Classical.byContradiction fun h30 => by exact h30 (by simp only [Int.toNat_natCast])) (fun h30 => ?_)
     refine hold_leftD (Classical.byContradiction fun h31 => by exact h31 ⟨by omega, by first | exact Q1 | (rw [Int.toNat_natCast]; exact Q1) | (simp only [Int.toNat_natCast]; exact Q1)⟩) (fun h31 => ?_)
     refine hold_leftD (Classical.byContradiction fun h32 => by exact h32 (by first | exact P1 | (rw [Int.toNat_natCast]; exact P1) | (simp only [Int.toNat_natCast]; exact P1))) (fun h32 => ?_)
     refine hold_forkD (fun h33 => ?_) (fun h33 => ?_)
     ·
      refine hold_leftD (Classical.byContradiction fun h34 => by exact h34 (by first | exact Q1 | (rw [Int.toNat_natCast]; exact Q1) | (simp only [Int.toNat_natCast]; exact Q1))) (fun h34 => ?_)
      refine hold_forkD (fun h35 => ?_) (fun h35 => ?_)
      ·
       refine hold_stop (fun hd hb => ?_)
       refine ok_call0 hd works rfl ?_
       rintro x G ⟨rfl, rfl⟩
       refine ⟨rfl, fun g hg => (by cases hg), ?_⟩
       refine ok_sk (.stop []) (S := .stop (Hd.leaf (AV.bool Bool.true)) [] ([])) (by kernel_rfl) ?_
       refine hold_stop (fun hd hb => ?_)
       exact ok_leaf0 hd rfl ⟨rfl, rfl⟩
      refine hold_stop (fun hd hb => ?_)
      refine ok_call0 hd works rfl ?_
      rintro x G ⟨rfl, rfl⟩
      refine ⟨rfl, fun g hg => (by cases hg), ?_⟩
      refine ok_sk (.stop []) (S := .stop (Hd.leaf (AV.bool Bool.true)) [] ([])) (by kernel_rfl) ?_
      refine hold_stop (fun hd hb => ?_)
      exact ok_leaf0 hd rfl ⟨rfl, rfl⟩
     refine hold_stop (fun hd hb => ?_)
     refine ok_call0 hd works rfl ?_
     rintro x G ⟨rfl, rfl⟩
     refine ⟨rfl, fun g hg => (by cases hg), ?_⟩
     refine ok_sk (.stop []) (S := .stop (Hd.leaf (AV.bool Bool.true)) [] ([])) (by kernel_rfl) ?_
     refine hold_stop (fun hd hb => ?_)
     exact ok_leaf0 hd rfl ⟨rfl, rfl⟩
    refine hold_leftD (Classical.byContradiction fun h25 => by (have e1 := Int.tmod_eq_emod_of_nonneg (a := r.2 0) (b := 1) (by omega); have e2 := Int.tmod_eq_emod_of_nonneg (a := r.2 0) (b := 2) (by omega); omega)) (fun h25 => ?_)
    refine hold_leftD (Classical.byContradiction fun h26 => by omega) (fun h26 => ?_)
    refine hold_leftD (Classical.byContradiction fun h27 => by omega) (fun h27 => ?_)
    refine hold_leftD (Classical.byContradiction fun h28 => by omega) (fun h28 => ?_)
    refine hold_leftD (Classical.byContradiction fun h29 => by exact h29 ⟨by omega, P2⟩) (fun h29 => ?_)
    refine hold_leftD (Classical.byContradiction fun h30 => by omega) (fun h30 => ?_)
    refine hold_leftD (Classical.byContradiction fun h31 => by exact h31 ⟨by omega, Q2⟩) (fun h31 => ?_)
    refine hold_leftD (Classical.byContradiction fun h32 => by exact h32 ⟨by omega, by first | exact P1 | (rw [Int.toNat_natCast]; exact P1) | (simp only [Int.toNat_natCast]; exact P1)⟩) (fun h32 => ?_)
    refine hold_leftD (Classical.byContradiction fun h33 => by exact h33 (by first | exact Q1 | (rw [Int.toNat_natCast]; exact Q1) | (simp only [Int.toNat_natCast]; exact Q1))) (fun h33 => ?_)
    refine hold_forkD (fun h34 => ?_) (fun h34 => ?_)
    ·
     refine hold_forkD (fun h35 => ?_) (fun h35 => ?_)
     ·
      refine hold_leftD (Classical.byContradiction fun h36 => by exact h36 ⟨by omega, by first | exact P1 | (rw [Int.toNat_natCast]; exact P1) | (simp only [Int.toNat_natCast]; exact P1)⟩) (fun h36 => ?_)
      refine hold_leftD (Classical.byContradiction fun h37 => by exact h37 (by first | exact P1 | (rw [Int.toNat_natCast]; exact P1) | (simp only [Int.toNat_natCast]; exact P1))) (fun h37 => ?_)
      refine hold_leftD (Classical.byContradiction fun h38 => by exact h38 (by simp only [Int.toNat_natCast])) (fun h38 => ?_)
      refine hold_leftD (Classical.byContradiction fun h39 => by exact h39 ⟨by omega, by first | exact Q1 | (rw [Int.toNat_natCast]; exact Q1) | (simp only [Int.toNat_natCast]; exact Q1)⟩) (fun h39 => ?_)
      refine hold_leftD (Classical.byContradiction fun h40 => by exact h40 (by first | exact Q1 | (rw [Int.toNat_natCast]; exact Q1) | (simp only [Int.toNat_natCast]; exact Q1))) (fun h40 => ?_)
      refine hold_leftD (Classical.byContradiction fun h41 => by exact h41 (by simp only [Int.toNat_natCast])) (fun h41 => ?_)
      refine hold_stop (fun hd hb => ?_)
      refine ok_call0 hd works rfl ?_
      rintro x G ⟨rfl, rfl⟩
      refine ⟨rfl, fun g hg => (by cases hg), ?_⟩
      refine ok_sk (.stop []) (S := .stop (Hd.leaf (AV.bool Bool.true)) [] ([])) (by kernel_rfl) ?_
      refine hold_stop (fun hd hb => ?_)
      exact ok_leaf0 hd rfl ⟨rfl, rfl⟩
     refine hold_leftD (Classical.byContradiction fun h36 => by exact h36 ⟨by omega, by first | exact P1 | (rw [Int.toNat_natCast]; exact P1) | (simp only [Int.toNat_natCast]; exact P1)⟩) (fun h36 => ?_)
     refine hold_leftD (Classical.byContradiction fun h37 => by exact h37 (by first | exact P1 | (rw [Int.toNat_natCast]; exact P1) | (simp only [Int.toNat_natCast]; exact P1))) (fun h37 => ?_)
     refine hold_leftD (Classical.byContradiction fun h38 => by exact h38 (by simp only [Int.toNat_natCast])) (fun h38 => ?_)
     refine hold_leftD (Classical.byContradiction fun h39 => by exact h39 ⟨by omega, by first | exact Q1 | (rw [Int.toNat_natCast]; exact Q1) | (simp only [Int.toNat_natCast]; exact Q1)⟩) (fun h39 => ?_)
     refine hold_leftD (Classical.byContradiction fun h40 => by exact h40 (by first | exact Q1 | (rw [Int.toNat_natCast]; exact Q1) | (simp only [Int.toNat_natCast]; exact Q1))) (fun h40 => ?_)
     refine hold_leftD (Classical.byContradiction fun h41 => by exact h41 (by simp only [Int.toNat_natCast])) (fun h41 => ?_)
     refine hold_stop (fun hd hb => ?_)
     refine ok_call0 hd works rfl ?_
     rintro x G ⟨rfl, rfl⟩
     refine ⟨rfl, fun g hg => (by cases hg), ?_⟩
     refine ok_sk (.stop []) (S := .stop (Hd.leaf (AV.bool Bool.true)) [] ([])) (by kernel_rfl) ?_
     refine hold_stop (fun hd hb => ?_)
     exact ok_leaf0 hd rfl ⟨rfl, rfl⟩
    refine hold_leftD (Classical.byContradiction fun h35 => by exact h35 ⟨by omega, by first | exact P1 | (rw [Int.toNat_natCast]; exact P1) | (simp only [Int.toNat_natCast]; exact P1)⟩) (fun h35 => ?_)
    refine hold_leftD (Classical.byContradiction fun h36 => by exact h36 (by first | exact P1 | (rw [Int.toNat_natCast]; exact P1) | (simp only [Int.toNat_natCast]; exact P1))) (fun h36 => ?_)
    refine hold_leftD (Classical.byContradiction fun h37 => by exact h37 (by simp only [Int.toNat_natCast])) (fun h37 => ?_)
    refine hold_leftD (Classical.byContradiction fun h38 => by exact h38 ⟨by omega, by first | exact Q1 | (rw [Int.toNat_natCast]; exact Q1) | (simp only [Int.toNat_natCast]; exact Q1)⟩) (fun h38 => ?_)
    refine hold_leftD (Classical.byContradiction fun h39 => by exact h39 (by first | exact Q1 | (rw [Int.toNat_natCast]; exact Q1) | (simp only [Int.toNat_natCast]; exact Q1))) (fun h39 => ?_)
    refine hold_leftD (Classical.byContradiction fun h40 => by exact h40 (by simp only [Int.toNat_natCast])) (fun h40 => ?_)
    refine hold_stop (fun hd hb => ?_)
    refine ok_call0 hd works rfl ?_
    rintro x G ⟨rfl, rfl⟩
    refine ⟨rfl, fun g hg => (by cases hg), ?_⟩
    refine ok_sk (.stop []) (S := .stop (Hd.leaf (AV.bool Bool.true)) [] ([])) (by kernel_rfl) ?_
    refine hold_stop (fun hd hb => ?_)
    exact ok_leaf0 hd rfl ⟨rfl, rfl⟩
  · refine runs_treeF plain mixed (fun g => Nat.beq g 9) (fun _ => false) 60 ?_
    refine ok_sk (.both (.stop []) (.both (.stop []) (.both (.stop []) (.l (.r (.l (.l (.l (.l (.l (.l (.l (.l (.r (.l (.l (.l (.l (.l (.l (.both (.l (.l (.l (.l (.l (.l (.l (.both (.l (.both (.stop []) (.stop []))) (.stop []))))))))) (.l (.both (.l (.l (.l (.l (.l (.l (.l (.both (.l (.both (.stop []) (.stop []))) (.stop []))))))))) (.l (.l (.r (.l (.l (.l (.l (.l (.l (.l (.both (.l (.both (.stop []) (.stop []))) (.stop []))))))))))))))))))))))))))))))))))) (S := .fork (decide ((4096 : Int) < (↑p.fst : Int))) (.stop (Hd.call (9 : Nat) []) [] ([])) (.fork (decide ((4096 : Int) < (↑q.fst : Int))) (.stop (Hd.call (9 : Nat) []) [] ([])) (.fork (decide ((5 : Int) < (↑r.fst : Int))) (.stop (Hd.call (9 : Nat) []) [] ([])) (.left (decide ((-9223372036854775808 : Int) ≤ (0 : Int) + (↑p.fst : Int) ∧ (0 : Int) + (↑p.fst : Int) ≤ (9223372036854775807 : Int))) (.right (decide ((4194304 : Int) < (0 : Int) + (↑p.fst : Int))) (.left (@decide (p.fst < (65536 : Nat) ∧ RowsOK (1 : Nat) p.fst fun (i : Nat) => [AV.sint IntKind.u8 (p.snd i)]) (Classical.propDecidable _)) (.left (decide ((0 : Int) = (0 : Int) ∧ (0 : Int) ≤ (↑p.fst : Int) ∧ (↑p.fst : Int) ≤ (↑p.fst : Int))) (.left (decide ((↑p.fst : Int).toNat ≤ p.fst)) (.left (@decide ((↑p.fst : Int).toNat < (65536 : Nat) ∧ RowsOK (1 : Nat) (↑p.fst : Int).toNat fun (i : Nat) => [AV.sint IntKind.u8 (p.snd i)]) (Classical.propDecidable _)) (.left (decide ((↑p.fst : Int) = (↑p.fst : Int))) (.left (decide ((↑p.fst : Int) = (↑p.fst : Int))) (.left (decide ((-9223372036854775808 : Int) ≤ (↑(↑p.fst : Int).toNat : Int) + (0 : Int) ∧ (↑(↑p.fst : Int).toNat : Int) + (0 : Int) ≤ (9223372036854775807 : Int))) (.left (decide ((-9223372036854775808 : Int) ≤ (↑(↑p.fst : Int).toNat : Int) + (0 : Int) + (↑q.fst : Int) ∧ (↑(↑p.fst : Int).toNat : Int) + (0 : Int) + (↑q.fst : Int) ≤ (9223372036854775807 : Int))) (.right (decide ((4194304 : Int) < (↑(↑p.fst : Int).toNat : Int) + (0 : Int) + (↑q.fst : Int))) (.left (@decide (q.fst < (65536 : Nat) ∧ RowsOK (1 : Nat) q.fst fun (i : Nat) => [AV.sint IntKind.u8 (q.snd i)]) (Classical.propDecidable _)) (.left (decide ((0 : Int) = (0 : Int) ∧ (0 : Int) ≤ (↑q.fst : Int) ∧ (↑q.fst : Int) ≤ (↑q.fst : Int))) (.left (decide ((↑q.fst : Int).toNat ≤ q.fst)) (.left (@decide ((↑q.fst : Int).toNat < (65536 : Nat) ∧ RowsOK (1 : Nat) (↑q.fst : Int).toNat fun (i : Nat) => [AV.sint IntKind.u8 (q.snd i)]) (Classical.propDecidable _)) (.left (decide ((↑q.fst : Int) = (↑q.fst : Int))) (.left (decide ((↑q.fst : Int) = (↑q.fst : Int))) (.fork (decide ((↑r.fst : Int) ≤ (0 : Int))) (.left (decide ((↑q.fst : Int).toNat ≤ (↑q.fst : Int).toNat)) (.left (@decide ((↑q.fst : Int).toNat < (65536 : Nat) ∧ RowsOK (1 : Nat) (↑q.fst : Int).toNat fun (i : Nat) => [AV.sint IntKind.u8 (q.snd i)]) (Classical.propDecidable _)) (.left (@decide ((↑q.fst : Int).toNat ≤ (↑q.fst : Int).toNat ∧ AllBytes (↑q.fst : Int).toNat fun (i : Nat) => [AV.sint IntKind.u8 (q.snd i)]) (Classical.propDecidable _)) (.left (@decide (AllBytes q.fst fun (i : Nat) => [AV.sint IntKind.u8 (q.snd i)]) (Classical.propDecidable _)) (.left (decide ((bytesOf (↑q.fst : Int).toNat fun (i : Nat) => [AV.sint IntKind.u8 (q.snd i)]) = bytesOf q.fst fun (i : Nat) => [AV.sint IntKind.u8 (q.snd i)])) (.left (@decide ((↑q.fst : Int).toNat ≤ (↑q.fst : Int).toNat ∧ AllBytes (↑q.fst : Int).toNat fun (i : Nat) => [AV.sint IntKind.u8 (q.snd i)]) (Classical.propDecidable _)) (.left (@decide (AllBytes p.fst fun (i : Nat) => [AV.sint IntKind.u8 (p.snd i)]) (Classical.propDecidable _)) (.fork (decide ((bytesOf (↑q.fst : Int).toNat fun (i : Nat) => [AV.sint IntKind.u8 (q.snd i)]) = bytesOf p.fst fun (i : Nat) => [AV.sint IntKind.u8 (p.snd i)])) (.left (@decide (AllBytes q.fst fun (i : Nat) => [AV.sint IntKind.u8 (q.snd i)]) (Classical.propDecidable _)) (.fork (decide ([] = bytesOf q.fst fun (i : Nat) => [AV.sint IntKind.u8 (q.snd i)])) (.stop (Hd.call (9 : Nat) []) [] ([])) (.stop (Hd.call (9 : Nat) []) [] ([])))) (.stop (Hd.call (9 : Nat) []) [] ([])))))))))) (.left (decide ((0 : Int) ≤ (0 : Int) ∧ (0 : Nat) < r.fst)) (.fork (decide (r.snd (0 : Nat) < (0 : Int))) (.left (decide ((↑q.fst : Int).toNat ≤ (↑q.fst : Int).toNat)) (.left (@decide ((↑q.fst : Int).toNat < (65536 : Nat) ∧ RowsOK (1 : Nat) (↑q.fst : Int).toNat fun (i : Nat) => [AV.sint IntKind.u8 (q.snd i)]) (Classical.propDecidable _)) (.left (@decide ((↑q.fst : Int).toNat ≤ (↑q.fst : Int).toNat ∧ AllBytes (↑q.fst : Int).toNat fun (i : Nat) => [AV.sint IntKind.u8 (q.snd i)]) (Classical.propDecidable _)) (.left (@decide (AllBytes q.fst fun (i : Nat) => [AV.sint IntKind.u8 (q.snd i)]) (Classical.propDecidable _)) (.left (decide ((bytesOf (↑q.fst : Int).toNat fun (i : Nat) => [AV.sint IntKind.u8 (q.snd i)]) = bytesOf q.fst fun (i : Nat) => [AV.sint IntKind.u8 (q.snd i)])) (.left (@decide ((↑q.fst : Int).toNat ≤ (↑q.fst : Int).toNat ∧ AllBytes (↑q.fst : Int).toNat fun (i : Nat) => [AV.sint IntKind.u8 (q.snd i)]) (Classical.propDecidable _)) (.left (@decide (AllBytes p.fst fun (i : Nat) => [AV.sint IntKind.u8 (p.snd i)]) (Classical.propDecidable _)) (.fork (decide ((bytesOf (↑q.fst : Int).toNat fun (i : Nat) => [AV.sint IntKind.u8 (q.snd i)]) = bytesOf p.fst fun (i : Nat) => [AV.sint IntKind.u8 (p.snd i)])) (.left (@decide (AllBytes q.fst fun (i : Nat) => [AV.sint IntKind.u8 (q.snd i)]) (Classical.propDecidable _)) (.fork (decide ([] = bytesOf q.fst fun (i : Nat) => [AV.sint IntKind.u8 (q.snd i)])) (.stop (Hd.call (9 : Nat) []) [] ([])) (.stop (Hd.call (9 : Nat) []) [] ([])))) (.stop (Hd.call (9 : Nat) []) [] ([])))))))))) (.left (decide ((0 : Int) ≤ (0 : Int) ∧ (0 : Nat) < r.fst)) (.left (decide ((r.snd (0 : Nat)).tmod (1 : Int) = (0 : Int))) (.right (decide ((r.snd (0 : Nat)).tmod (1 : Int) < (0 : Int))) (.left (decide ((↑q.fst : Int).toNat ≤ (↑q.fst : Int).toNat)) (.left (@decide ((↑q.fst : Int).toNat < (65536 : Nat) ∧ RowsOK (1 : Nat) (↑q.fst : Int).toNat fun (i : Nat) => [AV.sint IntKind.u8 (q.snd i)]) (Classical.propDecidable _)) (.left (@decide ((↑q.fst : Int).toNat ≤ (↑q.fst : Int).toNat ∧ AllBytes (↑q.fst : Int).toNat fun (i : Nat) => [AV.sint IntKind.u8 (q.snd i)]) (Classical.propDecidable _)) (.left (@decide (AllBytes q.fst fun (i : Nat) => [AV.sint IntKind.u8 (q.snd i)]) (Classical.propDecidable _)) (.left (decide ((bytesOf (↑q.fst : Int).toNat fun (i : Nat) => [AV.sint IntKind.u8 (q.snd i)]) = bytesOf q.fst fun (i : Nat) => [AV.sint IntKind.u8 (q.snd i)])) (.left (@decide ((↑q.fst : Int).toNat ≤ (↑q.fst : Int).toNat ∧ AllBytes (↑q.fst : Int).toNat fun (i : Nat) => [AV.sint IntKind.u8 (q.snd i)]) (Classical.propDecidable _)) (.left (@decide (AllBytes p.fst fun (i : Nat) => [AV.sint IntKind.u8 (p.snd i)]) (Classical.propDecidable _)) (.fork (decide ((bytesOf (↑q.fst : Int).toNat fun (i : Nat) => [AV.sint IntKind.u8 (q.snd i)]) = bytesOf p.fst fun (i : Nat) => [AV.sint IntKind.u8 (p.snd i)])) (.left (@decide (AllBytes q.fst fun (i : Nat) => [AV.sint IntKind.u8 (q.snd i)]) (Classical.propDecidable _)) (.fork (decide ([] = bytesOf q.fst fun (i : Nat) => [AV.sint IntKind.u8 (q.snd i)])) (.stop (Hd.call (9 : Nat) []) [] ([])) (.stop (Hd.call (9 : Nat) []) [] ([])))) (.stop (Hd.call (9 : Nat) []) [] ([])))))))))))))))))))))))))))))))))))) (by kernel_rfl) ?_
    refine hold_forkD (fun h0 => ?_) (fun h0 => ?_)
    ·
     refine hold_stop (fun hd hb => ?_)
     refine ok_call0 hd works rfl ?_
     rintro x G ⟨rfl, rfl⟩
     refine ⟨rfl, fun g hg => (by cases hg), ?_⟩
     refine ok_sk (.stop []) (S := .stop (Hd.leaf (AV.bool Bool.true)) [] ([])) (by kernel_rfl) ?_
     refine hold_stop (fun hd hb => ?_)
     exact ok_leaf0 hd rfl ⟨rfl, rfl⟩
    refine hold_forkD (fun h1 => ?_) (fun h1 => ?_)
    ·
     refine hold_stop (fun hd hb => ?_)
     refine ok_call0 hd works rfl ?_
     rintro x G ⟨rfl, rfl⟩
     refine ⟨rfl, fun g hg => (by cases hg), ?_⟩
     refine ok_sk (.stop []) (S := .stop (Hd.leaf (AV.bool Bool.true)) [] ([])) (by kernel_rfl) ?_
     refine hold_stop (fun hd hb => ?_)
     exact ok_leaf0 hd rfl ⟨rfl, rfl⟩
    refine hold_forkD (fun h2 => ?_) (fun h2 => ?_)
    ·
     refine hold_stop (fun hd hb => ?_)
     refine ok_call0 hd works rfl ?_
     rintro x G ⟨rfl, rfl⟩
     refine ⟨rfl, fun g hg => (by cases hg), ?_⟩
     refine ok_sk (.stop []) (S := .stop (Hd.leaf (AV.bool Bool.true)) [] ([])) (by kernel_rfl) ?_
     refine hold_stop (fun hd hb => ?_)
     exact ok_leaf0 hd rfl ⟨rfl, rfl⟩
    refine hold_leftD (Classical.byContradiction fun h3 => by omega) (fun h3 => ?_)
    refine hold_rightD (fun h4 => by omega) (fun h4 => ?_)
    refine hold_leftD (Classical.byContradiction fun h5 => by exact h5 ⟨by omega, P2⟩) (fun h5 => ?_)
    refine hold_leftD (Classical.byContradiction fun h6 => by omega) (fun h6 => ?_)
    refine hold_leftD (Classical.byContradiction fun h7 => by omega) (fun h7 => ?_)
    refine hold_leftD (Classical.byContradiction fun h8 => by exact h8 ⟨by omega, P2⟩) (fun h8 => ?_)
    refine hold_leftD (Classical.byContradiction fun h9 => by omega) (fun h9 => ?_)
    refine hold_leftD (Classical.byContradiction fun h10 => by omega) (fun h10 => ?_)
    refine hold_leftD (Classical.byContradiction fun h11 => by omega) (fun h11 => ?_)
    refine hold_leftD (Classical.byContradiction fun h12 => by omega) (fun h12 => ?_)
    refine hold_rightD (fun h13 => by omega) (fun h13 => ?_)
    refine hold_leftD (Classical.byContradiction fun h14 => by exact h14 ⟨by omega, Q2⟩) (fun h14 => ?_)
    refine hold_leftD (Classical.byContradiction fun h15 => by omega) (fun h15 => ?_)
    refine hold_leftD (Classical.byContradiction fun h16 => by omega) (fun h16 => ?_)
    refine hold_leftD (Classical.byContradiction fun h17 => by exact h17 ⟨by omega, Q2⟩) (fun h17 => ?_)
    refine hold_leftD (Classical.byContradiction fun h18 => by omega) (fun h18 => ?_)
    refine hold_leftD (Classical.byContradiction fun h19 => by omega) (fun h19 => ?_)
    refine hold_forkD (fun h20 => ?_) (fun h20 => ?_)
    ·
     refine hold_leftD (Classical.byContradiction fun h21 => by omega) (fun h21 => ?_)
     refine hold_leftD (Classical.byContradiction fun h22 => by exact h22 ⟨by omega, Q2⟩) (fun h22 => ?_)
     refine hold_leftD (Classical.byContradiction fun h23 => by exact h23 ⟨by omega, by first | exact Q1 | (rw [Int.toNat_natCast]; exact Q1) | (simp only [Int.toNat_natCast]; exact Q1)⟩) (fun h23 => ?_)
     refine hold_leftD (Classical.byContradiction fun h24 => by exact h24 (by first | exact Q1 | (rw [Int.toNat_natCast]; exact Q1) | (simp only [Int.toNat_natCast]; exact Q1))) (fun h24 => ?_)
     refine hold_leftD (Classical.byContradiction fun h25 => by exact h25 (by simp only [Int.toNat_natCast])) (fun h25 => ?_)
     refine hold_leftD (Classical.byContradiction fun h26 => by exact h26 ⟨by omega, by first | exact Q1 | (rw [Int.toNat_natCast]; exact Q1) | (simp only [Int.toNat_natCast]; exact Q1)⟩) (fun h26 => ?_)
     refine hold_leftD (Classical.byContradiction fun h27 => by exact h27 (by first | exact P1 | (rw [Int.toNat_natCast]; exact P1) | (simp only [Int.toNat_natCast]; exact P1))) (fun h27 => ?_)
     refine hold_forkD (fun h28 => ?_) (fun h28 => ?_)
     ·
      refine hold_leftD (Classical.byContradiction fun h29 => by exact h29 (by first | exact Q1 | (rw [Int.toNat_natCast]; exact Q1) | (simp only [Int.toNat_natCast]; exact Q1))) (fun h29 => ?_)
      refine hold_forkD (fun h30 => ?_) (fun h30 => ?_)
      ·
       refine hold_stop (fun hd hb => ?_)
       refine ok_call0 hd works rfl ?_
       rintro x G ⟨rfl, rfl⟩
       refine ⟨rfl, fun g hg => (by cases hg), ?_⟩
       refine ok_sk (.stop []) (S := .stop (Hd.leaf (AV.bool Bool.true)) [] ([])) (by kernel_rfl) ?_
       refine hold_stop (fun hd hb => ?_)
       exact ok_leaf0 hd rfl ⟨rfl, rfl⟩
      refine hold_stop (fun hd hb => ?_)
      refine ok_call0 hd works rfl ?_
      rintro x G ⟨rfl, rfl⟩
      refine ⟨rfl, fun g hg => (by cases hg), ?_⟩
      refine ok_sk (.stop []) (S := .stop (Hd.leaf (AV.bool Bool.true)) [] ([])) (by kernel_rfl) ?_
      refine hold_stop (fun hd hb => ?_)
      exact ok_leaf0 hd rfl ⟨rfl, rfl⟩
     refine hold_stop (fun hd hb => ?_)
     refine ok_call0 hd works rfl ?_
     rintro x G ⟨rfl, rfl⟩
     refine ⟨rfl, fun g hg => (by cases hg), ?_⟩
     refine ok_sk (.stop []) (S := .stop (Hd.leaf (AV.bool Bool.true)) [] ([])) (by kernel_rfl) ?_
     refine hold_stop (fun hd hb => ?_)
     exact ok_leaf0 hd rfl ⟨rfl, rfl⟩
    refine hold_leftD (Classical.byContradiction fun h21 => by omega) (fun h21 => ?_)
    refine hold_forkD (fun h22 => ?_) (fun h22 => ?_)
    ·
     refine hold_leftD (Classical.byContradiction fun h23 => by omega) (fun h23 => ?_)
     refine hold_leftD (Classical.byContradiction fun h24 => by exact h24 ⟨by omega, Q2⟩) (fun h24 => ?_)
     refine hold_leftD (Classical.byContradiction fun h25 => by exact h25 ⟨by omega, by first | exact Q1 | (rw [Int.toNat_natCast]; exact Q1) | (simp only [Int.toNat_natCast]; exact Q1)⟩) (fun h25 => ?_)
     refine hold_leftD (Classical.byContradiction fun h26 => by exact h26 (by first | exact Q1 | (rw [Int.toNat_natCast]; exact Q1) | (simp only [Int.toNat_natCast]; exact Q1))) (fun h26 => ?_)
     refine hold_leftD (Classical.byContradiction fun h27 => by exact h27 (by simp only [Int.toNat_natCast])) (fun h27 => ?_)
     refine hold_leftD (Classical.byContradiction fun h28 => by exact h28 ⟨by omega, by first | exact Q1 | (rw [Int.toNat_natCast]; exact Q1) | (simp only [Int.toNat_natCast]; exact Q1)⟩) (fun h28 => ?_)
     refine hold_leftD (Classical.byContradiction fun h29 => by exact h29 (by first | exact P1 | (rw [Int.toNat_natCast]; exact P1) | (simp only [Int.toNat_natCast]; exact P1))) (fun h29 => ?_)
     refine hold_forkD (fun h30 => ?_) (fun h30 => ?_)
     ·
      refine hold_leftD (Classical.byContradiction fun h31 => by exact h31 (by first | exact Q1 | (rw [Int.toNat_natCast]; exact Q1) | (simp only [Int.toNat_natCast]; exact Q1))) (fun h31 => ?_)
      refine hold_forkD (fun h32 => ?_) (fun h32 => ?_)
      ·
       refine hold_stop (fun hd hb => ?_)
       refine ok_call0 hd works rfl ?_
       rintro x G ⟨rfl, rfl⟩
       refine ⟨rfl, fun g hg => (by cases hg), ?_⟩
       refine ok_sk (.stop []) (S := .stop (Hd.leaf (AV.bool Bool.true)) [] ([])) (by kernel_rfl) ?_
       refine hold_stop (fun hd hb => ?_)
       exact ok_leaf0 hd rfl ⟨rfl, rfl⟩
      refine hold_stop (fun hd hb => ?_)
      refine ok_call0 hd works rfl ?_
      rintro x G ⟨rfl, rfl⟩
      refine ⟨rfl, fun g hg => (by cases hg), ?_⟩
      refine ok_sk (.stop []) (S := .stop (Hd.leaf (AV.bool Bool.true)) [] ([])) (by kernel_rfl) ?_
      refine hold_stop (fun hd hb => ?_)
      exact ok_leaf0 hd rfl ⟨rfl, rfl⟩
     refine hold_stop (fun hd hb => ?_)
     refine ok_call0 hd works rfl ?_
     rintro x G ⟨rfl, rfl⟩
     refine ⟨rfl, fun g hg => (by cases hg), ?_⟩
     refine ok_sk (.stop []) (S := .stop (Hd.leaf (AV.bool Bool.true)) [] ([])) (by kernel_rfl) ?_
     refine hold_stop (fun hd hb => ?_)
     exact ok_leaf0 hd rfl ⟨rfl, rfl⟩
    refine hold_leftD (Classical.byContradiction fun h23 => by omega) (fun h23 => ?_)
    refine hold_leftD (Classical.byContradiction fun h24 => by (have e1 := Int.tmod_eq_emod_of_nonneg (a := r.2 0) (b := 1) (by omega); have e2 := Int.tmod_eq_emod_of_nonneg (a := r.2 0) (b := 2) (by omega); omega)) (fun h24 => ?_)
    refine hold_rightD (fun h25 => by omega) (fun h25 => ?_)
    refine hold_leftD (Classical.byContradiction fun h26 => by omega) (fun h26 => ?_)
    refine hold_leftD (Classical.byContradiction fun h27 => by exact h27 ⟨by omega, Q2⟩) (fun h27 => ?_)
    refine hold_leftD (Classical.byContradiction fun h28 => by exact h28 ⟨by omega, by first | exact Q1 | (rw [Int.toNat_natCast]; exact Q1) | (simp only [Int.toNat_natCast]; exact Q1)⟩) (fun h28 => ?_)
    refine hold_leftD (Classical.byContradiction fun h29 => by exact h29 (by first | exact Q1 | (rw [Int.toNat_natCast]; exact Q1) | (simp only [Int.toNat_natCast]; exact Q1))) (fun h29 => ?_)
    refine hold_leftD (Classical.byContradiction fun h30 => by exact h30 (by simp only [Int.toNat_natCast])) (fun h30 => ?_)
    refine hold_leftD (Classical.byContradiction fun h31 => by exact h31 ⟨by omega, by first | exact Q1 | (rw [Int.toNat_natCast]; exact Q1) | (simp only [Int.toNat_natCast]; exact Q1)⟩) (fun h31 => ?_)
    refine hold_leftD (Classical.byContradiction fun h32 => by exact h32 (by first | exact P1 | (rw [Int.toNat_natCast]; exact P1) | (simp only [Int.toNat_natCast]; exact P1))) (fun h32 => ?_)
    refine hold_forkD (fun h33 => ?_) (fun h33 => ?_)
    ·
     refine hold_leftD (Classical.byContradiction fun h34 => by exact h34 (by first | exact Q1 | (rw [Int.toNat_natCast]; exact Q1) | (simp only [Int.toNat_natCast]; exact Q1))) (fun h34 => ?_)
     refine hold_forkD (fun h35 => ?_) (fun h35 => ?_)
     ·
      refine hold_stop (fun hd hb => ?_)
      refine ok_call0 hd works rfl ?_
      rintro x G ⟨rfl, rfl⟩
      refine ⟨rfl, fun g hg => (by cases hg), ?_⟩
      refine ok_sk (.stop []) (S := .stop (Hd.leaf (AV.bool Bool.true)) [] ([])) (by kernel_rfl) ?_
      refine hold_stop (fun hd hb => ?_)
      exact ok_leaf0 hd rfl ⟨rfl, rfl⟩
     refine hold_stop (fun hd hb => ?_)
     refine ok_call0 hd works rfl ?_
     rintro x G ⟨rfl, rfl⟩
     refine ⟨rfl, fun g hg => (by cases hg), ?_⟩
     refine ok_sk (.stop []) (S := .stop (Hd.leaf (AV.bool Bool.true)) [] ([])) (by kernel_rfl) ?_
     refine hold_stop (fun hd hb => ?_)
     exact ok_leaf0 hd rfl ⟨rfl, rfl⟩
    refine hold_stop (fun hd hb => ?_)
    refine ok_call0 hd works rfl ?_
    rintro x G ⟨rfl, rfl⟩
    refine ⟨rfl, fun g hg => (by cases hg), ?_⟩
    refine ok_sk (.stop []) (S := .stop (Hd.leaf (AV.bool Bool.true)) [] ([])) (by kernel_rfl) ?_
    refine hold_stop (fun hd hb => ?_)
    exact ok_leaf0 hd rfl ⟨rfl, rfl⟩
end Go.Proofs.Ytandjcalokecjaa
