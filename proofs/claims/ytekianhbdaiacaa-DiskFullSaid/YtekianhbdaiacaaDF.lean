import Derived.Test.YtekianhbdaiacaaPrl
import Derived.Test.YtekianhbdaiacaaTrc
namespace Go.Proofs.Ytekianhbdaiacaa
open Go Go.RowKit Sv
set_option linter.unusedVariables false
set_option maxRecDepth 100000
set_option maxHeartbeats 0
theorem works : Runs Try.prog 22 [] fun x G => x = .bool true ∧ G = [] := by
  refine runs_treeF plain mixed (fun _ => false) (fun _ => false) 1000 ?_
  refine ok_sk (.l (.l (.l (.stop [])))) (S := .left (decide ([nat_lit 97, nat_lit 98, nat_lit 99] = List.map (fun (x : UInt8) => x.toNat) #[(97 : UInt8), (98 : UInt8), (99 : UInt8)].toList)) (.left (decide ([nat_lit 97, nat_lit 98, nat_lit 99] = List.map (fun (x : UInt8) => x.toNat) #[(97 : UInt8), (98 : UInt8), (99 : UInt8)].toList)) (.left (decide ([nat_lit 120] = List.map (fun (x : UInt8) => x.toNat) #[(120 : UInt8)].toList)) (.stop (Hd.leaf (AV.bool Bool.true)) [] ([]))))) (by kernel_rfl) ?_
  refine hold_leftD0 (Classical.byContradiction fun h0 => by exact h0 (by decide)) ?_
  refine hold_leftD0 (Classical.byContradiction fun h0 => by exact h0 (by decide)) ?_
  refine hold_leftD0 (Classical.byContradiction fun h0 => by exact h0 (by decide)) ?_
  refine hold_stop (fun hd hb => ?_)
  exact ok_leaf0 hd rfl ⟨rfl, rfl⟩
theorem law (o : Int) (ho : IntKind.i8.min ≤ o ∧ o ≤ IntKind.i8.max) (r : Int) (hr : IntKind.u32.min ≤ r ∧ r ≤ IntKind.u32.max) :
    Runs Try.prog 5 [.sint .i8 o, .sint .u32 r] fun x G => x = .bool true ∧ G = [] := by
  have ho1 : -128 ≤ o := ho.1
  have ho2 : o ≤ 127 := ho.2
  have hr1 : 0 ≤ r := hr.1
  have hr2 : r ≤ 4294967295 := hr.2
  have he := Int.tmod_eq_emod_of_nonneg (a := r) (b := 4194304) hr1
  refine runs_treeF plain mixed (fun g => Nat.beq g 22) (fun _ => false) 60 ?_
  refine ok_sk (.l (.l (.l (.l (.l (.r (.l (.both (.l (.l (.l (.l (.l (.l (.r (.l (.l (.l (.both (.l (.stop [])) (.l (.r (.l (.l (.l (.r (.l (.l (.l (.r (.stop [])))))))))))))))))))))) (.l (.l (.l (.both (.l (.l (.l (.r (.l (.l (.l (.both (.l (.stop [])) (.l (.r (.l (.l (.l (.r (.l (.l (.l (.r (.stop []))))))))))))))))))) (.l (.l (.l (.l (.both (.l (.l (.l (.r (.l (.l (.l (.l (.l (.l (.l (.r (.stop []))))))))))))) (.l (.l (.l (.both (.l (.stop [])) (.l (.both (.l (.l (.l (.l (.l (.r (.stop []))))))) (.l (.l (.l (.both (.l (.l (.r (.stop [])))) (.l (.l (.l (.r (.stop [])))))))))))))))))))))))))))))))) (S := .left (decide ((-9223372036854775808 : Int) ≤ o ∧ o ≤ (9223372036854775807 : Int))) (.left (decide ((-9223372036854775808 : Int) ≤ (4194304 : Int) + o ∧ (4194304 : Int) + o ≤ (9223372036854775807 : Int))) (.left (decide ((-9223372036854775808 : Int) ≤ r ∧ r ≤ (9223372036854775807 : Int))) (.left (decide (r.tmod (4194304 : Int) = r.tmod (4194304 : Int) ∧ (0 : Int) ≤ r.tmod (4194304 : Int) ∧ r.tmod (4194304 : Int) < (1073741824 : Int))) (.left (decide ((-9223372036854775808 : Int) ≤ (0 : Int) + (↑(r.tmod (4194304 : Int)).toNat : Int) ∧ (0 : Int) + (↑(r.tmod (4194304 : Int)).toNat : Int) ≤ (9223372036854775807 : Int))) (.right (decide ((4194304 : Int) < (0 : Int) + (↑(r.tmod (4194304 : Int)).toNat : Int))) (.left (decide ((r.tmod (4194304 : Int)).toNat ≤ (r.tmod (4194304 : Int)).toNat)) (.fork (@decide ((r.tmod (4194304 : Int)).toNat < (65536 : Nat) ∧ RowsOK (1 : Nat) (r.tmod (4194304 : Int)).toNat fun (x : Nat) => [AV.int IntKind.u8 (0 : Int)]) (Classical.propDecidable _)) (.left (decide ((0 : Int) = (0 : Int) ∧ (0 : Int) ≤ (↑(r.tmod (4194304 : Int)).toNat : Int) ∧ (↑(r.tmod (4194304 : Int)).toNat : Int) ≤ (↑(r.tmod (4194304 : Int)).toNat : Int))) (.left (decide ((↑(r.tmod (4194304 : Int)).toNat : Int).toNat ≤ (r.tmod (4194304 : Int)).toNat)) (.left (@decide ((↑(r.tmod (4194304 : Int)).toNat : Int).toNat < (65536 : Nat) ∧ RowsOK (1 : Nat) (↑(r.tmod (4194304 : Int)).toNat : Int).toNat fun (x : Nat) => [AV.int IntKind.u8 (0 : Int)]) (Classical.propDecidable _)) (.left (decide ((↑(r.tmod (4194304 : Int)).toNat : Int) = (↑(r.tmod (4194304 : Int)).toNat : Int))) (.left (decide ((↑(r.tmod (4194304 : Int)).toNat : Int) = (↑(r.tmod (4194304 : Int)).toNat : Int))) (.left (decide ((-9223372036854775808 : Int) ≤ (4194304 : Int) + o - r.tmod (4194304 : Int) ∧ (4194304 : Int) + o - r.tmod (4194304 : Int) ≤ (9223372036854775807 : Int))) (.right (decide ((4194304 : Int) + o - r.tmod (4194304 : Int) < (0 : Int))) (.left (decide ((4194304 : Int) + o - r.tmod (4194304 : Int) = (4194304 : Int) + o - r.tmod (4194304 : Int) ∧ (0 : Int) ≤ (4194304 : Int) + o - r.tmod (4194304 : Int) ∧ (4194304 : Int) + o - r.tmod (4194304 : Int) < (1073741824 : Int))) (.left (decide ((-9223372036854775808 : Int) ≤ (↑(↑(r.tmod (4194304 : Int)).toNat : Int).toNat : Int) + (0 : Int) ∧ (↑(↑(r.tmod (4194304 : Int)).toNat : Int).toNat : Int) + (0 : Int) ≤ (9223372036854775807 : Int))) (.left (decide ((-9223372036854775808 : Int) ≤ (↑(↑(r.tmod (4194304 : Int)).toNat : Int).toNat : Int) + (0 : Int) + (↑((4194304 : Int) + o - r.tmod (4194304 : Int)).toNat : Int) ∧ (↑(↑(r.tmod (4194304 : Int)).toNat : Int).toNat : Int) + (0 : Int) + (↑((4194304 : Int) + o - r.tmod (4194304 : Int)).toNat : Int) ≤ (9223372036854775807 : Int))) (.fork (decide ((4194304 : Int) < (↑(↑(r.tmod (4194304 : Int)).toNat : Int).toNat : Int) + (0 : Int) + (↑((4194304 : Int) + o - r.tmod (4194304 : Int)).toNat : Int))) (.left (decide ((0 : Int) < o)) (.stop (Hd.call (22 : Nat) []) [] ([]))) (.left (decide (((4194304 : Int) + o - r.tmod (4194304 : Int)).toNat ≤ ((4194304 : Int) + o - r.tmod (4194304 : Int)).toNat)) (.right (@decide (((4194304 : Int) + o - r.tmod (4194304 : Int)).toNat < (65536 : Nat) ∧ RowsOK (1 : Nat) ((4194304 : Int) + o - r.tmod (4194304 : Int)).toNat fun (x : Nat) => [AV.int IntKind.u8 (0 : Int)]) (Classical.propDecidable _)) (.left (@decide (((4194304 : Int) + o - r.tmod (4194304 : Int)).toNat < (1073741824 : Nat) ∧ RowsOK (1 : Nat) ((4194304 : Int) + o - r.tmod (4194304 : Int)).toNat fun (x : Nat) => [AV.int IntKind.u8 (0 : Int)]) (Classical.propDecidable _)) (.left (decide ((0 : Int) = (0 : Int) ∧ (0 : Int) ≤ (↑((4194304 : Int) + o - r.tmod (4194304 : Int)).toNat : Int) ∧ (↑((4194304 : Int) + o - r.tmod (4194304 : Int)).toNat : Int) ≤ (↑((4194304 : Int) + o - r.tmod (4194304 : Int)).toNat : Int))) (.left (decide ((↑((4194304 : Int) + o - r.tmod (4194304 : Int)).toNat : Int).toNat ≤ ((4194304 : Int) + o - r.tmod (4194304 : Int)).toNat)) (.right (@decide ((↑((4194304 : Int) + o - r.tmod (4194304 : Int)).toNat : Int).toNat < (65536 : Nat) ∧ RowsOK (1 : Nat) (↑((4194304 : Int) + o - r.tmod (4194304 : Int)).toNat : Int).toNat fun (x : Nat) => [AV.int IntKind.u8 (0 : Int)]) (Classical.propDecidable _)) (.left (@decide ((↑((4194304 : Int) + o - r.tmod (4194304 : Int)).toNat : Int).toNat < (1073741824 : Nat) ∧ RowsOK (1 : Nat) (↑((4194304 : Int) + o - r.tmod (4194304 : Int)).toNat : Int).toNat fun (x : Nat) => [AV.int IntKind.u8 (0 : Int)]) (Classical.propDecidable _)) (.left (decide ((↑((4194304 : Int) + o - r.tmod (4194304 : Int)).toNat : Int) = (↑((4194304 : Int) + o - r.tmod (4194304 : Int)).toNat : Int))) (.left (decide ((↑((4194304 : Int) + o - r.tmod (4194304 : Int)).toNat : Int) = (↑((4194304 : Int) + o - r.tmod (4194304 : Int)).toNat : Int))) (.right (decide ((0 : Int) < o)) (.stop (Hd.call (22 : Nat) []) [] ([]))))))))))))))))))))))) (.left (@decide ((r.tmod (4194304 : Int)).toNat < (1073741824 : Nat) ∧ RowsOK (1 : Nat) (r.tmod (4194304 : Int)).toNat fun (x : Nat) => [AV.int IntKind.u8 (0 : Int)]) (Classical.propDecidable _)) (.left (decide ((0 : Int) = (0 : Int) ∧ (0 : Int) ≤ (↑(r.tmod (4194304 : Int)).toNat : Int) ∧ (↑(r.tmod (4194304 : Int)).toNat : Int) ≤ (↑(r.tmod (4194304 : Int)).toNat : Int))) (.left (decide ((↑(r.tmod (4194304 : Int)).toNat : Int).toNat ≤ (r.tmod (4194304 : Int)).toNat)) (.fork (@decide ((↑(r.tmod (4194304 : Int)).toNat : Int).toNat < (65536 : Nat) ∧ RowsOK (1 : Nat) (↑(r.tmod (4194304 : Int)).toNat : Int).toNat fun (x : Nat) => [AV.int IntKind.u8 (0 : Int)]) (Classical.propDecidable _)) (.left (decide ((↑(r.tmod (4194304 : Int)).toNat : Int) = (↑(r.tmod (4194304 : Int)).toNat : Int))) (.left (decide ((↑(r.tmod (4194304 : Int)).toNat : Int) = (↑(r.tmod (4194304 : Int)).toNat : Int))) (.left (decide ((-9223372036854775808 : Int) ≤ (4194304 : Int) + o - r.tmod (4194304 : Int) ∧ (4194304 : Int) + o - r.tmod (4194304 : Int) ≤ (9223372036854775807 : Int))) (.right (decide ((4194304 : Int) + o - r.tmod (4194304 : Int) < (0 : Int))) (.left (decide ((4194304 : Int) + o - r.tmod (4194304 : Int) = (4194304 : Int) + o - r.tmod (4194304 : Int) ∧ (0 : Int) ≤ (4194304 : Int) + o - r.tmod (4194304 : Int) ∧ (4194304 : Int) + o - r.tmod (4194304 : Int) < (1073741824 : Int))) (.left (decide ((-9223372036854775808 : Int) ≤ (↑(↑(r.tmod (4194304 : Int)).toNat : Int).toNat : Int) + (0 : Int) ∧ (↑(↑(r.tmod (4194304 : Int)).toNat : Int).toNat : Int) + (0 : Int) ≤ (9223372036854775807 : Int))) (.left (decide ((-9223372036854775808 : Int) ≤ (↑(↑(r.tmod (4194304 : Int)).toNat : Int).toNat : Int) + (0 : Int) + (↑((4194304 : Int) + o - r.tmod (4194304 : Int)).toNat : Int) ∧ (↑(↑(r.tmod (4194304 : Int)).toNat : Int).toNat : Int) + (0 : Int) + (↑((4194304 : Int) + o - r.tmod (4194304 : Int)).toNat : Int) ≤ (9223372036854775807 : Int))) (.fork (decide ((4194304 : Int) < (↑(↑(r.tmod (4194304 : Int)).toNat : Int).toNat : Int) + (0 : Int) + (↑((4194304 : Int) + o - r.tmod (4194304 : Int)).toNat : Int))) (.left (decide ((0 : Int) < o)) (.stop (Hd.call (22 : Nat) []) [] ([]))) (.left (decide (((4194304 : Int) + o - r.tmod (4194304 : Int)).toNat ≤ ((4194304 : Int) + o - r.tmod (4194304 : Int)).toNat)) (.right (@decide (((4194304 : Int) + o - r.tmod (4194304 : Int)).toNat < (65536 : Nat) ∧ RowsOK (1 : Nat) ((4194304 : Int) + o - r.tmod (4194304 : Int)).toNat fun (x : Nat) => [AV.int IntKind.u8 (0 : Int)]) (Classical.propDecidable _)) (.left (@decide (((4194304 : Int) + o - r.tmod (4194304 : Int)).toNat < (1073741824 : Nat) ∧ RowsOK (1 : Nat) ((4194304 : Int) + o - r.tmod (4194304 : Int)).toNat fun (x : Nat) => [AV.int IntKind.u8 (0 : Int)]) (Classical.propDecidable _)) (.left (decide ((0 : Int) = (0 : Int) ∧ (0 : Int) ≤ (↑((4194304 : Int) + o - r.tmod (4194304 : Int)).toNat : Int) ∧ (↑((4194304 : Int) + o - r.tmod (4194304 : Int)).toNat : Int) ≤ (↑((4194304 : Int) + o - r.tmod (4194304 : Int)).toNat : Int))) (.left (decide ((↑((4194304 : Int) + o - r.tmod (4194304 : Int)).toNat : Int).toNat ≤ ((4194304 : Int) + o - r.tmod (4194304 : Int)).toNat)) (.right (@decide ((↑((4194304 : Int) + o - r.tmod (4194304 : Int)).toNat : Int).toNat < (65536 : Nat) ∧ RowsOK (1 : Nat) (↑((4194304 : Int) + o - r.tmod (4194304 : Int)).toNat : Int).toNat fun (x : Nat) => [AV.int IntKind.u8 (0 : Int)]) (Classical.propDecidable _)) (.left (@decide ((↑((4194304 : Int) + o - r.tmod (4194304 : Int)).toNat : Int).toNat < (1073741824 : Nat) ∧ RowsOK (1 : Nat) (↑((4194304 : Int) + o - r.tmod (4194304 : Int)).toNat : Int).toNat fun (x : Nat) => [AV.int IntKind.u8 (0 : Int)]) (Classical.propDecidable _)) (.left (decide ((↑((4194304 : Int) + o - r.tmod (4194304 : Int)).toNat : Int) = (↑((4194304 : Int) + o - r.tmod (4194304 : Int)).toNat : Int))) (.left (decide ((↑((4194304 : Int) + o - r.tmod (4194304 : Int)).toNat : Int) = (↑((4194304 : Int) + o - r.tmod (4194304 : Int)).toNat : Int))) (.right (decide ((0 : Int) < o)) (.stop (Hd.call (22 : Nat) []) [] ([])))))))))))))))))))) (.left (@decide ((↑(r.tmod (4194304 : Int)).toNat : Int).toNat < (1073741824 : Nat) ∧ RowsOK (1 : Nat) (↑(r.tmod (4194304 : Int)).toNat : Int).toNat fun (x : Nat) => [AV.int IntKind.u8 (0 : Int)]) (Classical.propDecidable _)) (.left (decide ((↑(r.tmod (4194304 : Int)).toNat : Int) = (↑(r.tmod (4194304 : Int)).toNat : Int))) (.left (decide ((↑(r.tmod (4194304 : Int)).toNat : Int) = (↑(r.tmod (4194304 : Int)).toNat : Int))) (.left (decide ((-9223372036854775808 : Int) ≤ (4194304 : Int) + o - r.tmod (4194304 : Int) ∧ (4194304 : Int) + o - r.tmod (4194304 : Int) ≤ (9223372036854775807 : Int))) (.fork (decide ((4194304 : Int) + o - r.tmod (4194304 : Int) < (0 : Int))) (.left (decide ((0 : Int) = (0 : Int) ∧ (0 : Int) ≤ (0 : Int) ∧ (0 : Int) < (1073741824 : Int))) (.left (decide ((-9223372036854775808 : Int) ≤ (↑(↑(r.tmod (4194304 : Int)).toNat : Int).toNat : Int) + (0 : Int) ∧ (↑(↑(r.tmod (4194304 : Int)).toNat : Int).toNat : Int) + (0 : Int) ≤ (9223372036854775807 : Int))) (.left (decide ((-9223372036854775808 : Int) ≤ (↑(↑(r.tmod (4194304 : Int)).toNat : Int).toNat : Int) + (0 : Int) + (0 : Int) ∧ (↑(↑(r.tmod (4194304 : Int)).toNat : Int).toNat : Int) + (0 : Int) + (0 : Int) ≤ (9223372036854775807 : Int))) (.right (decide ((4194304 : Int) < (↑(↑(r.tmod (4194304 : Int)).toNat : Int).toNat : Int) + (0 : Int) + (0 : Int))) (.left (decide ((0 : Nat) ≤ (0 : Nat))) (.left (@decide ((0 : Nat) < (65536 : Nat) ∧ RowsOK (1 : Nat) (0 : Nat) fun (x : Nat) => [AV.int IntKind.u8 (0 : Int)]) (Classical.propDecidable _)) (.left (decide ((0 : Int) = (0 : Int) ∧ (0 : Int) ≤ (0 : Int) ∧ (0 : Int) ≤ (0 : Int))) (.left (decide ((0 : Nat) ≤ (0 : Nat))) (.left (@decide ((0 : Nat) < (65536 : Nat) ∧ RowsOK (1 : Nat) (0 : Nat) fun (x : Nat) => [AV.int IntKind.u8 (0 : Int)]) (Classical.propDecidable _)) (.left (decide ((0 : Int) = (0 : Int))) (.left (decide ((0 : Int) = (0 : Int))) (.right (decide ((0 : Int) < o)) (.stop (Hd.call (22 : Nat) []) [] ([])))))))))))))) (.left (decide ((4194304 : Int) + o - r.tmod (4194304 : Int) = (4194304 : Int) + o - r.tmod (4194304 : Int) ∧ (0 : Int) ≤ (4194304 : Int) + o - r.tmod (4194304 : Int) ∧ (4194304 : Int) + o - r.tmod (4194304 : Int) < (1073741824 : Int))) (.left (decide ((-9223372036854775808 : Int) ≤ (↑(↑(r.tmod (4194304 : Int)).toNat : Int).toNat : Int) + (0 : Int) ∧ (↑(↑(r.tmod (4194304 : Int)).toNat : Int).toNat : Int) + (0 : Int) ≤ (9223372036854775807 : Int))) (.left (decide ((-9223372036854775808 : Int) ≤ (↑(↑(r.tmod (4194304 : Int)).toNat : Int).toNat : Int) + (0 : Int) + (↑((4194304 : Int) + o - r.tmod (4194304 : Int)).toNat : Int) ∧ (↑(↑(r.tmod (4194304 : Int)).toNat : Int).toNat : Int) + (0 : Int) + (↑((4194304 : Int) + o - r.tmod (4194304 : Int)).toNat : Int) ≤ (9223372036854775807 : Int))) (.fork (decide ((4194304 : Int) < (↑(↑(r.tmod (4194304 : Int)).toNat : Int).toNat : Int) + (0 : Int) + (↑((4194304 : Int) + o - r.tmod (4194304 : Int)).toNat : Int))) (.left (decide ((0 : Int) < o)) (.stop (Hd.call (22 : Nat) []) [] ([]))) (.left (decide (((4194304 : Int) + o - r.tmod (4194304 : Int)).toNat ≤ ((4194304 : Int) + o - r.tmod (4194304 : Int)).toNat)) (.fork (@decide (((4194304 : Int) + o - r.tmod (4194304 : Int)).toNat < (65536 : Nat) ∧ RowsOK (1 : Nat) ((4194304 : Int) + o - r.tmod (4194304 : Int)).toNat fun (x : Nat) => [AV.int IntKind.u8 (0 : Int)]) (Classical.propDecidable _)) (.left (decide ((0 : Int) = (0 : Int) ∧ (0 : Int) ≤ (↑((4194304 : Int) + o - r.tmod (4194304 : Int)).toNat : Int) ∧ (↑((4194304 : Int) + o - r.tmod (4194304 : Int)).toNat : Int) ≤ (↑((4194304 : Int) + o - r.tmod (4194304 : Int)).toNat : Int))) (.left (decide ((↑((4194304 : Int) + o - r.tmod (4194304 : Int)).toNat : Int).toNat ≤ ((4194304 : Int) + o - r.tmod (4194304 : Int)).toNat)) (.left (@decide ((↑((4194304 : Int) + o - r.tmod (4194304 : Int)).toNat : Int).toNat < (65536 : Nat) ∧ RowsOK (1 : Nat) (↑((4194304 : Int) + o - r.tmod (4194304 : Int)).toNat : Int).toNat fun (x : Nat) => [AV.int IntKind.u8 (0 : Int)]) (Classical.propDecidable _)) (.left (decide ((↑((4194304 : Int) + o - r.tmod (4194304 : Int)).toNat : Int) = (↑((4194304 : Int) + o - r.tmod (4194304 : Int)).toNat : Int))) (.left (decide ((↑((4194304 : Int) + o - r.tmod (4194304 : Int)).toNat : Int) = (↑((4194304 : Int) + o - r.tmod (4194304 : Int)).toNat : Int))) (.right (decide ((0 : Int) < o)) (.stop (Hd.call (22 : Nat) []) [] ([])))))))) (.left (@decide (((4194304 : Int) + o - r.tmod (4194304 : Int)).toNat < (1073741824 : Nat) ∧ RowsOK (1 : Nat) ((4194304 : Int) + o - r.tmod (4194304 : Int)).toNat fun (x : Nat) => [AV.int IntKind.u8 (0 : Int)]) (Classical.propDecidable _)) (.left (decide ((0 : Int) = (0 : Int) ∧ (0 : Int) ≤ (↑((4194304 : Int) + o - r.tmod (4194304 : Int)).toNat : Int) ∧ (↑((4194304 : Int) + o - r.tmod (4194304 : Int)).toNat : Int) ≤ (↑((4194304 : Int) + o - r.tmod (4194304 : Int)).toNat : Int))) (.left (decide ((↑((4194304 : Int) + o - r.tmod (4194304 : Int)).toNat : Int).toNat ≤ ((4194304 : Int) + o - r.tmod (4194304 : Int)).toNat)) (.fork (@decide ((↑((4194304 : Int) + o - r.tmod (4194304 : Int)).toNat : Int).toNat < (65536 : Nat) ∧ RowsOK (1 : Nat) (↑((4194304 : Int) + o - r.tmod (4194304 : Int)).toNat : Int).toNat fun (x : Nat) => [AV.int IntKind.u8 (0 : Int)]) (Classical.propDecidable _)) (.left (decide ((↑((4194304 : Int) + o - r.tmod (4194304 : Int)).toNat : Int) = (↑((4194304 : Int) + o - r.tmod (4194304 : Int)).toNat : Int))) (.left (decide ((↑((4194304 : Int) + o - r.tmod (4194304 : Int)).toNat : Int) = (↑((4194304 : Int) + o - r.tmod (4194304 : Int)).toNat : Int))) (.right (decide ((0 : Int) < o)) (.stop (Hd.call (22 : Nat) []) [] ([]))))) (.left (@decide ((↑((4194304 : Int) + o - r.tmod (4194304 : Int)).toNat : Int).toNat < (1073741824 : Nat) ∧ RowsOK (1 : Nat) (↑((4194304 : Int) + o - r.tmod (4194304 : Int)).toNat : Int).toNat fun (x : Nat) => [AV.int IntKind.u8 (0 : Int)]) (Classical.propDecidable _)) (.left (decide ((↑((4194304 : Int) + o - r.tmod (4194304 : Int)).toNat : Int) = (↑((4194304 : Int) + o - r.tmod (4194304 : Int)).toNat : Int))) (.left (decide ((↑((4194304 : Int) + o - r.tmod (4194304 : Int)).toNat : Int) = (↑((4194304 : Int) + o - r.tmod (4194304 : Int)).toNat : Int))) (.right (decide ((0 : Int) < o)) (.stop (Hd.call (22 : Nat) []) [] ([]))))))))))))))))))))))))))))))))) (by kernel_rfl) ?_
  refine hold_leftD0 (Classical.byContradiction fun h0 => by omega) ?_
  refine hold_leftD0 (Classical.byContradiction fun h0 => by omega) ?_
  refine hold_leftD0 (Classical.byContradiction fun h0 => by omega) ?_
  refine hold_leftD0 (Classical.byContradiction fun h0 => by omega) ?_
  refine hold_leftD0 (Classical.byContradiction fun h0 => by omega) ?_
  refine hold_rightD0 (fun h0 => by omega) ?_
  refine hold_leftD0 (Classical.byContradiction fun h0 => by omega) ?_
  refine hold_forkD (fun h0 => ?_) (fun h0 => ?_)
  ·
   refine hold_leftD0 (Classical.byContradiction fun h1 => by omega) ?_
   refine hold_leftD0 (Classical.byContradiction fun h1 => by omega) ?_
   refine hold_leftD0 (Classical.byContradiction fun h1 => by exact h1 ⟨by omega, fun i hi => ⟨rfl, rfl⟩⟩) ?_
   refine hold_leftD0 (Classical.byContradiction fun h1 => by omega) ?_
   refine hold_leftD0 (Classical.byContradiction fun h1 => by omega) ?_
   refine hold_leftD0 (Classical.byContradiction fun h1 => by omega) ?_
   refine hold_rightD0 (fun h1 => by omega) ?_
   refine hold_leftD0 (Classical.byContradiction fun h1 => by omega) ?_
   refine hold_leftD0 (Classical.byContradiction fun h1 => by omega) ?_
   refine hold_leftD0 (Classical.byContradiction fun h1 => by omega) ?_
   refine hold_forkD (fun h1 => ?_) (fun h1 => ?_)
   ·
    refine hold_leftD0 (Classical.byContradiction fun h2 => by omega) ?_
    refine hold_stop (fun hd hb => ?_)
    refine ok_call0 hd works rfl ?_
    rintro x G ⟨rfl, rfl⟩
    refine ⟨rfl, fun g hg => (by cases hg), ?_⟩
    refine ok_sk (.stop []) (S := .stop (Hd.leaf (AV.bool Bool.true)) [] ([])) (by kernel_rfl) ?_
    refine hold_stop (fun hd hb => ?_)
    exact ok_leaf0 hd rfl ⟨rfl, rfl⟩
   refine hold_leftD0 (Classical.byContradiction fun h2 => by omega) ?_
   refine hold_rightD0 (fun h2 => by omega) ?_
   refine hold_leftD0 (Classical.byContradiction fun h2 => by exact h2 ⟨by omega, fun i hi => ⟨rfl, rfl⟩⟩) ?_
   refine hold_leftD0 (Classical.byContradiction fun h2 => by omega) ?_
   refine hold_leftD0 (Classical.byContradiction fun h2 => by omega) ?_
   refine hold_rightD0 (fun h2 => by omega) ?_
   refine hold_leftD0 (Classical.byContradiction fun h2 => by exact h2 ⟨by omega, fun i hi => ⟨rfl, rfl⟩⟩) ?_
   refine hold_leftD0 (Classical.byContradiction fun h2 => by omega) ?_
   refine hold_leftD0 (Classical.byContradiction fun h2 => by omega) ?_
   refine hold_rightD0 (fun h2 => by omega) ?_
   refine hold_stop (fun hd hb => ?_)
   refine ok_call0 hd works rfl ?_
   rintro x G ⟨rfl, rfl⟩
   refine ⟨rfl, fun g hg => (by cases hg), ?_⟩
   refine ok_sk (.stop []) (S := .stop (Hd.leaf (AV.bool Bool.true)) [] ([])) (by kernel_rfl) ?_
   refine hold_stop (fun hd hb => ?_)
   exact ok_leaf0 hd rfl ⟨rfl, rfl⟩
  refine hold_leftD0 (Classical.byContradiction fun h1 => by exact h1 ⟨by omega, fun i hi => ⟨rfl, rfl⟩⟩) ?_
  refine hold_leftD0 (Classical.byContradiction fun h1 => by omega) ?_
  refine hold_leftD0 (Classical.byContradiction fun h1 => by omega) ?_
  refine hold_forkD (fun h1 => ?_) (fun h1 => ?_)
  ·
   refine hold_leftD0 (Classical.byContradiction fun h2 => by omega) ?_
   refine hold_leftD0 (Classical.byContradiction fun h2 => by omega) ?_
   refine hold_leftD0 (Classical.byContradiction fun h2 => by omega) ?_
   refine hold_rightD0 (fun h2 => by omega) ?_
   refine hold_leftD0 (Classical.byContradiction fun h2 => by omega) ?_
   refine hold_leftD0 (Classical.byContradiction fun h2 => by omega) ?_
   refine hold_leftD0 (Classical.byContradiction fun h2 => by omega) ?_
   refine hold_forkD (fun h2 => ?_) (fun h2 => ?_)
   ·
    refine hold_leftD0 (Classical.byContradiction fun h3 => by omega) ?_
    refine hold_stop (fun hd hb => ?_)
    refine ok_call0 hd works rfl ?_
    rintro x G ⟨rfl, rfl⟩
    refine ⟨rfl, fun g hg => (by cases hg), ?_⟩
    refine ok_sk (.stop []) (S := .stop (Hd.leaf (AV.bool Bool.true)) [] ([])) (by kernel_rfl) ?_
    refine hold_stop (fun hd hb => ?_)
    exact ok_leaf0 hd rfl ⟨rfl, rfl⟩
   refine hold_leftD0 (Classical.byContradiction fun h3 => by omega) ?_
   refine hold_rightD0 (fun h3 => by omega) ?_
   refine hold_leftD0 (Classical.byContradiction fun h3 => by exact h3 ⟨by omega, fun i hi => ⟨rfl, rfl⟩⟩) ?_
   refine hold_leftD0 (Classical.byContradiction fun h3 => by omega) ?_
   refine hold_leftD0 (Classical.byContradiction fun h3 => by omega) ?_
   refine hold_rightD0 (fun h3 => by omega) ?_
   refine hold_leftD0 (Classical.byContradiction fun h3 => by exact h3 ⟨by omega, fun i hi => ⟨rfl, rfl⟩⟩) ?_
   refine hold_leftD0 (Classical.byContradiction fun h3 => by omega) ?_
   refine hold_leftD0 (Classical.byContradiction fun h3 => by omega) ?_
   refine hold_rightD0 (fun h3 => by omega) ?_
   refine hold_stop (fun hd hb => ?_)
   refine ok_call0 hd works rfl ?_
   rintro x G ⟨rfl, rfl⟩
   refine ⟨rfl, fun g hg => (by cases hg), ?_⟩
   refine ok_sk (.stop []) (S := .stop (Hd.leaf (AV.bool Bool.true)) [] ([])) (by kernel_rfl) ?_
   refine hold_stop (fun hd hb => ?_)
   exact ok_leaf0 hd rfl ⟨rfl, rfl⟩
  refine hold_leftD0 (Classical.byContradiction fun h2 => by exact h2 ⟨by omega, fun i hi => ⟨rfl, rfl⟩⟩) ?_
  refine hold_leftD0 (Classical.byContradiction fun h2 => by omega) ?_
  refine hold_leftD0 (Classical.byContradiction fun h2 => by omega) ?_
  refine hold_leftD0 (Classical.byContradiction fun h2 => by omega) ?_
  refine hold_forkD (fun h2 => ?_) (fun h2 => ?_)
  ·
   refine hold_leftD0 (Classical.byContradiction fun h3 => by omega) ?_
   refine hold_leftD0 (Classical.byContradiction fun h3 => by omega) ?_
   refine hold_leftD0 (Classical.byContradiction fun h3 => by omega) ?_
   refine hold_rightD0 (fun h3 => by omega) ?_
   refine hold_leftD0 (Classical.byContradiction fun h3 => by omega) ?_
   refine hold_leftD0 (Classical.byContradiction fun h3 => by exact h3 ⟨by omega, fun i hi => ⟨rfl, rfl⟩⟩) ?_
   refine hold_leftD0 (Classical.byContradiction fun h3 => by omega) ?_
   refine hold_leftD0 (Classical.byContradiction fun h3 => by omega) ?_
   refine hold_leftD0 (Classical.byContradiction fun h3 => by exact h3 ⟨by omega, fun i hi => ⟨rfl, rfl⟩⟩) ?_
   refine hold_leftD0 (Classical.byContradiction fun h3 => by omega) ?_
   refine hold_leftD0 (Classical.byContradiction fun h3 => by omega) ?_
   refine hold_rightD0 (fun h3 => by omega) ?_
   refine hold_stop (fun hd hb => ?_)
   refine ok_call0 hd works rfl ?_
   rintro x G ⟨rfl, rfl⟩
   refine ⟨rfl, fun g hg => (by cases hg), ?_⟩
   refine ok_sk (.stop []) (S := .stop (Hd.leaf (AV.bool Bool.true)) [] ([])) (by kernel_rfl) ?_
   refine hold_stop (fun hd hb => ?_)
   exact ok_leaf0 hd rfl ⟨rfl, rfl⟩
  refine hold_leftD0 (Classical.byContradiction fun h3 => by omega) ?_
  refine hold_leftD0 (Classical.byContradiction fun h3 => by omega) ?_
  refine hold_leftD0 (Classical.byContradiction fun h3 => by omega) ?_
  refine hold_forkD (fun h3 => ?_) (fun h3 => ?_)
  ·
   refine hold_leftD0 (Classical.byContradiction fun h4 => by omega) ?_
   refine hold_stop (fun hd hb => ?_)
   refine ok_call0 hd works rfl ?_
   rintro x G ⟨rfl, rfl⟩
   refine ⟨rfl, fun g hg => (by cases hg), ?_⟩
   refine ok_sk (.stop []) (S := .stop (Hd.leaf (AV.bool Bool.true)) [] ([])) (by kernel_rfl) ?_
   refine hold_stop (fun hd hb => ?_)
   exact ok_leaf0 hd rfl ⟨rfl, rfl⟩
  refine hold_leftD0 (Classical.byContradiction fun h4 => by omega) ?_
  refine hold_forkD (fun h4 => ?_) (fun h4 => ?_)
  ·
   refine hold_leftD0 (Classical.byContradiction fun h5 => by omega) ?_
   refine hold_leftD0 (Classical.byContradiction fun h5 => by omega) ?_
   refine hold_leftD0 (Classical.byContradiction fun h5 => by exact h5 ⟨by omega, fun i hi => ⟨rfl, rfl⟩⟩) ?_
   refine hold_leftD0 (Classical.byContradiction fun h5 => by omega) ?_
   refine hold_leftD0 (Classical.byContradiction fun h5 => by omega) ?_
   refine hold_rightD0 (fun h5 => by omega) ?_
   refine hold_stop (fun hd hb => ?_)
   refine ok_call0 hd works rfl ?_
   rintro x G ⟨rfl, rfl⟩
   refine ⟨rfl, fun g hg => (by cases hg), ?_⟩
   refine ok_sk (.stop []) (S := .stop (Hd.leaf (AV.bool Bool.true)) [] ([])) (by kernel_rfl) ?_
   refine hold_stop (fun hd hb => ?_)
   exact ok_leaf0 hd rfl ⟨rfl, rfl⟩
  refine hold_leftD0 (Classical.byContradiction fun h5 => by exact h5 ⟨by omega, fun i hi => ⟨rfl, rfl⟩⟩) ?_
  refine hold_leftD0 (Classical.byContradiction fun h5 => by omega) ?_
  refine hold_leftD0 (Classical.byContradiction fun h5 => by omega) ?_
  refine hold_forkD (fun h5 => ?_) (fun h5 => ?_)
  ·
   refine hold_leftD0 (Classical.byContradiction fun h6 => by omega) ?_
   refine hold_leftD0 (Classical.byContradiction fun h6 => by omega) ?_
   refine hold_rightD0 (fun h6 => by omega) ?_
   refine hold_stop (fun hd hb => ?_)
   refine ok_call0 hd works rfl ?_
   rintro x G ⟨rfl, rfl⟩
   refine ⟨rfl, fun g hg => (by cases hg), ?_⟩
   refine ok_sk (.stop []) (S := .stop (Hd.leaf (AV.bool Bool.true)) [] ([])) (by kernel_rfl) ?_
   refine hold_stop (fun hd hb => ?_)
   exact ok_leaf0 hd rfl ⟨rfl, rfl⟩
  refine hold_leftD0 (Classical.byContradiction fun h6 => by exact h6 ⟨by omega, fun i hi => ⟨rfl, rfl⟩⟩) ?_
  refine hold_leftD0 (Classical.byContradiction fun h6 => by omega) ?_
  refine hold_leftD0 (Classical.byContradiction fun h6 => by omega) ?_
  refine hold_rightD0 (fun h6 => by omega) ?_
  refine hold_stop (fun hd hb => ?_)
  refine ok_call0 hd works rfl ?_
  rintro x G ⟨rfl, rfl⟩
  refine ⟨rfl, fun g hg => (by cases hg), ?_⟩
  refine ok_sk (.stop []) (S := .stop (Hd.leaf (AV.bool Bool.true)) [] ([])) (by kernel_rfl) ?_
  refine hold_stop (fun hd hb => ?_)
  exact ok_leaf0 hd rfl ⟨rfl, rfl⟩
end Go.Proofs.Ytekianhbdaiacaa
