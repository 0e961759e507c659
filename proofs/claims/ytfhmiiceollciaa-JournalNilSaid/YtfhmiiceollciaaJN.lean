import Derived.Test.YtfhmiiceollciaaPrl
namespace Go.Proofs.Ytfhmiiceollciaa
open Go Go.RowKit Sv
set_option linter.unusedVariables false
set_option maxRecDepth 100000
set_option maxHeartbeats 0
def rowB (p : Nat × (Nat → Int)) : List AV := [.data 1 p.1 fun j => [.sint .u8 (p.2 j)]]
theorem len_le : maxLen = 9223372036854775807 := by decide
def vastS (n : Nat) (x : Nat → Nat × (Nat → Int)) (acc i : Int) : List AV := [.data 1 n fun i => rowB (x i), .int .i64 4096, .top, .top, .top, .sint .i64 acc, .sint .i64 i, .top, .top, .top, .top, .top, .top, .top, .top, .top, .top, .top, .top, .top, .top, .top, .top, .top, .top]
theorem vast (n : Nat) (x : Nat → Nat × (Nat → Int)) (hn : n ≤ maxLen) (hx : ∀ i, i < n → (x i).1 ≤ maxLen) : Runs Try.prog 19 [.data 1 n fun i => rowB (x i), .int .i64 4096] fun y G => (y = .bool true ∨ y = .bool false) ∧ G = [] := by
  rw [len_le] at hn
  refine runs_treeF plain mixed (fun _ => false) (fun _ => true) 40 ?_
  refine ok_sk (.stop []) (S := .stop (Hd.loop (34 : Nat) [AV.data (1 : Nat) n fun (i : Nat) => [AV.data (1 : Nat) (x i).1 fun (j : Nat) => [AV.sint IntKind.u8 ((x i).snd j)]], AV.int IntKind.i64 (4096 : Int), AV.tuple [], AV.tuple [], AV.bool Bool.false, AV.sint IntKind.i64 (↑n : Int), AV.int IntKind.i64 (0 : Int), AV.data (1 : Nat) n fun (i : Nat) => [AV.data (1 : Nat) (x i).1 fun (j : Nat) => [AV.sint IntKind.u8 ((x i).snd j)]], AV.sint IntKind.i64 (↑n : Int), AV.tuple [], AV.tuple [], AV.tuple [], AV.tuple [], AV.tuple [], AV.tuple [], AV.tuple [], AV.tuple [], AV.tuple [], AV.tuple [], AV.tuple [], AV.tuple [], AV.tuple [], AV.tuple [], AV.tuple [], AV.tuple []]) [] ([])) (by kernel_rfl) ?_
  refine hold_stop (fun hd hb => ?_)
  refine ok_loop hd (X := {p : Int × Int // 0 ≤ p.2 ∧ p.2 ≤ n}) (fun y => vastS n x y.1.1 y.1.2) (fun _ => []) (fun y => ((n : Int) - y.1.2).toNat) [] ⟨((n : Int), 0), by omega, by omega⟩ ⟨by simp [vastS, fitsA, fitA, nf, nfs, rowB], trivial, .nil⟩ ?_
  rintro ⟨⟨acc, i⟩, i0, i1⟩
  refine ok_sk (.both (.l (.both (.l (.stop [])) (.l (.stop [])))) (.both (.stop []) (.stop []))) (S := .fork (decide (i < (↑n : Int))) (.left (decide ((0 : Int) ≤ i ∧ i.toNat < n)) (.fork (decide ((-9223372036854775808 : Int) ≤ acc + (↑(x i.toNat).1 : Int) ∧ acc + (↑(x i.toNat).1 : Int) ≤ (9223372036854775807 : Int))) (.left (decide ((-9223372036854775808 : Int) ≤ i + (1 : Int) ∧ i + (1 : Int) ≤ (9223372036854775807 : Int))) (.stop (Hd.again (again' (fun (y : { p : Int × Int // (0 : Int) ≤ p.snd ∧ p.snd ≤ (↑n : Int) }) => vastS n x y.val.fst y.val.snd) (fun (x : { p : Int × Int // (0 : Int) ≤ p.snd ∧ p.snd ≤ (↑n : Int) }) => []) (fun (y : { p : Int × Int // (0 : Int) ≤ p.snd ∧ p.snd ≤ (↑n : Int) }) => ((↑n : Int) - y.val.snd).toNat) ⟨(acc, i), ⟨i0, i1⟩⟩) [AV.data (1 : Nat) n fun (i : Nat) => [AV.data (1 : Nat) (x i).1 fun (j : Nat) => [AV.sint IntKind.u8 ((x i).snd j)]], AV.int IntKind.i64 (4096 : Int), AV.top, AV.top, AV.top, AV.sint IntKind.i64 (acc + (↑(x i.toNat).1 : Int)), AV.sint IntKind.i64 (i + (1 : Int)), AV.top, AV.top, AV.sint IntKind.i64 i, AV.data (1 : Nat) n fun (i : Nat) => [AV.data (1 : Nat) (x i).1 fun (j : Nat) => [AV.sint IntKind.u8 ((x i).snd j)]], AV.sint IntKind.i64 (↑n : Int), AV.bool Bool.true, AV.sint IntKind.i64 i, AV.sint IntKind.i64 (i + (1 : Int)), AV.sint IntKind.i64 acc, AV.data (1 : Nat) n fun (i : Nat) => [AV.data (1 : Nat) (x i).1 fun (j : Nat) => [AV.sint IntKind.u8 ((x i).snd j)]], AV.sint IntKind.i64 i, AV.dptr [AV.data (1 : Nat) (x i.toNat).1 fun (j : Nat) => [AV.sint IntKind.u8 ((x i.toNat).snd j)]], AV.data (1 : Nat) (x i.toNat).1 fun (j : Nat) => [AV.sint IntKind.u8 ((x i.toNat).snd j)], AV.sint IntKind.i64 (↑(x i.toNat).1 : Int), AV.sint IntKind.i64 (acc + (↑(x i.toNat).1 : Int)), AV.top, AV.top, AV.top]) [] ([]))) (.left (decide ((-9223372036854775808 : Int) ≤ i + (1 : Int) ∧ i + (1 : Int) ≤ (9223372036854775807 : Int))) (.stop (Hd.again (again' (fun (y : { p : Int × Int // (0 : Int) ≤ p.snd ∧ p.snd ≤ (↑n : Int) }) => vastS n x y.val.fst y.val.snd) (fun (x : { p : Int × Int // (0 : Int) ≤ p.snd ∧ p.snd ≤ (↑n : Int) }) => []) (fun (y : { p : Int × Int // (0 : Int) ≤ p.snd ∧ p.snd ≤ (↑n : Int) }) => ((↑n : Int) - y.val.snd).toNat) ⟨(acc, i), ⟨i0, i1⟩⟩) [AV.data (1 : Nat) n fun (i : Nat) => [AV.data (1 : Nat) (x i).1 fun (j : Nat) => [AV.sint IntKind.u8 ((x i).snd j)]], AV.int IntKind.i64 (4096 : Int), AV.top, AV.top, AV.top, AV.sint IntKind.i64 (IntKind.i64.wrap (acc + (↑(x i.toNat).1 : Int))), AV.sint IntKind.i64 (i + (1 : Int)), AV.top, AV.top, AV.sint IntKind.i64 i, AV.data (1 : Nat) n fun (i : Nat) => [AV.data (1 : Nat) (x i).1 fun (j : Nat) => [AV.sint IntKind.u8 ((x i).snd j)]], AV.sint IntKind.i64 (↑n : Int), AV.bool Bool.true, AV.sint IntKind.i64 i, AV.sint IntKind.i64 (i + (1 : Int)), AV.sint IntKind.i64 acc, AV.data (1 : Nat) n fun (i : Nat) => [AV.data (1 : Nat) (x i).1 fun (j : Nat) => [AV.sint IntKind.u8 ((x i).snd j)]], AV.sint IntKind.i64 i, AV.dptr [AV.data (1 : Nat) (x i.toNat).1 fun (j : Nat) => [AV.sint IntKind.u8 ((x i.toNat).snd j)]], AV.data (1 : Nat) (x i.toNat).1 fun (j : Nat) => [AV.sint IntKind.u8 ((x i.toNat).snd j)], AV.sint IntKind.i64 (↑(x i.toNat).1 : Int), AV.sint IntKind.i64 (IntKind.i64.wrap (acc + (↑(x i.toNat).1 : Int))), AV.top, AV.top, AV.top]) [] ([]))))) (.fork (decide ((4096 : Int) < acc)) (.stop (Hd.leaf (AV.bool Bool.true)) [] ([])) (.stop (Hd.leaf (AV.bool Bool.false)) [] ([])))) (by kernel_rfl) ?_
  refine hold_forkD (fun h1 => ?_) (fun h1 => ?_)
  ·
   refine hold_leftD (Decidable.byContradiction fun h2 => by omega) (fun h2 => ?_)
   refine hold_forkD (fun h3 => ?_) (fun h3 => ?_)
   ·
    refine hold_leftD (Decidable.byContradiction fun h4 => by omega) (fun h4 => ?_)
    refine hold_stop (fun hd hb => ?_)
    exact ok_again hd [] ⟨(acc + (x i.toNat).1, i + 1), by omega, by omega⟩ (by show ((n : Int) - (i + 1)).toNat < ((n : Int) - i).toNat; omega) ⟨by simp [vastS, fitsA, fitA, nf, nfs, rowB], trivial, .nil⟩
   refine hold_leftD (Decidable.byContradiction fun h4 => by omega) (fun h4 => ?_)
   refine hold_stop (fun hd hb => ?_)
   exact ok_again hd [] ⟨(IntKind.i64.wrap (acc + (x i.toNat).1), i + 1), by omega, by omega⟩ (by show ((n : Int) - (i + 1)).toNat < ((n : Int) - i).toNat; omega) ⟨by simp [vastS, fitsA, fitA, nf, nfs, rowB], trivial, .nil⟩
  refine hold_forkD (fun h2 => ?_) (fun h2 => ?_)
  ·
   refine hold_stop (fun hd hb => ?_)
   exact ok_leaf0 hd rfl ⟨.inl rfl, rfl⟩
  refine hold_stop (fun hd hb => ?_)
  exact ok_leaf0 hd rfl ⟨.inr rfl, rfl⟩
end Go.Proofs.Ytfhmiiceollciaa
