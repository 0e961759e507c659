import Derived.Test.YtkdmlpmjfnjnmaaZ1
set_option linter.unusedSimpArgs false
namespace Go.Proofs.Ytkdmlpmjfnjnmaa
open Go Go.RowKit Sv
set_option linter.unusedVariables false
set_option maxRecDepth 100000
set_option maxHeartbeats 0
theorem vmay (a b c d e f : Int) : Runs Try.prog 29 [.agg [.sint .u64 a, .sint .u64 b, .sint .u64 c, .sint .u64 d, .sint .u64 e, .sint .u64 f]] fun x G => G = [] ∧ ((x = .bool true ∧ a ≤ 1099511627776 ∧ b ≤ 1099511627776 ∧ c ≤ 1099511627776 ∧ d ≤ 1099511627776 ∧ e ≤ 1099511627776 ∧ f ≤ 1099511627776) ∨ (x = .bool false ∧ ¬ (a ≤ 1099511627776 ∧ b ≤ 1099511627776 ∧ c ≤ 1099511627776 ∧ d ≤ 1099511627776 ∧ e ≤ 1099511627776 ∧ f ≤ 1099511627776))) := by
  refine runs_treeF plain mixed (fun _ => false) (fun _ => false) 60 ?_
  refine ok_sk (.both (.stop []) (.both (.stop []) (.both (.stop []) (.both (.stop []) (.both (.stop []) (.both (.stop []) (.stop []))))))) (S := .fork (decide (1099511627776 < a)) (.stop (.leaf (.bool false)) [] ([])) (.fork (decide (1099511627776 < b)) (.stop (.leaf (.bool false)) [] ([])) (.fork (decide (1099511627776 < c)) (.stop (.leaf (.bool false)) [] ([])) (.fork (decide (1099511627776 < d)) (.stop (.leaf (.bool false)) [] ([])) (.fork (decide (1099511627776 < e)) (.stop (.leaf (.bool false)) [] ([])) (.fork (decide (1099511627776 < f)) (.stop (.leaf (.bool false)) [] ([])) (.stop (.leaf (.bool true)) [] ([])))))))) (by kernel_rfl) ?_
  refine hold_forkD (fun h0 => ?_) (fun h0 => ?_)
  ·
   exact hold_stop fun hd hb => ok_leaf0 hd rfl ⟨rfl, .inr ⟨rfl, by omega⟩⟩
  refine hold_forkD (fun h1 => ?_) (fun h1 => ?_)
  ·
   exact hold_stop fun hd hb => ok_leaf0 hd rfl ⟨rfl, .inr ⟨rfl, by omega⟩⟩
  refine hold_forkD (fun h2 => ?_) (fun h2 => ?_)
  ·
   exact hold_stop fun hd hb => ok_leaf0 hd rfl ⟨rfl, .inr ⟨rfl, by omega⟩⟩
  refine hold_forkD (fun h3 => ?_) (fun h3 => ?_)
  ·
   exact hold_stop fun hd hb => ok_leaf0 hd rfl ⟨rfl, .inr ⟨rfl, by omega⟩⟩
  refine hold_forkD (fun h4 => ?_) (fun h4 => ?_)
  ·
   exact hold_stop fun hd hb => ok_leaf0 hd rfl ⟨rfl, .inr ⟨rfl, by omega⟩⟩
  refine hold_forkD (fun h5 => ?_) (fun h5 => ?_)
  ·
   exact hold_stop fun hd hb => ok_leaf0 hd rfl ⟨rfl, .inr ⟨rfl, by omega⟩⟩
  exact hold_stop fun hd hb => ok_leaf0 hd rfl ⟨rfl, .inl ⟨rfl, by omega⟩⟩
def evs (n : Nat) (E : Nat → EvI) : AV := .data 14 n fun i => (E i).row
def malS (n : Nat) (E : Nat → EvI) (q : Nat) : List AV := [evs n E, .top, .bool false, .top, .top, evs n E, .sint .i64 (n : Int), .sint .i64 q, .top, .top, .top, .top, .top, .top, .top]
theorem malMay {q : Nat} {E : Nat → EvI} (h : ∀ j, j < q → (E j).may) (k : (E q).may) : ∀ j, j < q + 1 → (E j).may := fun j hj => by
  by_cases e : j < q
  · exact h j e
  · obtain rfl : j = q := by omega
    exact k
theorem emayAll (n : Nat) (E : Nat → EvI) (hn : n ≤ 1099511627776) : Runs Try.prog 30 [evs n E] fun x G => G = [] ∧ ((x = .bool true ∧ ∀ j, j < n → (E j).may) ∨ (x = .bool false ∧ ¬ ∀ j, j < n → (E j).may)) := by
  refine runs_treeF plain mixed (fun g => Nat.beq g 35) (fun _ => true) 60 ?_
  refine ok_sk (.stop []) (S := .stop (.loop 55 [.data 14 n fun i => (E i).row, .tuple [], .bool false, .tuple [], .tuple [], .data 14 n fun i => (E i).row, .sint .i64 (↑n : Int), .int .i64 (0 : Int), .tuple [], .tuple [], .tuple [], .tuple [], .tuple [], .tuple [], .tuple []]) [] ([])) (by kernel_rfl) ?_
  refine hold_stop (fun hd hb => ?_)
  refine ok_loop hd (X := {q : Nat // q ≤ n ∧ ∀ j, j < q → (E j).may}) (fun q => malS n E q.1) (fun _ => []) (fun q => n - q.1) [] ⟨0, by omega, fun j hj => absurd hj (Nat.not_lt_zero j)⟩ ⟨by simp [malS, evs, fitsA, fitA, nf], trivial, .nil⟩ ?_
  rintro ⟨q, q1, qm⟩
  refine ok_sk (.both (.l (.stop [])) (.stop [])) (S := .fork (decide ((↑q : Int) < (↑n : Int))) (.left (decide (0 ≤ (↑q : Int) ∧ (↑q : Int).toNat < n)) (.stop (.call 35 [.agg (E (↑q : Int).toNat).row]) [] ([]))) (.stop (.leaf (.bool true)) [] ([]))) (by kernel_rfl) ?_
  refine hold_forkD (fun h1 => ?_) (fun h1 => ?_)
  ·
   refine hl (bc fun h2 => by omega) ?_
   refine hold_stop (fun hd hb => ?_)
   refine ok_call0 hd (emay (E (q : Int).toNat)) rfl ?_
   rintro x G (⟨rfl, rfl, my⟩ | ⟨rfl, rfl, my⟩) <;> refine ⟨rfl, fun g hg => (by cases hg), ?_⟩
   ·
    refine ok_sk (.l (.stop [0])) (S := .left (decide ((-9223372036854775808 : Int) ≤ (↑q : Int) + 1 ∧ (↑q : Int) + 1 ≤ 9223372036854775807)) (.stop (.again (again' (fun (q : { q : Nat // q ≤ n ∧ ∀ (j : Nat), j < q → (E j).may }) => malS n E q.val) (fun (x : { q : Nat // q ≤ n ∧ ∀ (j : Nat), j < q → (E j).may }) => []) (fun (q : { q : Nat // q ≤ n ∧ ∀ (j : Nat), j < q → (E j).may }) => n - q.val) ⟨q, ⟨q1, qm⟩⟩) [.data 14 n fun i => (E i).row, .top, .bool false, .top, .ptr 0 0, .data 14 n fun i => (E i).row, .sint .i64 (↑n : Int), .sint .i64 ((↑q : Int) + 1), .bool true, .dptr (E (↑q : Int).toNat).row, .agg (E (↑q : Int).toNat).row, .agg (E (↑q : Int).toNat).row, .bool true, .bool false, .sint .i64 ((↑q : Int) + 1)]) [0] ([(some (.cells 0 none (E (↑q : Int).toNat).row), none)]))) (by kernel_rfl) ?_
    refine hl (bc fun h3 => by omega) ?_
    refine hold_stop (fun hd hb => ?_)
    refine ok_again hd [] ⟨q + 1, by omega, malMay qm my⟩ ?_ ⟨?_, trivial, .nil⟩
    · show n - (q + 1) < n - q
      omega
    · simp [malS, evs, fitsA, fitA, nf] <;> omega
   refine ok_sk (.stop []) (S := .stop (.leaf (.bool false)) [] ([])) (by kernel_rfl) ?_
   exact hold_stop fun hd hb => ok_leaf0 hd rfl ⟨rfl, .inr ⟨rfl, fun h => my (h _ (by omega))⟩⟩
  exact hold_stop fun hd hb => ok_leaf0 hd rfl ⟨rfl, .inl ⟨rfl, fun j hj => qm j (by omega)⟩⟩
/-- a message, its events aside. -/
structure MsI where
  k : Int
  f : Int
  t : Int
  v0 : Int
  v1 : Int
  v2 : Int
  v3 : Int
  v4 : Int
  v5 : Int
  n : Int
  a : Int
def MsI.row (m : MsI) (l : AV) : List AV := [.sint .u8 m.k, .sint .i64 m.f, .sint .i64 m.t, .sint .u64 m.v0, .sint .u64 m.v1, .sint .u64 m.v2, .sint .u64 m.v3, .sint .u64 m.v4, .sint .u64 m.v5, l, .sint .u64 m.n, .sint .i64 m.a]
def MsI.may (m : MsI) (q : Nat) (E : Nat → EvI) : Prop :=
  (1 ≤ m.f ∧ m.f ≤ 6 ∧ 1 ≤ m.t ∧ m.t ≤ 6 ∧ m.f ≠ m.t) ∧
  (m.v0 ≤ 1099511627776 ∧ m.v1 ≤ 1099511627776 ∧ m.v2 ≤ 1099511627776 ∧ m.v3 ≤ 1099511627776 ∧ m.v4 ≤ 1099511627776 ∧ m.v5 ≤ 1099511627776) ∧
  ((m.k = 1 ∧ m.n = 0 ∧ m.a = 0 ∧ q ≤ 16 ∧ ∀ j, j < q → (E j).may) ∨ (m.k = 2 ∧ m.n ≠ 0 ∧ 1 ≤ m.a ∧ m.a ≤ 1125899906842624 ∧ q = 0))
theorem mmay (m : MsI) (q : Nat) (E : Nat → EvI) (hq : q ≤ 1099511627776) : Runs Try.prog 21 [.agg (m.row (evs q E))] fun x G => G = [] ∧ ((x = .bool true ∧ m.may q E) ∨ (x = .bool false ∧ ¬ m.may q E)) := by
  refine runs_treeF plain mixed (fun g => Nat.beq g 29 || Nat.beq g 30) (fun _ => false) 60 ?_
  refine ok_sk (.both (.both (.both (.both (.both (.stop []) (.stop [])) (.stop [])) (.stop [])) (.stop [])) (.stop [])) (S := .fork (decide (1 ≤ m.f)) (.fork (decide (m.f ≤ 6)) (.fork (decide (1 ≤ m.t)) (.fork (decide (m.t ≤ 6)) (.fork (decide (m.f = m.t)) (.stop (.leaf (.bool false)) [] ([])) (.stop (.call 29 [.agg [.sint .u64 m.v0, .sint .u64 m.v1, .sint .u64 m.v2, .sint .u64 m.v3, .sint .u64 m.v4, .sint .u64 m.v5]]) [] ([]))) (.stop (.leaf (.bool false)) [] ([]))) (.stop (.leaf (.bool false)) [] ([]))) (.stop (.leaf (.bool false)) [] ([]))) (.stop (.leaf (.bool false)) [] ([]))) (by kernel_rfl) ?_
  refine hold_forkD (fun h0 => ?_) (fun h0 => ?_)
  ·
   refine hold_forkD (fun h1 => ?_) (fun h1 => ?_)
   ·
    refine hold_forkD (fun h2 => ?_) (fun h2 => ?_)
    ·
     refine hold_forkD (fun h3 => ?_) (fun h3 => ?_)
     ·
      refine hold_forkD (fun h4 => ?_) (fun h4 => ?_)
      ·
       exact hold_stop fun hd hb => ok_leaf0 hd rfl ⟨rfl, .inr ⟨rfl, by unfold MsI.may; omega⟩⟩
      refine hold_stop (fun hd hb => ?_)
      refine ok_call0 hd (vmay m.v0 m.v1 m.v2 m.v3 m.v4 m.v5) rfl ?_
      rintro x G ⟨rfl, ⟨rfl, mv⟩ | ⟨rfl, mv⟩⟩ <;> refine ⟨rfl, fun g hg => (by cases hg), ?_⟩
      ·
       refine ok_sk (.both (.both (.both (.both (.stop []) (.stop [])) (.stop [])) (.stop [])) (.both (.both (.stop []) (.both (.both (.both (.stop []) (.stop [])) (.stop [])) (.stop []))) (.stop []))) (S := .fork (decide (m.k = 1)) (.fork (decide (m.n = 0)) (.fork (decide (m.a = 0)) (.fork (decide ((↑q : Int) ≤ 16)) (.stop (.call 30 [.data 14 q fun i => (E i).row]) [] ([])) (.stop (.leaf (.bool false)) [] ([]))) (.stop (.leaf (.bool false)) [] ([]))) (.stop (.leaf (.bool false)) [] ([]))) (.fork (decide (m.k = 2)) (.fork (decide (m.n = 0)) (.stop (.leaf (.bool false)) [] ([])) (.fork (decide (1 ≤ m.a)) (.fork (decide (m.a ≤ 1125899906842624)) (.fork (decide ((↑q : Int) = 0)) (.stop (.leaf (.bool true)) [] ([])) (.stop (.leaf (.bool false)) [] ([]))) (.stop (.leaf (.bool false)) [] ([]))) (.stop (.leaf (.bool false)) [] ([])))) (.stop (.leaf (.bool false)) [] ([])))) (by kernel_rfl) ?_
       refine hold_forkD (fun h6 => ?_) (fun h6 => ?_)
       ·
        refine hold_forkD (fun h7 => ?_) (fun h7 => ?_)
        ·
         refine hold_forkD (fun h8 => ?_) (fun h8 => ?_)
         ·
          refine hold_forkD (fun h9 => ?_) (fun h9 => ?_)
          ·
           refine hold_stop (fun hd hb => ?_)
           refine ok_call0 hd (emayAll q E hq) rfl ?_
           rintro x G ⟨rfl, ⟨rfl, ma⟩ | ⟨rfl, ma⟩⟩ <;> refine ⟨rfl, fun g hg => (by cases hg), ?_⟩
           ·
            refine ok_sk (.stop []) (S := .stop (.leaf (.bool true)) [] ([])) (by kernel_rfl) ?_
            exact hold_stop fun hd hb => ok_leaf0 hd rfl ⟨rfl, .inl ⟨rfl, ⟨by omega, by omega, .inl ⟨by omega, by omega, by omega, by omega, ma⟩⟩⟩⟩
           refine ok_sk (.stop []) (S := .stop (.leaf (.bool false)) [] ([])) (by kernel_rfl) ?_
           exact hold_stop fun hd hb => ok_leaf0 hd rfl ⟨rfl, .inr ⟨rfl, fun h => by rcases h.2.2 with k | k <;> first | omega | exact ma k.2.2.2.2⟩⟩
          exact hold_stop fun hd hb => ok_leaf0 hd rfl ⟨rfl, .inr ⟨rfl, by unfold MsI.may; omega⟩⟩
         exact hold_stop fun hd hb => ok_leaf0 hd rfl ⟨rfl, .inr ⟨rfl, by unfold MsI.may; omega⟩⟩
        exact hold_stop fun hd hb => ok_leaf0 hd rfl ⟨rfl, .inr ⟨rfl, by unfold MsI.may; omega⟩⟩
       refine hold_forkD (fun h7 => ?_) (fun h7 => ?_)
       ·
        refine hold_forkD (fun h8 => ?_) (fun h8 => ?_)
        ·
         exact hold_stop fun hd hb => ok_leaf0 hd rfl ⟨rfl, .inr ⟨rfl, by unfold MsI.may; omega⟩⟩
        refine hold_forkD (fun h9 => ?_) (fun h9 => ?_)
        ·
         refine hold_forkD (fun h10 => ?_) (fun h10 => ?_)
         ·
          refine hold_forkD (fun h11 => ?_) (fun h11 => ?_)
          ·
           exact hold_stop fun hd hb => ok_leaf0 hd rfl ⟨rfl, .inl ⟨rfl, by unfold MsI.may; omega⟩⟩
          exact hold_stop fun hd hb => ok_leaf0 hd rfl ⟨rfl, .inr ⟨rfl, by unfold MsI.may; omega⟩⟩
         exact hold_stop fun hd hb => ok_leaf0 hd rfl ⟨rfl, .inr ⟨rfl, by unfold MsI.may; omega⟩⟩
        exact hold_stop fun hd hb => ok_leaf0 hd rfl ⟨rfl, .inr ⟨rfl, by unfold MsI.may; omega⟩⟩
       exact hold_stop fun hd hb => ok_leaf0 hd rfl ⟨rfl, .inr ⟨rfl, by unfold MsI.may; omega⟩⟩
      refine ok_sk (.stop []) (S := .stop (.leaf (.bool false)) [] ([])) (by kernel_rfl) ?_
      exact hold_stop fun hd hb => ok_leaf0 hd rfl ⟨rfl, .inr ⟨rfl, by unfold MsI.may; omega⟩⟩
     exact hold_stop fun hd hb => ok_leaf0 hd rfl ⟨rfl, .inr ⟨rfl, by unfold MsI.may; omega⟩⟩
    exact hold_stop fun hd hb => ok_leaf0 hd rfl ⟨rfl, .inr ⟨rfl, by unfold MsI.may; omega⟩⟩
   exact hold_stop fun hd hb => ok_leaf0 hd rfl ⟨rfl, .inr ⟨rfl, by unfold MsI.may; omega⟩⟩
  exact hold_stop fun hd hb => ok_leaf0 hd rfl ⟨rfl, .inr ⟨rfl, by unfold MsI.may; omega⟩⟩
end Go.Proofs.Ytkdmlpmjfnjnmaa
