import Derived.Test.YtkdmlpmjfnjnmaaPrl
import Derived.Test.YtkdmlpmjfnjnmaaTrc
set_option linter.unusedSimpArgs false
namespace Go.Proofs.Ytkdmlpmjfnjnmaa
open Go Go.RowKit Sv
set_option linter.unusedVariables false
set_option maxRecDepth 100000
set_option maxHeartbeats 0
/-- an event, its fields as numbers. -/
structure EvI where
  o : Int
  s : Int
  d0 : Int
  d1 : Int
  d2 : Int
  d3 : Int
  d4 : Int
  d5 : Int
  k : Int
  n : Int
  t : Int
  a : Int
  r : Int
  f : Int
def EvI.row (e : EvI) : List AV := [.sint .i64 e.o, .sint .u64 e.s, .sint .u64 e.d0, .sint .u64 e.d1, .sint .u64 e.d2, .sint .u64 e.d3, .sint .u64 e.d4, .sint .u64 e.d5, .sint .u8 e.k, .sint .u64 e.n, .sint .i64 e.t, .sint .i64 e.a, .sint .u64 e.r, .sint .u64 e.f]
/-- which fields an event of a kind has. -/
def EvI.mf (e : EvI) : Prop :=
  (1 ≤ e.k ∧ e.k ≤ 7) ∧
  (e.k = 1 → e.t = 0 ∧ e.r = 0 ∧ e.f = 0 ∧ 0 ≤ e.a ∧ e.a ≤ 1125899906842624) ∧
  (e.k = 2 → e.t = 0 ∧ e.r = 0 ∧ e.f = 0 ∧ 1 ≤ e.a ∧ e.a ≤ 1125899906842624) ∧
  (e.k = 3 → e.t = 0 ∧ e.f = 0 ∧ e.r ≠ 0 ∧ 1 ≤ e.a ∧ e.a ≤ 1125899906842624) ∧
  (e.k = 4 → e.n = 0 ∧ e.t = 0 ∧ e.a = 0 ∧ e.r ≠ 0 ∧ e.f ≠ 0 ∧ e.r ≠ e.f) ∧
  (e.k = 5 → e.r = 0 ∧ e.f = 0 ∧ 1 ≤ e.a ∧ e.a ≤ 1125899906842624 ∧ 1 ≤ e.t ∧ e.t ≤ 6 ∧ e.t ≠ e.o) ∧
  (e.k = 6 → e.n = 0 ∧ e.a = 0 ∧ e.r = 0 ∧ e.f = 0 ∧ 1 ≤ e.t ∧ e.t ≤ 6 ∧ e.t ≠ e.o) ∧
  (e.k = 7 → e.n = 0 ∧ e.t = 0 ∧ e.a = 0 ∧ e.r = 0 ∧ e.f = 0)
/-- where it stands. -/
def EvI.at_ (e : EvI) : Prop := (1 ≤ e.o ∧ e.o ≤ 6 ∧ 1 ≤ e.s ∧ e.s < 1099511627776) ∧
  (e.d0 < 1099511627776 ∧ e.d1 < 1099511627776 ∧ e.d2 < 1099511627776 ∧ e.d3 < 1099511627776 ∧ e.d4 < 1099511627776 ∧ e.d5 < 1099511627776) ∧
  ((e.o = 1 → e.d0 = e.s - 1) ∧ (e.o = 2 → e.d1 = e.s - 1) ∧ (e.o = 3 → e.d2 = e.s - 1) ∧ (e.o = 4 → e.d3 = e.s - 1) ∧ (e.o = 5 → e.d4 = e.s - 1) ∧ (e.o = 6 → e.d5 = e.s - 1))
def EvI.may (e : EvI) : Prop := e.at_ ∧ e.mf
theorem emf (e : EvI) : Runs Try.prog 40 [.agg e.row] fun x G => (x = .bool true ∧ G = [] ∧ e.mf) ∨ (x = .bool false ∧ G = [] ∧ ¬ e.mf) := by
  refine runs_treeF plain mixed (fun _ => false) (fun _ => false) 40 ?_
  refine ok_sk (.both (.l (.both (.both (.both (.stop []) (.stop [])) (.stop [])) (.stop []))) (.both (.l (.both (.both (.both (.stop []) (.stop [])) (.stop [])) (.stop []))) (.both (.l (.l (.l (.both (.both (.both (.both (.stop []) (.stop [])) (.stop [])) (.stop [])) (.stop []))))) (.both (.l (.both (.both (.stop []) (.both (.stop []) (.both (.stop []) (.stop [])))) (.stop []))) (.both (.l (.l (.l (.both (.both (.both (.both (.both (.both (.stop []) (.stop [])) (.stop [])) (.stop [])) (.stop [])) (.stop [])) (.stop []))))) (.both (.both (.both (.both (.both (.stop []) (.stop [])) (.stop [])) (.stop [])) (.stop [])) (.both (.both (.stop []) (.stop [])) (.stop [])))))))) (S := .fork (decide (e.k = 1)) (.left (decide (e.a = e.a)) (.fork (@decide (e.o = e.o ∧ e.s = e.s ∧ e.d0 = e.d0 ∧ e.d1 = e.d1 ∧ e.d2 = e.d2 ∧ e.d3 = e.d3 ∧ e.d4 = e.d4 ∧ e.d5 = e.d5 ∧ e.k = e.k ∧ e.n = e.n ∧ e.t = 0 ∧ e.a = e.a ∧ e.r = 0 ∧ e.f = 0) pd) (.fork (decide (0 ≤ e.a)) (.fork (decide (e.a ≤ 1125899906842624)) (.stop (.leaf (.bool true)) [] ([])) (.stop (.leaf (.bool false)) [] ([]))) (.stop (.leaf (.bool false)) [] ([]))) (.stop (.leaf (.bool false)) [] ([])))) (.fork (decide (e.k = 2)) (.left (decide (e.a = e.a)) (.fork (@decide (e.o = e.o ∧ e.s = e.s ∧ e.d0 = e.d0 ∧ e.d1 = e.d1 ∧ e.d2 = e.d2 ∧ e.d3 = e.d3 ∧ e.d4 = e.d4 ∧ e.d5 = e.d5 ∧ e.k = e.k ∧ e.n = e.n ∧ e.t = 0 ∧ e.a = e.a ∧ e.r = 0 ∧ e.f = 0) pd) (.fork (decide (1 ≤ e.a)) (.fork (decide (e.a ≤ 1125899906842624)) (.stop (.leaf (.bool true)) [] ([])) (.stop (.leaf (.bool false)) [] ([]))) (.stop (.leaf (.bool false)) [] ([]))) (.stop (.leaf (.bool false)) [] ([])))) (.fork (decide (e.k = 3)) (.left (decide (e.r = e.r)) (.left (decide (e.a = e.a)) (.left (decide (e.r = e.r)) (.fork (@decide (e.o = e.o ∧ e.s = e.s ∧ e.d0 = e.d0 ∧ e.d1 = e.d1 ∧ e.d2 = e.d2 ∧ e.d3 = e.d3 ∧ e.d4 = e.d4 ∧ e.d5 = e.d5 ∧ e.k = e.k ∧ e.n = e.n ∧ e.t = 0 ∧ e.a = e.a ∧ e.r = e.r ∧ e.f = 0) pd) (.fork (decide (1 ≤ e.a)) (.fork (decide (e.a ≤ 1125899906842624)) (.fork (decide (e.r = 0)) (.stop (.leaf (.bool false)) [] ([])) (.stop (.leaf (.bool true)) [] ([]))) (.stop (.leaf (.bool false)) [] ([]))) (.stop (.leaf (.bool false)) [] ([]))) (.stop (.leaf (.bool false)) [] ([])))))) (.fork (decide (e.k = 4)) (.left (decide (e.f = e.f)) (.fork (@decide (e.o = e.o ∧ e.s = e.s ∧ e.d0 = e.d0 ∧ e.d1 = e.d1 ∧ e.d2 = e.d2 ∧ e.d3 = e.d3 ∧ e.d4 = e.d4 ∧ e.d5 = e.d5 ∧ e.k = e.k ∧ e.n = 0 ∧ e.t = 0 ∧ e.a = 0 ∧ e.r = e.r ∧ e.f = e.f) pd) (.fork (decide (e.r = 0)) (.stop (.leaf (.bool false)) [] ([])) (.fork (decide (e.f = 0)) (.stop (.leaf (.bool false)) [] ([])) (.fork (decide (e.r = e.f)) (.stop (.leaf (.bool false)) [] ([])) (.stop (.leaf (.bool true)) [] ([]))))) (.stop (.leaf (.bool false)) [] ([])))) (.fork (decide (e.k = 5)) (.left (decide (e.t = e.t)) (.left (decide (e.a = e.a)) (.left (decide (e.t = e.t)) (.fork (@decide (e.o = e.o ∧ e.s = e.s ∧ e.d0 = e.d0 ∧ e.d1 = e.d1 ∧ e.d2 = e.d2 ∧ e.d3 = e.d3 ∧ e.d4 = e.d4 ∧ e.d5 = e.d5 ∧ e.k = e.k ∧ e.n = e.n ∧ e.t = e.t ∧ e.a = e.a ∧ e.r = 0 ∧ e.f = 0) pd) (.fork (decide (1 ≤ e.a)) (.fork (decide (e.a ≤ 1125899906842624)) (.fork (decide (1 ≤ e.t)) (.fork (decide (e.t ≤ 6)) (.fork (decide (e.t = e.o)) (.stop (.leaf (.bool false)) [] ([])) (.stop (.leaf (.bool true)) [] ([]))) (.stop (.leaf (.bool false)) [] ([]))) (.stop (.leaf (.bool false)) [] ([]))) (.stop (.leaf (.bool false)) [] ([]))) (.stop (.leaf (.bool false)) [] ([]))) (.stop (.leaf (.bool false)) [] ([])))))) (.fork (decide (e.k = 6)) (.fork (@decide (e.o = e.o ∧ e.s = e.s ∧ e.d0 = e.d0 ∧ e.d1 = e.d1 ∧ e.d2 = e.d2 ∧ e.d3 = e.d3 ∧ e.d4 = e.d4 ∧ e.d5 = e.d5 ∧ e.k = e.k ∧ e.n = 0 ∧ e.t = e.t ∧ e.a = 0 ∧ e.r = 0 ∧ e.f = 0) pd) (.fork (decide (1 ≤ e.t)) (.fork (decide (e.t ≤ 6)) (.fork (decide (e.t = e.o)) (.stop (.leaf (.bool false)) [] ([])) (.stop (.leaf (.bool true)) [] ([]))) (.stop (.leaf (.bool false)) [] ([]))) (.stop (.leaf (.bool false)) [] ([]))) (.stop (.leaf (.bool false)) [] ([]))) (.fork (decide (e.k = 7)) (.fork (@decide (e.o = e.o ∧ e.s = e.s ∧ e.d0 = e.d0 ∧ e.d1 = e.d1 ∧ e.d2 = e.d2 ∧ e.d3 = e.d3 ∧ e.d4 = e.d4 ∧ e.d5 = e.d5 ∧ e.k = e.k ∧ e.n = 0 ∧ e.t = 0 ∧ e.a = 0 ∧ e.r = 0 ∧ e.f = 0) pd) (.stop (.leaf (.bool true)) [] ([])) (.stop (.leaf (.bool false)) [] ([]))) (.stop (.leaf (.bool false)) [] ([]))))))))) (by kernel_rfl) ?_
  refine hold_forkD (fun h0 => ?_) (fun h0 => ?_)
  ·
   refine hl (bc fun h1 => by omega) ?_
   refine hold_forkD (fun h1 => ?_) (fun h1 => ?_)
   ·
    refine hold_forkD (fun h2 => ?_) (fun h2 => ?_)
    ·
     refine hold_forkD (fun h3 => ?_) (fun h3 => ?_)
     ·
      exact hold_stop fun hd hb => ok_leaf0 hd rfl (.inl ⟨rfl, rfl, by unfold EvI.mf; omega⟩)
     exact hold_stop fun hd hb => ok_leaf0 hd rfl (.inr ⟨rfl, rfl, by unfold EvI.mf; omega⟩)
    exact hold_stop fun hd hb => ok_leaf0 hd rfl (.inr ⟨rfl, rfl, by unfold EvI.mf; omega⟩)
   exact hold_stop fun hd hb => ok_leaf0 hd rfl (.inr ⟨rfl, rfl, by unfold EvI.mf; omega⟩)
  refine hold_forkD (fun h1 => ?_) (fun h1 => ?_)
  ·
   refine hl (bc fun h2 => by omega) ?_
   refine hold_forkD (fun h2 => ?_) (fun h2 => ?_)
   ·
    refine hold_forkD (fun h3 => ?_) (fun h3 => ?_)
    ·
     refine hold_forkD (fun h4 => ?_) (fun h4 => ?_)
     ·
      exact hold_stop fun hd hb => ok_leaf0 hd rfl (.inl ⟨rfl, rfl, by unfold EvI.mf; omega⟩)
     exact hold_stop fun hd hb => ok_leaf0 hd rfl (.inr ⟨rfl, rfl, by unfold EvI.mf; omega⟩)
    exact hold_stop fun hd hb => ok_leaf0 hd rfl (.inr ⟨rfl, rfl, by unfold EvI.mf; omega⟩)
   exact hold_stop fun hd hb => ok_leaf0 hd rfl (.inr ⟨rfl, rfl, by unfold EvI.mf; omega⟩)
  refine hold_forkD (fun h2 => ?_) (fun h2 => ?_)
  ·
   iterate 3 refine hl (bc fun h3 => by omega) ?_
   refine hold_forkD (fun h3 => ?_) (fun h3 => ?_)
   ·
    refine hold_forkD (fun h4 => ?_) (fun h4 => ?_)
    ·
     refine hold_forkD (fun h5 => ?_) (fun h5 => ?_)
     ·
      refine hold_forkD (fun h6 => ?_) (fun h6 => ?_)
      ·
       exact hold_stop fun hd hb => ok_leaf0 hd rfl (.inr ⟨rfl, rfl, by unfold EvI.mf; omega⟩)
      exact hold_stop fun hd hb => ok_leaf0 hd rfl (.inl ⟨rfl, rfl, by unfold EvI.mf; omega⟩)
     exact hold_stop fun hd hb => ok_leaf0 hd rfl (.inr ⟨rfl, rfl, by unfold EvI.mf; omega⟩)
    exact hold_stop fun hd hb => ok_leaf0 hd rfl (.inr ⟨rfl, rfl, by unfold EvI.mf; omega⟩)
   exact hold_stop fun hd hb => ok_leaf0 hd rfl (.inr ⟨rfl, rfl, by unfold EvI.mf; omega⟩)
  refine hold_forkD (fun h3 => ?_) (fun h3 => ?_)
  ·
   refine hl (bc fun h4 => by omega) ?_
   refine hold_forkD (fun h4 => ?_) (fun h4 => ?_)
   ·
    refine hold_forkD (fun h5 => ?_) (fun h5 => ?_)
    ·
     exact hold_stop fun hd hb => ok_leaf0 hd rfl (.inr ⟨rfl, rfl, by unfold EvI.mf; omega⟩)
    refine hold_forkD (fun h6 => ?_) (fun h6 => ?_)
    ·
     exact hold_stop fun hd hb => ok_leaf0 hd rfl (.inr ⟨rfl, rfl, by unfold EvI.mf; omega⟩)
    refine hold_forkD (fun h7 => ?_) (fun h7 => ?_)
    ·
     exact hold_stop fun hd hb => ok_leaf0 hd rfl (.inr ⟨rfl, rfl, by unfold EvI.mf; omega⟩)
    exact hold_stop fun hd hb => ok_leaf0 hd rfl (.inl ⟨rfl, rfl, by unfold EvI.mf; omega⟩)
   exact hold_stop fun hd hb => ok_leaf0 hd rfl (.inr ⟨rfl, rfl, by unfold EvI.mf; omega⟩)
  refine hold_forkD (fun h4 => ?_) (fun h4 => ?_)
  ·
   iterate 3 refine hl (bc fun h5 => by omega) ?_
   refine hold_forkD (fun h5 => ?_) (fun h5 => ?_)
   ·
    refine hold_forkD (fun h6 => ?_) (fun h6 => ?_)
    ·
     refine hold_forkD (fun h7 => ?_) (fun h7 => ?_)
     ·
      refine hold_forkD (fun h8 => ?_) (fun h8 => ?_)
      ·
       refine hold_forkD (fun h9 => ?_) (fun h9 => ?_)
       ·
        refine hold_forkD (fun h10 => ?_) (fun h10 => ?_)
        ·
         exact hold_stop fun hd hb => ok_leaf0 hd rfl (.inr ⟨rfl, rfl, by unfold EvI.mf; omega⟩)
        exact hold_stop fun hd hb => ok_leaf0 hd rfl (.inl ⟨rfl, rfl, by unfold EvI.mf; omega⟩)
       exact hold_stop fun hd hb => ok_leaf0 hd rfl (.inr ⟨rfl, rfl, by unfold EvI.mf; omega⟩)
      exact hold_stop fun hd hb => ok_leaf0 hd rfl (.inr ⟨rfl, rfl, by unfold EvI.mf; omega⟩)
     exact hold_stop fun hd hb => ok_leaf0 hd rfl (.inr ⟨rfl, rfl, by unfold EvI.mf; omega⟩)
    exact hold_stop fun hd hb => ok_leaf0 hd rfl (.inr ⟨rfl, rfl, by unfold EvI.mf; omega⟩)
   exact hold_stop fun hd hb => ok_leaf0 hd rfl (.inr ⟨rfl, rfl, by unfold EvI.mf; omega⟩)
  refine hold_forkD (fun h5 => ?_) (fun h5 => ?_)
  ·
   refine hold_forkD (fun h6 => ?_) (fun h6 => ?_)
   ·
    refine hold_forkD (fun h7 => ?_) (fun h7 => ?_)
    ·
     refine hold_forkD (fun h8 => ?_) (fun h8 => ?_)
     ·
      refine hold_forkD (fun h9 => ?_) (fun h9 => ?_)
      ·
       exact hold_stop fun hd hb => ok_leaf0 hd rfl (.inr ⟨rfl, rfl, by unfold EvI.mf; omega⟩)
      exact hold_stop fun hd hb => ok_leaf0 hd rfl (.inl ⟨rfl, rfl, by unfold EvI.mf; omega⟩)
     exact hold_stop fun hd hb => ok_leaf0 hd rfl (.inr ⟨rfl, rfl, by unfold EvI.mf; omega⟩)
    exact hold_stop fun hd hb => ok_leaf0 hd rfl (.inr ⟨rfl, rfl, by unfold EvI.mf; omega⟩)
   exact hold_stop fun hd hb => ok_leaf0 hd rfl (.inr ⟨rfl, rfl, by unfold EvI.mf; omega⟩)
  refine hold_forkD (fun h6 => ?_) (fun h6 => ?_)
  ·
   refine hold_forkD (fun h7 => ?_) (fun h7 => ?_)
   ·
    exact hold_stop fun hd hb => ok_leaf0 hd rfl (.inl ⟨rfl, rfl, by unfold EvI.mf; omega⟩)
   exact hold_stop fun hd hb => ok_leaf0 hd rfl (.inr ⟨rfl, rfl, by unfold EvI.mf; omega⟩)
  exact hold_stop fun hd hb => ok_leaf0 hd rfl (.inr ⟨rfl, rfl, by unfold EvI.mf; omega⟩)
theorem emay (e : EvI) : Runs Try.prog 35 [.agg e.row] fun x G => (x = .bool true ∧ G = [] ∧ e.may) ∨ (x = .bool false ∧ G = [] ∧ ¬ e.may) := by
  refine runs_treeF plain mixed (fun g => Nat.beq g 40) (fun _ => false) 40 ?_
  refine ok_sk (.both (.both (.both (.stop []) (.both (.stop []) (.l (.both (.l (.both (.both (.stop []) (.both (.stop []) (.both (.stop []) (.both (.stop []) (.both (.stop []) (.r (.stop []))))))) (.stop []))) (.both (.l (.both (.both (.stop []) (.both (.stop []) (.both (.stop []) (.both (.stop []) (.r (.both (.stop []) (.stop []))))))) (.stop []))) (.both (.l (.both (.both (.stop []) (.both (.stop []) (.both (.stop []) (.r (.both (.stop []) (.both (.stop []) (.stop []))))))) (.stop []))) (.both (.l (.both (.both (.stop []) (.both (.stop []) (.r (.both (.stop []) (.both (.stop []) (.both (.stop []) (.stop []))))))) (.stop []))) (.both (.l (.both (.both (.stop []) (.r (.both (.stop []) (.both (.stop []) (.both (.stop []) (.both (.stop []) (.stop []))))))) (.stop []))) (.l (.l (.both (.r (.both (.stop []) (.both (.stop []) (.both (.stop []) (.both (.stop []) (.both (.stop []) (.stop []))))))) (.stop [])))))))))))) (.stop [])) (.stop [])) (S := .fork (decide (1 ≤ e.o)) (.fork (decide (e.o ≤ 6)) (.fork (decide (e.s < 1)) (.stop (.leaf (.bool false)) [] ([])) (.fork (decide (1099511627776 ≤ e.s)) (.stop (.leaf (.bool false)) [] ([])) (.left (decide ((-9223372036854775808 : Int) ≤ e.o - 1 ∧ e.o - 1 ≤ 9223372036854775807)) (.fork (decide (e.o - 1 = 5)) (.left (decide (0 ≤ e.s - 1 ∧ e.s - 1 ≤ 18446744073709551615)) (.fork (decide (e.d5 = e.s - 1)) (.fork (decide (1099511627776 ≤ e.d0)) (.stop (.leaf (.bool false)) [] ([])) (.fork (decide (1099511627776 ≤ e.d1)) (.stop (.leaf (.bool false)) [] ([])) (.fork (decide (1099511627776 ≤ e.d2)) (.stop (.leaf (.bool false)) [] ([])) (.fork (decide (1099511627776 ≤ e.d3)) (.stop (.leaf (.bool false)) [] ([])) (.fork (decide (1099511627776 ≤ e.d4)) (.stop (.leaf (.bool false)) [] ([])) (.right (decide (1099511627776 ≤ e.d5)) (.stop (.call 40 [.agg e.row]) [] ([])))))))) (.stop (.leaf (.bool false)) [] ([])))) (.fork (decide (e.o - 1 = 4)) (.left (decide (0 ≤ e.s - 1 ∧ e.s - 1 ≤ 18446744073709551615)) (.fork (decide (e.d4 = e.s - 1)) (.fork (decide (1099511627776 ≤ e.d0)) (.stop (.leaf (.bool false)) [] ([])) (.fork (decide (1099511627776 ≤ e.d1)) (.stop (.leaf (.bool false)) [] ([])) (.fork (decide (1099511627776 ≤ e.d2)) (.stop (.leaf (.bool false)) [] ([])) (.fork (decide (1099511627776 ≤ e.d3)) (.stop (.leaf (.bool false)) [] ([])) (.right (decide (1099511627776 ≤ e.d4)) (.fork (decide (1099511627776 ≤ e.d5)) (.stop (.leaf (.bool false)) [] ([])) (.stop (.call 40 [.agg e.row]) [] ([])))))))) (.stop (.leaf (.bool false)) [] ([])))) (.fork (decide (e.o - 1 = 3)) (.left (decide (0 ≤ e.s - 1 ∧ e.s - 1 ≤ 18446744073709551615)) (.fork (decide (e.d3 = e.s - 1)) (.fork (decide (1099511627776 ≤ e.d0)) (.stop (.leaf (.bool false)) [] ([])) (.fork (decide (1099511627776 ≤ e.d1)) (.stop (.leaf (.bool false)) [] ([])) (.fork (decide (1099511627776 ≤ e.d2)) (.stop (.leaf (.bool false)) [] ([])) (.right (decide (1099511627776 ≤ e.d3)) (.fork (decide (1099511627776 ≤ e.d4)) (.stop (.leaf (.bool false)) [] ([])) (.fork (decide (1099511627776 ≤ e.d5)) (.stop (.leaf (.bool false)) [] ([])) (.stop (.call 40 [.agg e.row]) [] ([])))))))) (.stop (.leaf (.bool false)) [] ([])))) (.fork (decide (e.o - 1 = 2)) (.left (decide (0 ≤ e.s - 1 ∧ e.s - 1 ≤ 18446744073709551615)) (.fork (decide (e.d2 = e.s - 1)) (.fork (decide (1099511627776 ≤ e.d0)) (.stop (.leaf (.bool false)) [] ([])) (.fork (decide (1099511627776 ≤ e.d1)) (.stop (.leaf (.bool false)) [] ([])) (.right (decide (1099511627776 ≤ e.d2)) (.fork (decide (1099511627776 ≤ e.d3)) (.stop (.leaf (.bool false)) [] ([])) (.fork (decide (1099511627776 ≤ e.d4)) (.stop (.leaf (.bool false)) [] ([])) (.fork (decide (1099511627776 ≤ e.d5)) (.stop (.leaf (.bool false)) [] ([])) (.stop (.call 40 [.agg e.row]) [] ([])))))))) (.stop (.leaf (.bool false)) [] ([])))) (.fork (decide (e.o - 1 = 1)) (.left (decide (0 ≤ e.s - 1 ∧ e.s - 1 ≤ 18446744073709551615)) (.fork (decide (e.d1 = e.s - 1)) (.fork (decide (1099511627776 ≤ e.d0)) (.stop (.leaf (.bool false)) [] ([])) (.right (decide (1099511627776 ≤ e.d1)) (.fork (decide (1099511627776 ≤ e.d2)) (.stop (.leaf (.bool false)) [] ([])) (.fork (decide (1099511627776 ≤ e.d3)) (.stop (.leaf (.bool false)) [] ([])) (.fork (decide (1099511627776 ≤ e.d4)) (.stop (.leaf (.bool false)) [] ([])) (.fork (decide (1099511627776 ≤ e.d5)) (.stop (.leaf (.bool false)) [] ([])) (.stop (.call 40 [.agg e.row]) [] ([])))))))) (.stop (.leaf (.bool false)) [] ([])))) (.left (decide (e.o - 1 = 0)) (.left (decide (0 ≤ e.s - 1 ∧ e.s - 1 ≤ 18446744073709551615)) (.fork (decide (e.d0 = e.s - 1)) (.right (decide (1099511627776 ≤ e.d0)) (.fork (decide (1099511627776 ≤ e.d1)) (.stop (.leaf (.bool false)) [] ([])) (.fork (decide (1099511627776 ≤ e.d2)) (.stop (.leaf (.bool false)) [] ([])) (.fork (decide (1099511627776 ≤ e.d3)) (.stop (.leaf (.bool false)) [] ([])) (.fork (decide (1099511627776 ≤ e.d4)) (.stop (.leaf (.bool false)) [] ([])) (.fork (decide (1099511627776 ≤ e.d5)) (.stop (.leaf (.bool false)) [] ([])) (.stop (.call 40 [.agg e.row]) [] ([])))))))) (.stop (.leaf (.bool false)) [] ([]))))))))))))) (.stop (.leaf (.bool false)) [] ([]))) (.stop (.leaf (.bool false)) [] ([]))) (by kernel_rfl) ?_
  refine hold_forkD (fun h0 => ?_) (fun h0 => ?_)
  ·
   refine hold_forkD (fun h1 => ?_) (fun h1 => ?_)
   ·
    refine hold_forkD (fun h2 => ?_) (fun h2 => ?_)
    ·
     exact hold_stop fun hd hb => ok_leaf0 hd rfl (.inr ⟨rfl, rfl, fun h => by have h := h.1; unfold EvI.at_ at h; omega⟩)
    refine hold_forkD (fun h3 => ?_) (fun h3 => ?_)
    ·
     exact hold_stop fun hd hb => ok_leaf0 hd rfl (.inr ⟨rfl, rfl, fun h => by have h := h.1; unfold EvI.at_ at h; omega⟩)
    refine hl (bc fun h4 => by omega) ?_
    refine hold_forkD (fun h4 => ?_) (fun h4 => ?_)
    ·
     refine hl (bc fun h5 => by omega) ?_
     refine hold_forkD (fun h5 => ?_) (fun h5 => ?_)
     ·
      refine hold_forkD (fun h6 => ?_) (fun h6 => ?_)
      ·
       exact hold_stop fun hd hb => ok_leaf0 hd rfl (.inr ⟨rfl, rfl, fun h => by have h := h.1; unfold EvI.at_ at h; omega⟩)
      refine hold_forkD (fun h7 => ?_) (fun h7 => ?_)
      ·
       exact hold_stop fun hd hb => ok_leaf0 hd rfl (.inr ⟨rfl, rfl, fun h => by have h := h.1; unfold EvI.at_ at h; omega⟩)
      refine hold_forkD (fun h8 => ?_) (fun h8 => ?_)
      ·
       exact hold_stop fun hd hb => ok_leaf0 hd rfl (.inr ⟨rfl, rfl, fun h => by have h := h.1; unfold EvI.at_ at h; omega⟩)
      refine hold_forkD (fun h9 => ?_) (fun h9 => ?_)
      ·
       exact hold_stop fun hd hb => ok_leaf0 hd rfl (.inr ⟨rfl, rfl, fun h => by have h := h.1; unfold EvI.at_ at h; omega⟩)
      refine hold_forkD (fun h10 => ?_) (fun h10 => ?_)
      ·
       exact hold_stop fun hd hb => ok_leaf0 hd rfl (.inr ⟨rfl, rfl, fun h => by have h := h.1; unfold EvI.at_ at h; omega⟩)
      refine hzr (fun h11 => by omega) ?_
      refine hold_stop (fun hd hb => ?_)
      refine ok_call0 hd (emf e) rfl ?_
      rintro x G (⟨rfl, rfl, mf⟩ | ⟨rfl, rfl, mf⟩) <;> refine ⟨rfl, fun g hg => (by cases hg), ?_⟩
      ·
       refine ok_sk (.stop []) (S := .stop (.leaf (.bool true)) [] ([])) (by kernel_rfl) ?_
       exact hold_stop fun hd hb => ok_leaf0 hd rfl (.inl ⟨rfl, rfl, ⟨by unfold EvI.at_; omega, mf⟩⟩)
      refine ok_sk (.stop []) (S := .stop (.leaf (.bool false)) [] ([])) (by kernel_rfl) ?_
      exact hold_stop fun hd hb => ok_leaf0 hd rfl (.inr ⟨rfl, rfl, fun h => mf h.2⟩)
     exact hold_stop fun hd hb => ok_leaf0 hd rfl (.inr ⟨rfl, rfl, fun h => by have h := h.1; unfold EvI.at_ at h; omega⟩)
    refine hold_forkD (fun h5 => ?_) (fun h5 => ?_)
    ·
     refine hl (bc fun h6 => by omega) ?_
     refine hold_forkD (fun h6 => ?_) (fun h6 => ?_)
     ·
      refine hold_forkD (fun h7 => ?_) (fun h7 => ?_)
      ·
       exact hold_stop fun hd hb => ok_leaf0 hd rfl (.inr ⟨rfl, rfl, fun h => by have h := h.1; unfold EvI.at_ at h; omega⟩)
      refine hold_forkD (fun h8 => ?_) (fun h8 => ?_)
      ·
       exact hold_stop fun hd hb => ok_leaf0 hd rfl (.inr ⟨rfl, rfl, fun h => by have h := h.1; unfold EvI.at_ at h; omega⟩)
      refine hold_forkD (fun h9 => ?_) (fun h9 => ?_)
      ·
       exact hold_stop fun hd hb => ok_leaf0 hd rfl (.inr ⟨rfl, rfl, fun h => by have h := h.1; unfold EvI.at_ at h; omega⟩)
      refine hold_forkD (fun h10 => ?_) (fun h10 => ?_)
      ·
       exact hold_stop fun hd hb => ok_leaf0 hd rfl (.inr ⟨rfl, rfl, fun h => by have h := h.1; unfold EvI.at_ at h; omega⟩)
      refine hzr (fun h11 => by omega) ?_
      refine hold_forkD (fun h11 => ?_) (fun h11 => ?_)
      ·
       exact hold_stop fun hd hb => ok_leaf0 hd rfl (.inr ⟨rfl, rfl, fun h => by have h := h.1; unfold EvI.at_ at h; omega⟩)
      refine hold_stop (fun hd hb => ?_)
      refine ok_call0 hd (emf e) rfl ?_
      rintro x G (⟨rfl, rfl, mf⟩ | ⟨rfl, rfl, mf⟩) <;> refine ⟨rfl, fun g hg => (by cases hg), ?_⟩
      ·
       refine ok_sk (.stop []) (S := .stop (.leaf (.bool true)) [] ([])) (by kernel_rfl) ?_
       exact hold_stop fun hd hb => ok_leaf0 hd rfl (.inl ⟨rfl, rfl, ⟨by unfold EvI.at_; omega, mf⟩⟩)
      refine ok_sk (.stop []) (S := .stop (.leaf (.bool false)) [] ([])) (by kernel_rfl) ?_
      exact hold_stop fun hd hb => ok_leaf0 hd rfl (.inr ⟨rfl, rfl, fun h => mf h.2⟩)
     exact hold_stop fun hd hb => ok_leaf0 hd rfl (.inr ⟨rfl, rfl, fun h => by have h := h.1; unfold EvI.at_ at h; omega⟩)
    refine hold_forkD (fun h6 => ?_) (fun h6 => ?_)
    ·
     refine hl (bc fun h7 => by omega) ?_
     refine hold_forkD (fun h7 => ?_) (fun h7 => ?_)
     ·
      refine hold_forkD (fun h8 => ?_) (fun h8 => ?_)
      ·
       exact hold_stop fun hd hb => ok_leaf0 hd rfl (.inr ⟨rfl, rfl, fun h => by have h := h.1; unfold EvI.at_ at h; omega⟩)
      refine hold_forkD (fun h9 => ?_) (fun h9 => ?_)
      ·
       exact hold_stop fun hd hb => ok_leaf0 hd rfl (.inr ⟨rfl, rfl, fun h => by have h := h.1; unfold EvI.at_ at h; omega⟩)
      refine hold_forkD (fun h10 => ?_) (fun h10 => ?_)
      ·
       exact hold_stop fun hd hb => ok_leaf0 hd rfl (.inr ⟨rfl, rfl, fun h => by have h := h.1; unfold EvI.at_ at h; omega⟩)
      refine hzr (fun h11 => by omega) ?_
      refine hold_forkD (fun h11 => ?_) (fun h11 => ?_)
      ·
       exact hold_stop fun hd hb => ok_leaf0 hd rfl (.inr ⟨rfl, rfl, fun h => by have h := h.1; unfold EvI.at_ at h; omega⟩)
      refine hold_forkD (fun h12 => ?_) (fun h12 => ?_)
      ·
       exact hold_stop fun hd hb => ok_leaf0 hd rfl (.inr ⟨rfl, rfl, fun h => by have h := h.1; unfold EvI.at_ at h; omega⟩)
      refine hold_stop (fun hd hb => ?_)
      refine ok_call0 hd (emf e) rfl ?_
      rintro x G (⟨rfl, rfl, mf⟩ | ⟨rfl, rfl, mf⟩) <;> refine ⟨rfl, fun g hg => (by cases hg), ?_⟩
      ·
       refine ok_sk (.stop []) (S := .stop (.leaf (.bool true)) [] ([])) (by kernel_rfl) ?_
       exact hold_stop fun hd hb => ok_leaf0 hd rfl (.inl ⟨rfl, rfl, ⟨by unfold EvI.at_; omega, mf⟩⟩)
      refine ok_sk (.stop []) (S := .stop (.leaf (.bool false)) [] ([])) (by kernel_rfl) ?_
      exact hold_stop fun hd hb => ok_leaf0 hd rfl (.inr ⟨rfl, rfl, fun h => mf h.2⟩)
     exact hold_stop fun hd hb => ok_leaf0 hd rfl (.inr ⟨rfl, rfl, fun h => by have h := h.1; unfold EvI.at_ at h; omega⟩)
    refine hold_forkD (fun h7 => ?_) (fun h7 => ?_)
    ·
     refine hl (bc fun h8 => by omega) ?_
     refine hold_forkD (fun h8 => ?_) (fun h8 => ?_)
     ·
      refine hold_forkD (fun h9 => ?_) (fun h9 => ?_)
      ·
       exact hold_stop fun hd hb => ok_leaf0 hd rfl (.inr ⟨rfl, rfl, fun h => by have h := h.1; unfold EvI.at_ at h; omega⟩)
      refine hold_forkD (fun h10 => ?_) (fun h10 => ?_)
      ·
       exact hold_stop fun hd hb => ok_leaf0 hd rfl (.inr ⟨rfl, rfl, fun h => by have h := h.1; unfold EvI.at_ at h; omega⟩)
      refine hzr (fun h11 => by omega) ?_
      refine hold_forkD (fun h11 => ?_) (fun h11 => ?_)
      ·
       exact hold_stop fun hd hb => ok_leaf0 hd rfl (.inr ⟨rfl, rfl, fun h => by have h := h.1; unfold EvI.at_ at h; omega⟩)
      refine hold_forkD (fun h12 => ?_) (fun h12 => ?_)
      ·
       exact hold_stop fun hd hb => ok_leaf0 hd rfl (.inr ⟨rfl, rfl, fun h => by have h := h.1; unfold EvI.at_ at h; omega⟩)
      refine hold_forkD (fun h13 => ?_) (fun h13 => ?_)
      ·
       exact hold_stop fun hd hb => ok_leaf0 hd rfl (.inr ⟨rfl, rfl, fun h => by have h := h.1; unfold EvI.at_ at h; omega⟩)
      refine hold_stop (fun hd hb => ?_)
      refine ok_call0 hd (emf e) rfl ?_
      rintro x G (⟨rfl, rfl, mf⟩ | ⟨rfl, rfl, mf⟩) <;> refine ⟨rfl, fun g hg => (by cases hg), ?_⟩
      ·
       refine ok_sk (.stop []) (S := .stop (.leaf (.bool true)) [] ([])) (by kernel_rfl) ?_
       exact hold_stop fun hd hb => ok_leaf0 hd rfl (.inl ⟨rfl, rfl, ⟨by unfold EvI.at_; omega, mf⟩⟩)
      refine ok_sk (.stop []) (S := .stop (.leaf (.bool false)) [] ([])) (by kernel_rfl) ?_
      exact hold_stop fun hd hb => ok_leaf0 hd rfl (.inr ⟨rfl, rfl, fun h => mf h.2⟩)
     exact hold_stop fun hd hb => ok_leaf0 hd rfl (.inr ⟨rfl, rfl, fun h => by have h := h.1; unfold EvI.at_ at h; omega⟩)
    refine hold_forkD (fun h8 => ?_) (fun h8 => ?_)
    ·
     refine hl (bc fun h9 => by omega) ?_
     refine hold_forkD (fun h9 => ?_) (fun h9 => ?_)
     ·
      refine hold_forkD (fun h10 => ?_) (fun h10 => ?_)
      ·
       exact hold_stop fun hd hb => ok_leaf0 hd rfl (.inr ⟨rfl, rfl, fun h => by have h := h.1; unfold EvI.at_ at h; omega⟩)
      refine hzr (fun h11 => by omega) ?_
      refine hold_forkD (fun h11 => ?_) (fun h11 => ?_)
      ·
       exact hold_stop fun hd hb => ok_leaf0 hd rfl (.inr ⟨rfl, rfl, fun h => by have h := h.1; unfold EvI.at_ at h; omega⟩)
      refine hold_forkD (fun h12 => ?_) (fun h12 => ?_)
      ·
       exact hold_stop fun hd hb => ok_leaf0 hd rfl (.inr ⟨rfl, rfl, fun h => by have h := h.1; unfold EvI.at_ at h; omega⟩)
      refine hold_forkD (fun h13 => ?_) (fun h13 => ?_)
      ·
       exact hold_stop fun hd hb => ok_leaf0 hd rfl (.inr ⟨rfl, rfl, fun h => by have h := h.1; unfold EvI.at_ at h; omega⟩)
      refine hold_forkD (fun h14 => ?_) (fun h14 => ?_)
      ·
       exact hold_stop fun hd hb => ok_leaf0 hd rfl (.inr ⟨rfl, rfl, fun h => by have h := h.1; unfold EvI.at_ at h; omega⟩)
      refine hold_stop (fun hd hb => ?_)
      refine ok_call0 hd (emf e) rfl ?_
      rintro x G (⟨rfl, rfl, mf⟩ | ⟨rfl, rfl, mf⟩) <;> refine ⟨rfl, fun g hg => (by cases hg), ?_⟩
      ·
       refine ok_sk (.stop []) (S := .stop (.leaf (.bool true)) [] ([])) (by kernel_rfl) ?_
       exact hold_stop fun hd hb => ok_leaf0 hd rfl (.inl ⟨rfl, rfl, ⟨by unfold EvI.at_; omega, mf⟩⟩)
      refine ok_sk (.stop []) (S := .stop (.leaf (.bool false)) [] ([])) (by kernel_rfl) ?_
      exact hold_stop fun hd hb => ok_leaf0 hd rfl (.inr ⟨rfl, rfl, fun h => mf h.2⟩)
     exact hold_stop fun hd hb => ok_leaf0 hd rfl (.inr ⟨rfl, rfl, fun h => by have h := h.1; unfold EvI.at_ at h; omega⟩)
    iterate 2 refine hl (bc fun h9 => by omega) ?_
    refine hold_forkD (fun h9 => ?_) (fun h9 => ?_)
    ·
     refine hzr (fun h10 => by omega) ?_
     refine hold_forkD (fun h10 => ?_) (fun h10 => ?_)
     ·
      exact hold_stop fun hd hb => ok_leaf0 hd rfl (.inr ⟨rfl, rfl, fun h => by have h := h.1; unfold EvI.at_ at h; omega⟩)
     refine hold_forkD (fun h11 => ?_) (fun h11 => ?_)
     ·
      exact hold_stop fun hd hb => ok_leaf0 hd rfl (.inr ⟨rfl, rfl, fun h => by have h := h.1; unfold EvI.at_ at h; omega⟩)
     refine hold_forkD (fun h12 => ?_) (fun h12 => ?_)
     ·
      exact hold_stop fun hd hb => ok_leaf0 hd rfl (.inr ⟨rfl, rfl, fun h => by have h := h.1; unfold EvI.at_ at h; omega⟩)
     refine hold_forkD (fun h13 => ?_) (fun h13 => ?_)
     ·
      exact hold_stop fun hd hb => ok_leaf0 hd rfl (.inr ⟨rfl, rfl, fun h => by have h := h.1; unfold EvI.at_ at h; omega⟩)
     refine hold_forkD (fun h14 => ?_) (fun h14 => ?_)
     ·
      exact hold_stop fun hd hb => ok_leaf0 hd rfl (.inr ⟨rfl, rfl, fun h => by have h := h.1; unfold EvI.at_ at h; omega⟩)
     refine hold_stop (fun hd hb => ?_)
     refine ok_call0 hd (emf e) rfl ?_
     rintro x G (⟨rfl, rfl, mf⟩ | ⟨rfl, rfl, mf⟩) <;> refine ⟨rfl, fun g hg => (by cases hg), ?_⟩
     ·
      refine ok_sk (.stop []) (S := .stop (.leaf (.bool true)) [] ([])) (by kernel_rfl) ?_
      exact hold_stop fun hd hb => ok_leaf0 hd rfl (.inl ⟨rfl, rfl, ⟨by unfold EvI.at_; omega, mf⟩⟩)
     refine ok_sk (.stop []) (S := .stop (.leaf (.bool false)) [] ([])) (by kernel_rfl) ?_
     exact hold_stop fun hd hb => ok_leaf0 hd rfl (.inr ⟨rfl, rfl, fun h => mf h.2⟩)
    exact hold_stop fun hd hb => ok_leaf0 hd rfl (.inr ⟨rfl, rfl, fun h => by have h := h.1; unfold EvI.at_ at h; omega⟩)
   exact hold_stop fun hd hb => ok_leaf0 hd rfl (.inr ⟨rfl, rfl, fun h => by have h := h.1; unfold EvI.at_ at h; omega⟩)
  exact hold_stop fun hd hb => ok_leaf0 hd rfl (.inr ⟨rfl, rfl, fun h => by have h := h.1; unfold EvI.at_ at h; omega⟩)
end Go.Proofs.Ytkdmlpmjfnjnmaa
