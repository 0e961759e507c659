import Derived.Test.YtjihbjjekhncaaaPrl
import Derived.Test.YtjihbjjekhncaaaTrc
namespace Go.Proofs.Ytjihbjjekhncaaa
open Go Go.RowKit Sv
set_option linter.unusedVariables false
set_option maxRecDepth 100000
set_option maxHeartbeats 0
/-- an event, its fields as numbers. -/
structure EvI where
  o : Int
  s : Int
  d0 : Int
  d1 : Int
  d2 : Int
  d3 : Int
  d4 : Int
  d5 : Int
  k : Int
  n : Int
  t : Int
  a : Int
  r : Int
  f : Int
def EvI.row (e : EvI) : List AV := [.sint .i64 e.o, .sint .u64 e.s, .sint .u64 e.d0, .sint .u64 e.d1, .sint .u64 e.d2, .sint .u64 e.d3, .sint .u64 e.d4, .sint .u64 e.d5, .sint .u8 e.k, .sint .u64 e.n, .sint .i64 e.t, .sint .i64 e.a, .sint .u64 e.r, .sint .u64 e.f]
/-- which fields an event of a kind has. -/
def EvI.mf (e : EvI) : Prop :=
  (1 ≤ e.k ∧ e.k ≤ 7) ∧
  (e.k = 1 → e.t = 0 ∧ e.r = 0 ∧ e.f = 0 ∧ 0 ≤ e.a ∧ e.a ≤ 1125899906842624) ∧
  (e.k = 2 → e.t = 0 ∧ e.r = 0 ∧ e.f = 0 ∧ 1 ≤ e.a ∧ e.a ≤ 1125899906842624) ∧
  (e.k = 3 → e.t = 0 ∧ e.f = 0 ∧ e.r ≠ 0 ∧ 1 ≤ e.a ∧ e.a ≤ 1125899906842624) ∧
  (e.k = 4 → e.n = 0 ∧ e.t = 0 ∧ e.a = 0 ∧ e.r ≠ 0 ∧ e.f ≠ 0 ∧ e.r ≠ e.f) ∧
  (e.k = 5 → e.r = 0 ∧ e.f = 0 ∧ 1 ≤ e.a ∧ e.a ≤ 1125899906842624 ∧ 1 ≤ e.t ∧ e.t ≤ 6 ∧ e.t ≠ e.o) ∧
  (e.k = 6 → e.n = 0 ∧ e.a = 0 ∧ e.r = 0 ∧ e.f = 0 ∧ 1 ≤ e.t ∧ e.t ≤ 6 ∧ e.t ≠ e.o) ∧
  (e.k = 7 → e.n = 0 ∧ e.t = 0 ∧ e.a = 0 ∧ e.r = 0 ∧ e.f = 0)
/-- where it stands. -/
def EvI.at_ (e : EvI) : Prop := (1 ≤ e.o ∧ e.o ≤ 6 ∧ 1 ≤ e.s ∧ e.s < 1099511627776) ∧
  (e.d0 < 1099511627776 ∧ e.d1 < 1099511627776 ∧ e.d2 < 1099511627776 ∧ e.d3 < 1099511627776 ∧ e.d4 < 1099511627776 ∧ e.d5 < 1099511627776) ∧
  ((e.o = 1 → e.d0 = e.s - 1) ∧ (e.o = 2 → e.d1 = e.s - 1) ∧ (e.o = 3 → e.d2 = e.s - 1) ∧ (e.o = 4 → e.d3 = e.s - 1) ∧ (e.o = 5 → e.d4 = e.s - 1) ∧ (e.o = 6 → e.d5 = e.s - 1))
def EvI.may (e : EvI) : Prop := e.at_ ∧ e.mf
theorem emf (e : EvI) : Runs Try.prog 58 [.agg e.row] fun x G => (x = .bool true ∧ G = [] ∧ e.mf) ∨ (x = .bool false ∧ G = [] ∧ ¬ e.mf) := by
  refine runs_treeF plain mixed (fun _ => false) (fun _ => false) 40 ?_
  refine ok_sk (.both (.l (.both (.both (.both (.stop []) (.stop [])) (.stop [])) (.stop []))) (.both (.l (.both (.both (.both (.stop []) (.stop [])) (.stop [])) (.stop []))) (.both (.l (.l (.l (.both (.both (.both (.both (.stop []) (.stop [])) (.stop [])) (.stop [])) (.stop []))))) (.both (.l (.both (.both (.stop []) (.both (.stop []) (.both (.stop []) (.stop [])))) (.stop []))) (.both (.l (.l (.l (.both (.both (.both (.both (.both (.both (.stop []) (.stop [])) (.stop [])) (.stop [])) (.stop [])) (.stop [])) (.stop []))))) (.both (.both (.both (.both (.both (.stop []) (.stop [])) (.stop [])) (.stop [])) (.stop [])) (.both (.both (.stop []) (.stop [])) (.stop [])))))))) (S := .fork (decide (e.k = 1)) (.left (decide (e.a = e.a)) (.fork (@decide (e.o = e.o ∧ e.s = e.s ∧ e.d0 = e.d0 ∧ e.d1 = e.d1 ∧ e.d2 = e.d2 ∧ e.d3 = e.d3 ∧ e.d4 = e.d4 ∧ e.d5 = e.d5 ∧ e.k = e.k ∧ e.n = e.n ∧ e.t = 0 ∧ e.a = e.a ∧ e.r = 0 ∧ e.f = 0) pd) (.fork (decide (0 ≤ e.a)) (.fork (decide (e.a ≤ 1125899906842624)) (.stop (Hd.leaf (.bool true)) [] ([])) (.stop (Hd.leaf (.bool false)) [] ([]))) (.stop (Hd.leaf (.bool false)) [] ([]))) (.stop (Hd.leaf (.bool false)) [] ([])))) (.fork (decide (e.k = 2)) (.left (decide (e.a = e.a)) (.fork (@decide (e.o = e.o ∧ e.s = e.s ∧ e.d0 = e.d0 ∧ e.d1 = e.d1 ∧ e.d2 = e.d2 ∧ e.d3 = e.d3 ∧ e.d4 = e.d4 ∧ e.d5 = e.d5 ∧ e.k = e.k ∧ e.n = e.n ∧ e.t = 0 ∧ e.a = e.a ∧ e.r = 0 ∧ e.f = 0) pd) (.fork (decide (1 ≤ e.a)) (.fork (decide (e.a ≤ 1125899906842624)) (.stop (Hd.leaf (.bool true)) [] ([])) (.stop (Hd.leaf (.bool false)) [] ([]))) (.stop (Hd.leaf (.bool false)) [] ([]))) (.stop (Hd.leaf (.bool false)) [] ([])))) (.fork (decide (e.k = 3)) (.left (decide (e.r = e.r)) (.left (decide (e.a = e.a)) (.left (decide (e.r = e.r)) (.fork (@decide (e.o = e.o ∧ e.s = e.s ∧ e.d0 = e.d0 ∧ e.d1 = e.d1 ∧ e.d2 = e.d2 ∧ e.d3 = e.d3 ∧ e.d4 = e.d4 ∧ e.d5 = e.d5 ∧ e.k = e.k ∧ e.n = e.n ∧ e.t = 0 ∧ e.a = e.a ∧ e.r = e.r ∧ e.f = 0) pd) (.fork (decide (1 ≤ e.a)) (.fork (decide (e.a ≤ 1125899906842624)) (.fork (decide (e.r = 0)) (.stop (Hd.leaf (.bool false)) [] ([])) (.stop (Hd.leaf (.bool true)) [] ([]))) (.stop (Hd.leaf (.bool false)) [] ([]))) (.stop (Hd.leaf (.bool false)) [] ([]))) (.stop (Hd.leaf (.bool false)) [] ([])))))) (.fork (decide (e.k = 4)) (.left (decide (e.f = e.f)) (.fork (@decide (e.o = e.o ∧ e.s = e.s ∧ e.d0 = e.d0 ∧ e.d1 = e.d1 ∧ e.d2 = e.d2 ∧ e.d3 = e.d3 ∧ e.d4 = e.d4 ∧ e.d5 = e.d5 ∧ e.k = e.k ∧ e.n = 0 ∧ e.t = 0 ∧ e.a = 0 ∧ e.r = e.r ∧ e.f = e.f) pd) (.fork (decide (e.r = 0)) (.stop (Hd.leaf (.bool false)) [] ([])) (.fork (decide (e.f = 0)) (.stop (Hd.leaf (.bool false)) [] ([])) (.fork (decide (e.r = e.f)) (.stop (Hd.leaf (.bool false)) [] ([])) (.stop (Hd.leaf (.bool true)) [] ([]))))) (.stop (Hd.leaf (.bool false)) [] ([])))) (.fork (decide (e.k = 5)) (.left (decide (e.t = e.t)) (.left (decide (e.a = e.a)) (.left (decide (e.t = e.t)) (.fork (@decide (e.o = e.o ∧ e.s = e.s ∧ e.d0 = e.d0 ∧ e.d1 = e.d1 ∧ e.d2 = e.d2 ∧ e.d3 = e.d3 ∧ e.d4 = e.d4 ∧ e.d5 = e.d5 ∧ e.k = e.k ∧ e.n = e.n ∧ e.t = e.t ∧ e.a = e.a ∧ e.r = 0 ∧ e.f = 0) pd) (.fork (decide (1 ≤ e.a)) (.fork (decide (e.a ≤ 1125899906842624)) (.fork (decide (1 ≤ e.t)) (.fork (decide (e.t ≤ 6)) (.fork (decide (e.t = e.o)) (.stop (Hd.leaf (.bool false)) [] ([])) (.stop (Hd.leaf (.bool true)) [] ([]))) (.stop (Hd.leaf (.bool false)) [] ([]))) (.stop (Hd.leaf (.bool false)) [] ([]))) (.stop (Hd.leaf (.bool false)) [] ([]))) (.stop (Hd.leaf (.bool false)) [] ([]))) (.stop (Hd.leaf (.bool false)) [] ([])))))) (.fork (decide (e.k = 6)) (.fork (@decide (e.o = e.o ∧ e.s = e.s ∧ e.d0 = e.d0 ∧ e.d1 = e.d1 ∧ e.d2 = e.d2 ∧ e.d3 = e.d3 ∧ e.d4 = e.d4 ∧ e.d5 = e.d5 ∧ e.k = e.k ∧ e.n = 0 ∧ e.t = e.t ∧ e.a = 0 ∧ e.r = 0 ∧ e.f = 0) pd) (.fork (decide (1 ≤ e.t)) (.fork (decide (e.t ≤ 6)) (.fork (decide (e.t = e.o)) (.stop (Hd.leaf (.bool false)) [] ([])) (.stop (Hd.leaf (.bool true)) [] ([]))) (.stop (Hd.leaf (.bool false)) [] ([]))) (.stop (Hd.leaf (.bool false)) [] ([]))) (.stop (Hd.leaf (.bool false)) [] ([]))) (.fork (decide (e.k = 7)) (.fork (@decide (e.o = e.o ∧ e.s = e.s ∧ e.d0 = e.d0 ∧ e.d1 = e.d1 ∧ e.d2 = e.d2 ∧ e.d3 = e.d3 ∧ e.d4 = e.d4 ∧ e.d5 = e.d5 ∧ e.k = e.k ∧ e.n = 0 ∧ e.t = 0 ∧ e.a = 0 ∧ e.r = 0 ∧ e.f = 0) pd) (.stop (Hd.leaf (.bool true)) [] ([])) (.stop (Hd.leaf (.bool false)) [] ([]))) (.stop (Hd.leaf (.bool false)) [] ([]))))))))) (by kernel_rfl) ?_
  refine hold_forkD (fun h0 => ?_) (fun h0 => ?_)
  ·
   refine hl (bc fun h1 => by omega) ?_
   refine hold_forkD (fun h1 => ?_) (fun h1 => ?_)
   ·
    refine hold_forkD (fun h2 => ?_) (fun h2 => ?_)
    ·
     refine hold_forkD (fun h3 => ?_) (fun h3 => ?_)
     ·
      refine hold_stop (fun hd hb => ?_)
      exact ok_leaf0 hd rfl (.inl ⟨rfl, rfl, by unfold EvI.mf; omega⟩)
     refine hold_stop (fun hd hb => ?_)
     exact ok_leaf0 hd rfl (.inr ⟨rfl, rfl, by unfold EvI.mf; omega⟩)
    refine hold_stop (fun hd hb => ?_)
    exact ok_leaf0 hd rfl (.inr ⟨rfl, rfl, by unfold EvI.mf; omega⟩)
   refine hold_stop (fun hd hb => ?_)
   exact ok_leaf0 hd rfl (.inr ⟨rfl, rfl, by unfold EvI.mf; omega⟩)
  refine hold_forkD (fun h1 => ?_) (fun h1 => ?_)
  ·
   refine hl (bc fun h2 => by omega) ?_
   refine hold_forkD (fun h2 => ?_) (fun h2 => ?_)
   ·
    refine hold_forkD (fun h3 => ?_) (fun h3 => ?_)
    ·
     refine hold_forkD (fun h4 => ?_) (fun h4 => ?_)
     ·
      refine hold_stop (fun hd hb => ?_)
      exact ok_leaf0 hd rfl (.inl ⟨rfl, rfl, by unfold EvI.mf; omega⟩)
     refine hold_stop (fun hd hb => ?_)
     exact ok_leaf0 hd rfl (.inr ⟨rfl, rfl, by unfold EvI.mf; omega⟩)
    refine hold_stop (fun hd hb => ?_)
    exact ok_leaf0 hd rfl (.inr ⟨rfl, rfl, by unfold EvI.mf; omega⟩)
   refine hold_stop (fun hd hb => ?_)
   exact ok_leaf0 hd rfl (.inr ⟨rfl, rfl, by unfold EvI.mf; omega⟩)
  refine hold_forkD (fun h2 => ?_) (fun h2 => ?_)
  ·
   refine hl (bc fun h3 => by omega) ?_
   refine hl (bc fun h3 => by omega) ?_
   refine hl (bc fun h3 => by omega) ?_
   refine hold_forkD (fun h3 => ?_) (fun h3 => ?_)
   ·
    refine hold_forkD (fun h4 => ?_) (fun h4 => ?_)
    ·
     refine hold_forkD (fun h5 => ?_) (fun h5 => ?_)
     ·
      refine hold_forkD (fun h6 => ?_) (fun h6 => ?_)
      ·
       refine hold_stop (fun hd hb => ?_)
       exact ok_leaf0 hd rfl (.inr ⟨rfl, rfl, by unfold EvI.mf; omega⟩)
      refine hold_stop (fun hd hb => ?_)
      exact ok_leaf0 hd rfl (.inl ⟨rfl, rfl, by unfold EvI.mf; omega⟩)
     refine hold_stop (fun hd hb => ?_)
     exact ok_leaf0 hd rfl (.inr ⟨rfl, rfl, by unfold EvI.mf; omega⟩)
    refine hold_stop (fun hd hb => ?_)
    exact ok_leaf0 hd rfl (.inr ⟨rfl, rfl, by unfold EvI.mf; omega⟩)
   refine hold_stop (fun hd hb => ?_)
   exact ok_leaf0 hd rfl (.inr ⟨rfl, rfl, by unfold EvI.mf; omega⟩)
  refine hold_forkD (fun h3 => ?_) (fun h3 => ?_)
  ·
   refine hl (bc fun h4 => by omega) ?_
   refine hold_forkD (fun h4 => ?_) (fun h4 => ?_)
   ·
    refine hold_forkD (fun h5 => ?_) (fun h5 => ?_)
    ·
     refine hold_stop (fun hd hb => ?_)
     exact ok_leaf0 hd rfl (.inr ⟨rfl, rfl, by unfold EvI.mf; omega⟩)
    refine hold_forkD (fun h6 => ?_) (fun h6 => ?_)
    ·
     refine hold_stop (fun hd hb => ?_)
     exact ok_leaf0 hd rfl (.inr ⟨rfl, rfl, by unfold EvI.mf; omega⟩)
    refine hold_forkD (fun h7 => ?_) (fun h7 => ?_)
    ·
     refine hold_stop (fun hd hb => ?_)
     exact ok_leaf0 hd rfl (.inr ⟨rfl, rfl, by unfold EvI.mf; omega⟩)
    refine hold_stop (fun hd hb => ?_)
    exact ok_leaf0 hd rfl (.inl ⟨rfl, rfl, by unfold EvI.mf; omega⟩)
   refine hold_stop (fun hd hb => ?_)
   exact ok_leaf0 hd rfl (.inr ⟨rfl, rfl, by unfold EvI.mf; omega⟩)
  refine hold_forkD (fun h4 => ?_) (fun h4 => ?_)
  ·
   refine hl (bc fun h5 => by omega) ?_
   refine hl (bc fun h5 => by omega) ?_
   refine hl (bc fun h5 => by omega) ?_
   refine hold_forkD (fun h5 => ?_) (fun h5 => ?_)
   ·
    refine hold_forkD (fun h6 => ?_) (fun h6 => ?_)
    ·
     refine hold_forkD (fun h7 => ?_) (fun h7 => ?_)
     ·
      refine hold_forkD (fun h8 => ?_) (fun h8 => ?_)
      ·
       refine hold_forkD (fun h9 => ?_) (fun h9 => ?_)
       ·
        refine hold_forkD (fun h10 => ?_) (fun h10 => ?_)
        ·
         refine hold_stop (fun hd hb => ?_)
         exact ok_leaf0 hd rfl (.inr ⟨rfl, rfl, by unfold EvI.mf; omega⟩)
        refine hold_stop (fun hd hb => ?_)
        exact ok_leaf0 hd rfl (.inl ⟨rfl, rfl, by unfold EvI.mf; omega⟩)
       refine hold_stop (fun hd hb => ?_)
       exact ok_leaf0 hd rfl (.inr ⟨rfl, rfl, by unfold EvI.mf; omega⟩)
      refine hold_stop (fun hd hb => ?_)
      exact ok_leaf0 hd rfl (.inr ⟨rfl, rfl, by unfold EvI.mf; omega⟩)
     refine hold_stop (fun hd hb => ?_)
     exact ok_leaf0 hd rfl (.inr ⟨rfl, rfl, by unfold EvI.mf; omega⟩)
    refine hold_stop (fun hd hb => ?_)
    exact ok_leaf0 hd rfl (.inr ⟨rfl, rfl, by unfold EvI.mf; omega⟩)
   refine hold_stop (fun hd hb => ?_)
   exact ok_leaf0 hd rfl (.inr ⟨rfl, rfl, by unfold EvI.mf; omega⟩)
  refine hold_forkD (fun h5 => ?_) (fun h5 => ?_)
  ·
   refine hold_forkD (fun h6 => ?_) (fun h6 => ?_)
   ·
    refine hold_forkD (fun h7 => ?_) (fun h7 => ?_)
    ·
     refine hold_forkD (fun h8 => ?_) (fun h8 => ?_)
     ·
      refine hold_forkD (fun h9 => ?_) (fun h9 => ?_)
      ·
       refine hold_stop (fun hd hb => ?_)
       exact ok_leaf0 hd rfl (.inr ⟨rfl, rfl, by unfold EvI.mf; omega⟩)
      refine hold_stop (fun hd hb => ?_)
      exact ok_leaf0 hd rfl (.inl ⟨rfl, rfl, by unfold EvI.mf; omega⟩)
     refine hold_stop (fun hd hb => ?_)
     exact ok_leaf0 hd rfl (.inr ⟨rfl, rfl, by unfold EvI.mf; omega⟩)
    refine hold_stop (fun hd hb => ?_)
    exact ok_leaf0 hd rfl (.inr ⟨rfl, rfl, by unfold EvI.mf; omega⟩)
   refine hold_stop (fun hd hb => ?_)
   exact ok_leaf0 hd rfl (.inr ⟨rfl, rfl, by unfold EvI.mf; omega⟩)
  refine hold_forkD (fun h6 => ?_) (fun h6 => ?_)
  ·
   refine hold_forkD (fun h7 => ?_) (fun h7 => ?_)
   ·
    refine hold_stop (fun hd hb => ?_)
    exact ok_leaf0 hd rfl (.inl ⟨rfl, rfl, by unfold EvI.mf; omega⟩)
   refine hold_stop (fun hd hb => ?_)
   exact ok_leaf0 hd rfl (.inr ⟨rfl, rfl, by unfold EvI.mf; omega⟩)
  refine hold_stop (fun hd hb => ?_)
  exact ok_leaf0 hd rfl (.inr ⟨rfl, rfl, by unfold EvI.mf; omega⟩)
theorem emay (e : EvI) : Runs Try.prog 21 [.agg e.row] fun x G => (x = .bool true ∧ G = [] ∧ e.may) ∨ (x = .bool false ∧ G = [] ∧ ¬ e.may) := by
  refine runs_treeF plain mixed (fun g => Nat.beq g 58) (fun _ => false) 40 ?_
  refine ok_sk (.both (.both (.both (.stop []) (.both (.stop []) (.l (.both (.l (.both (.both (.stop []) (.both (.stop []) (.both (.stop []) (.both (.stop []) (.both (.stop []) (.r (.stop []))))))) (.stop []))) (.both (.l (.both (.both (.stop []) (.both (.stop []) (.both (.stop []) (.both (.stop []) (.r (.both (.stop []) (.stop []))))))) (.stop []))) (.both (.l (.both (.both (.stop []) (.both (.stop []) (.both (.stop []) (.r (.both (.stop []) (.both (.stop []) (.stop []))))))) (.stop []))) (.both (.l (.both (.both (.stop []) (.both (.stop []) (.r (.both (.stop []) (.both (.stop []) (.both (.stop []) (.stop []))))))) (.stop []))) (.both (.l (.both (.both (.stop []) (.r (.both (.stop []) (.both (.stop []) (.both (.stop []) (.both (.stop []) (.stop []))))))) (.stop []))) (.l (.l (.both (.r (.both (.stop []) (.both (.stop []) (.both (.stop []) (.both (.stop []) (.both (.stop []) (.stop []))))))) (.stop [])))))))))))) (.stop [])) (.stop [])) (S := .fork (decide (1 ≤ e.o)) (.fork (decide (e.o ≤ 6)) (.fork (decide (e.s < 1)) (.stop (Hd.leaf (.bool false)) [] ([])) (.fork (decide (1099511627776 ≤ e.s)) (.stop (Hd.leaf (.bool false)) [] ([])) (.left (decide ((-9223372036854775808 : Int) ≤ e.o - 1 ∧ e.o - 1 ≤ 9223372036854775807)) (.fork (decide (e.o - 1 = 5)) (.left (decide (0 ≤ e.s - 1 ∧ e.s - 1 ≤ 18446744073709551615)) (.fork (decide (e.d5 = e.s - 1)) (.fork (decide (1099511627776 ≤ e.d0)) (.stop (Hd.leaf (.bool false)) [] ([])) (.fork (decide (1099511627776 ≤ e.d1)) (.stop (Hd.leaf (.bool false)) [] ([])) (.fork (decide (1099511627776 ≤ e.d2)) (.stop (Hd.leaf (.bool false)) [] ([])) (.fork (decide (1099511627776 ≤ e.d3)) (.stop (Hd.leaf (.bool false)) [] ([])) (.fork (decide (1099511627776 ≤ e.d4)) (.stop (Hd.leaf (.bool false)) [] ([])) (.right (decide (1099511627776 ≤ e.d5)) (.stop (Hd.call 58 [.agg [.sint .i64 e.o, .sint .u64 e.s, .sint .u64 e.d0, .sint .u64 e.d1, .sint .u64 e.d2, .sint .u64 e.d3, .sint .u64 e.d4, .sint .u64 e.d5, .sint .u8 e.k, .sint .u64 e.n, .sint .i64 e.t, .sint .i64 e.a, .sint .u64 e.r, .sint .u64 e.f]]) [] ([])))))))) (.stop (Hd.leaf (.bool false)) [] ([])))) (.fork (decide (e.o - 1 = 4)) (.left (decide (0 ≤ e.s - 1 ∧ e.s - 1 ≤ 18446744073709551615)) (.fork (decide (e.d4 = e.s - 1)) (.fork (decide (1099511627776 ≤ e.d0)) (.stop (Hd.leaf (.bool false)) [] ([])) (.fork (decide (1099511627776 ≤ e.d1)) (.stop (Hd.leaf (.bool false)) [] ([])) (.fork (decide (1099511627776 ≤ e.d2)) (.stop (Hd.leaf (.bool false)) [] ([])) (.fork (decide (1099511627776 ≤ e.d3)) (.stop (Hd.leaf (.bool false)) [] ([])) (.right (decide (1099511627776 ≤ e.d4)) (.fork (decide (1099511627776 ≤ e.d5)) (.stop (Hd.leaf (.bool false)) [] ([])) (.stop (Hd.call 58 [.agg [.sint .i64 e.o, .sint .u64 e.s, .sint .u64 e.d0, .sint .u64 e.d1, .sint .u64 e.d2, .sint .u64 e.d3, .sint .u64 e.d4, .sint .u64 e.d5, .sint .u8 e.k, .sint .u64 e.n, .sint .i64 e.t, .sint .i64 e.a, .sint .u64 e.r, .sint .u64 e.f]]) [] ([])))))))) (.stop (Hd.leaf (.bool false)) [] ([])))) (.fork (decide (e.o - 1 = 3)) (.left (decide (0 ≤ e.s - 1 ∧ e.s - 1 ≤ 18446744073709551615)) (.fork (decide (e.d3 = e.s - 1)) (.fork (decide (1099511627776 ≤ e.d0)) (.stop (Hd.leaf (.bool false)) [] ([])) (.fork (decide (1099511627776 ≤ e.d1)) (.stop (Hd.leaf (.bool false)) [] ([])) (.fork (decide (1099511627776 ≤ e.d2)) (.stop (Hd.leaf (.bool false)) [] ([])) (.right (decide (1099511627776 ≤ e.d3)) (.fork (decide (1099511627776 ≤ e.d4)) (.stop (Hd.leaf (.bool false)) [] ([])) (.fork (decide (1099511627776 ≤ e.d5)) (.stop (Hd.leaf (.bool false)) [] ([])) (.stop (Hd.call 58 [.agg [.sint .i64 e.o, .sint .u64 e.s, .sint .u64 e.d0, .sint .u64 e.d1, .sint .u64 e.d2, .sint .u64 e.d3, .sint .u64 e.d4, .sint .u64 e.d5, .sint .u8 e.k, .sint .u64 e.n, .sint .i64 e.t, .sint .i64 e.a, .sint .u64 e.r, .sint .u64 e.f]]) [] ([])))))))) (.stop (Hd.leaf (.bool false)) [] ([])))) (.fork (decide (e.o - 1 = 2)) (.left (decide (0 ≤ e.s - 1 ∧ e.s - 1 ≤ 18446744073709551615)) (.fork (decide (e.d2 = e.s - 1)) (.fork (decide (1099511627776 ≤ e.d0)) (.stop (Hd.leaf (.bool false)) [] ([])) (.fork (decide (1099511627776 ≤ e.d1)) (.stop (Hd.leaf (.bool false)) [] ([])) (.right (decide (1099511627776 ≤ e.d2)) (.fork (decide (1099511627776 ≤ e.d3)) (.stop (Hd.leaf (.bool false)) [] ([])) (.fork (decide (1099511627776 ≤ e.d4)) (.stop (Hd.leaf (.bool false)) [] ([])) (.fork (decide (1099511627776 ≤ e.d5)) (.stop (Hd.leaf (.bool false)) [] ([])) (.stop (Hd.call 58 [.agg [.sint .i64 e.o, .sint .u64 e.s, .sint .u64 e.d0, .sint .u64 e.d1, .sint .u64 e.d2, .sint .u64 e.d3, .sint .u64 e.d4, .sint .u64 e.d5, .sint .u8 e.k, .sint .u64 e.n, .sint .i64 e.t, .sint .i64 e.a, .sint .u64 e.r, .sint .u64 e.f]]) [] ([])))))))) (.stop (Hd.leaf (.bool false)) [] ([])))) (.fork (decide (e.o - 1 = 1)) (.left (decide (0 ≤ e.s - 1 ∧ e.s - 1 ≤ 18446744073709551615)) (.fork (decide (e.d1 = e.s - 1)) (.fork (decide (1099511627776 ≤ e.d0)) (.stop (Hd.leaf (.bool false)) [] ([])) (.right (decide (1099511627776 ≤ e.d1)) (.fork (decide (1099511627776 ≤ e.d2)) (.stop (Hd.leaf (.bool false)) [] ([])) (.fork (decide (1099511627776 ≤ e.d3)) (.stop (Hd.leaf (.bool false)) [] ([])) (.fork (decide (1099511627776 ≤ e.d4)) (.stop (Hd.leaf (.bool false)) [] ([])) (.fork (decide (1099511627776 ≤ e.d5)) (.stop (Hd.leaf (.bool false)) [] ([])) (.stop (Hd.call 58 [.agg [.sint .i64 e.o, .sint .u64 e.s, .sint .u64 e.d0, .sint .u64 e.d1, .sint .u64 e.d2, .sint .u64 e.d3, .sint .u64 e.d4, .sint .u64 e.d5, .sint .u8 e.k, .sint .u64 e.n, .sint .i64 e.t, .sint .i64 e.a, .sint .u64 e.r, .sint .u64 e.f]]) [] ([])))))))) (.stop (Hd.leaf (.bool false)) [] ([])))) (.left (decide (e.o - 1 = 0)) (.left (decide (0 ≤ e.s - 1 ∧ e.s - 1 ≤ 18446744073709551615)) (.fork (decide (e.d0 = e.s - 1)) (.right (decide (1099511627776 ≤ e.d0)) (.fork (decide (1099511627776 ≤ e.d1)) (.stop (Hd.leaf (.bool false)) [] ([])) (.fork (decide (1099511627776 ≤ e.d2)) (.stop (Hd.leaf (.bool false)) [] ([])) (.fork (decide (1099511627776 ≤ e.d3)) (.stop (Hd.leaf (.bool false)) [] ([])) (.fork (decide (1099511627776 ≤ e.d4)) (.stop (Hd.leaf (.bool false)) [] ([])) (.fork (decide (1099511627776 ≤ e.d5)) (.stop (Hd.leaf (.bool false)) [] ([])) (.stop (Hd.call 58 [.agg [.sint .i64 e.o, .sint .u64 e.s, .sint .u64 e.d0, .sint .u64 e.d1, .sint .u64 e.d2, .sint .u64 e.d3, .sint .u64 e.d4, .sint .u64 e.d5, .sint .u8 e.k, .sint .u64 e.n, .sint .i64 e.t, .sint .i64 e.a, .sint .u64 e.r, .sint .u64 e.f]]) [] ([])))))))) (.stop (Hd.leaf (.bool false)) [] ([]))))))))))))) (.stop (Hd.leaf (.bool false)) [] ([]))) (.stop (Hd.leaf (.bool false)) [] ([]))) (by kernel_rfl) ?_
  refine hold_forkD (fun h0 => ?_) (fun h0 => ?_)
  ·
   refine hold_forkD (fun h1 => ?_) (fun h1 => ?_)
   ·
    refine hold_forkD (fun h2 => ?_) (fun h2 => ?_)
    ·
     refine hold_stop (fun hd hb => ?_)
     exact ok_leaf0 hd rfl (.inr ⟨rfl, rfl, fun h => by have h := h.1; unfold EvI.at_ at h; omega⟩)
    refine hold_forkD (fun h3 => ?_) (fun h3 => ?_)
    ·
     refine hold_stop (fun hd hb => ?_)
     exact ok_leaf0 hd rfl (.inr ⟨rfl, rfl, fun h => by have h := h.1; unfold EvI.at_ at h; omega⟩)
    refine hl (bc fun h4 => by omega) ?_
    refine hold_forkD (fun h4 => ?_) (fun h4 => ?_)
    ·
     refine hl (bc fun h5 => by omega) ?_
     refine hold_forkD (fun h5 => ?_) (fun h5 => ?_)
     ·
      refine hold_forkD (fun h6 => ?_) (fun h6 => ?_)
      ·
       refine hold_stop (fun hd hb => ?_)
       exact ok_leaf0 hd rfl (.inr ⟨rfl, rfl, fun h => by have h := h.1; unfold EvI.at_ at h; omega⟩)
      refine hold_forkD (fun h7 => ?_) (fun h7 => ?_)
      ·
       refine hold_stop (fun hd hb => ?_)
       exact ok_leaf0 hd rfl (.inr ⟨rfl, rfl, fun h => by have h := h.1; unfold EvI.at_ at h; omega⟩)
      refine hold_forkD (fun h8 => ?_) (fun h8 => ?_)
      ·
       refine hold_stop (fun hd hb => ?_)
       exact ok_leaf0 hd rfl (.inr ⟨rfl, rfl, fun h => by have h := h.1; unfold EvI.at_ at h; omega⟩)
      refine hold_forkD (fun h9 => ?_) (fun h9 => ?_)
      ·
       refine hold_stop (fun hd hb => ?_)
       exact ok_leaf0 hd rfl (.inr ⟨rfl, rfl, fun h => by have h := h.1; unfold EvI.at_ at h; omega⟩)
      refine hold_forkD (fun h10 => ?_) (fun h10 => ?_)
      ·
       refine hold_stop (fun hd hb => ?_)
       exact ok_leaf0 hd rfl (.inr ⟨rfl, rfl, fun h => by have h := h.1; unfold EvI.at_ at h; omega⟩)
      refine hzr (fun h11 => by omega) ?_
      refine hold_stop (fun hd hb => ?_)
      refine ok_call0 hd (emf e) rfl ?_
      rintro x G (⟨rfl, rfl, mf⟩ | ⟨rfl, rfl, mf⟩) <;> refine ⟨rfl, fun g hg => (by cases hg), ?_⟩
      ·
       refine ok_sk (.stop []) (S := .stop (Hd.leaf (.bool true)) [] ([])) (by kernel_rfl) ?_
       refine hold_stop (fun hd hb => ?_)
       exact ok_leaf0 hd rfl (.inl ⟨rfl, rfl, ⟨by unfold EvI.at_; omega, mf⟩⟩)
      refine ok_sk (.stop []) (S := .stop (Hd.leaf (.bool false)) [] ([])) (by kernel_rfl) ?_
      refine hold_stop (fun hd hb => ?_)
      exact ok_leaf0 hd rfl (.inr ⟨rfl, rfl, fun h => mf h.2⟩)
     refine hold_stop (fun hd hb => ?_)
     exact ok_leaf0 hd rfl (.inr ⟨rfl, rfl, fun h => by have h := h.1; unfold EvI.at_ at h; omega⟩)
    refine hold_forkD (fun h5 => ?_) (fun h5 => ?_)
    ·
     refine hl (bc fun h6 => by omega) ?_
     refine hold_forkD (fun h6 => ?_) (fun h6 => ?_)
     ·
      refine hold_forkD (fun h7 => ?_) (fun h7 => ?_)
      ·
       refine hold_stop (fun hd hb => ?_)
       exact ok_leaf0 hd rfl (.inr ⟨rfl, rfl, fun h => by have h := h.1; unfold EvI.at_ at h; omega⟩)
      refine hold_forkD (fun h8 => ?_) (fun h8 => ?_)
      ·
       refine hold_stop (fun hd hb => ?_)
       exact ok_leaf0 hd rfl (.inr ⟨rfl, rfl, fun h => by have h := h.1; unfold EvI.at_ at h; omega⟩)
      refine hold_forkD (fun h9 => ?_) (fun h9 => ?_)
      ·
       refine hold_stop (fun hd hb => ?_)
       exact ok_leaf0 hd rfl (.inr ⟨rfl, rfl, fun h => by have h := h.1; unfold EvI.at_ at h; omega⟩)
      refine hold_forkD (fun h10 => ?_) (fun h10 => ?_)
      ·
       refine hold_stop (fun hd hb => ?_)
       exact ok_leaf0 hd rfl (.inr ⟨rfl, rfl, fun h => by have h := h.1; unfold EvI.at_ at h; omega⟩)
      refine hzr (fun h11 => by omega) ?_
      refine hold_forkD (fun h11 => ?_) (fun h11 => ?_)
      ·
       refine hold_stop (fun hd hb => ?_)
       exact ok_leaf0 hd rfl (.inr ⟨rfl, rfl, fun h => by have h := h.1; unfold EvI.at_ at h; omega⟩)
      refine hold_stop (fun hd hb => ?_)
      refine ok_call0 hd (emf e) rfl ?_
      rintro x G (⟨rfl, rfl, mf⟩ | ⟨rfl, rfl, mf⟩) <;> refine ⟨rfl, fun g hg => (by cases hg), ?_⟩
      ·
       refine ok_sk (.stop []) (S := .stop (Hd.leaf (.bool true)) [] ([])) (by kernel_rfl) ?_
       refine hold_stop (fun hd hb => ?_)
       exact ok_leaf0 hd rfl (.inl ⟨rfl, rfl, ⟨by unfold EvI.at_; omega, mf⟩⟩)
      refine ok_sk (.stop []) (S := .stop (Hd.leaf (.bool false)) [] ([])) (by kernel_rfl) ?_
      refine hold_stop (fun hd hb => ?_)
      exact ok_leaf0 hd rfl (.inr ⟨rfl, rfl, fun h => mf h.2⟩)
     refine hold_stop (fun hd hb => ?_)
     exact ok_leaf0 hd rfl (.inr ⟨rfl, rfl, fun h => by have h := h.1; unfold EvI.at_ at h; omega⟩)
    refine hold_forkD (fun h6 => ?_) (fun h6 => ?_)
    ·
     refine hl (bc fun h7 => by omega) ?_
     refine hold_forkD (fun h7 => ?_) (fun h7 => ?_)
     ·
      refine hold_forkD (fun h8 => ?_) (fun h8 => ?_)
      ·
       refine hold_stop (fun hd hb => ?_)
       exact ok_leaf0 hd rfl (.inr ⟨rfl, rfl, fun h => by have h := h.1; unfold EvI.at_ at h; omega⟩)
      refine hold_forkD (fun h9 => ?_) (fun h9 => ?_)
      ·
       refine hold_stop (fun hd hb => ?_)
       exact ok_leaf0 hd rfl (.inr ⟨rfl, rfl, fun h => by have h := h.1; unfold EvI.at_ at h; omega⟩)
      refine hold_forkD (fun h10 => ?_) (fun h10 => ?_)
      ·
       refine hold_stop (fun hd hb => ?_)
       exact ok_leaf0 hd rfl (.inr ⟨rfl, rfl, fun h => by have h := h.1; unfold EvI.at_ at h; omega⟩)
      refine hzr (fun h11 => by omega) ?_
      refine hold_forkD (fun h11 => ?_) (fun h11 => ?_)
      ·
       refine hold_stop (fun hd hb => ?_)
       exact ok_leaf0 hd rfl (.inr ⟨rfl, rfl, fun h => by have h := h.1; unfold EvI.at_ at h; omega⟩)
      refine hold_forkD (fun h12 => ?_) (fun h12 => ?_)
      ·
       refine hold_stop (fun hd hb => ?_)
       exact ok_leaf0 hd rfl (.inr ⟨rfl, rfl, fun h => by have h := h.1; unfold EvI.at_ at h; omega⟩)
      refine hold_stop (fun hd hb => ?_)
      refine ok_call0 hd (emf e) rfl ?_
      rintro x G (⟨rfl, rfl, mf⟩ | ⟨rfl, rfl, mf⟩) <;> refine ⟨rfl, fun g hg => (by cases hg), ?_⟩
      ·
       refine ok_sk (.stop []) (S := .stop (Hd.leaf (.bool true)) [] ([])) (by kernel_rfl) ?_
       refine hold_stop (fun hd hb => ?_)
       exact ok_leaf0 hd rfl (.inl ⟨rfl, rfl, ⟨by unfold EvI.at_; omega, mf⟩⟩)
      refine ok_sk (.stop []) (S := .stop (Hd.leaf (.bool false)) [] ([])) (by kernel_rfl) ?_
      refine hold_stop (fun hd hb => ?_)
      exact ok_leaf0 hd rfl (.inr ⟨rfl, rfl, fun h => mf h.2⟩)
     refine hold_stop (fun hd hb => ?_)
     exact ok_leaf0 hd rfl (.inr ⟨rfl, rfl, fun h => by have h := h.1; unfold EvI.at_ at h; omega⟩)
    refine hold_forkD (fun h7 => ?_) (fun h7 => ?_)
    ·
     refine hl (bc fun h8 => by omega) ?_
     refine hold_forkD (fun h8 => ?_) (fun h8 => ?_)
     ·
      refine hold_forkD (fun h9 => ?_) (fun h9 => ?_)
      ·
       refine hold_stop (fun hd hb => ?_)
       exact ok_leaf0 hd rfl (.inr ⟨rfl, rfl, fun h => by have h := h.1; unfold EvI.at_ at h; omega⟩)
      refine hold_forkD (fun h10 => ?_) (fun h10 => ?_)
      ·
       refine hold_stop (fun hd hb => ?_)
       exact ok_leaf0 hd rfl (.inr ⟨rfl, rfl, fun h => by have h := h.1; unfold EvI.at_ at h; omega⟩)
      refine hzr (fun h11 => by omega) ?_
      refine hold_forkD (fun h11 => ?_) (fun h11 => ?_)
      ·
       refine hold_stop (fun hd hb => ?_)
       exact ok_leaf0 hd rfl (.inr ⟨rfl, rfl, fun h => by have h := h.1; unfold EvI.at_ at h; omega⟩)
      refine hold_forkD (fun h12 => ?_) (fun h12 => ?_)
      ·
       refine hold_stop (fun hd hb => ?_)
       exact ok_leaf0 hd rfl (.inr ⟨rfl, rfl, fun h => by have h := h.1; unfold EvI.at_ at h; omega⟩)
      refine hold_forkD (fun h13 => ?_) (fun h13 => ?_)
      ·
       refine hold_stop (fun hd hb => ?_)
       exact ok_leaf0 hd rfl (.inr ⟨rfl, rfl, fun h => by have h := h.1; unfold EvI.at_ at h; omega⟩)
      refine hold_stop (fun hd hb => ?_)
      refine ok_call0 hd (emf e) rfl ?_
      rintro x G (⟨rfl, rfl, mf⟩ | ⟨rfl, rfl, mf⟩) <;> refine ⟨rfl, fun g hg => (by cases hg), ?_⟩
      ·
       refine ok_sk (.stop []) (S := .stop (Hd.leaf (.bool true)) [] ([])) (by kernel_rfl) ?_
       refine hold_stop (fun hd hb => ?_)
       exact ok_leaf0 hd rfl (.inl ⟨rfl, rfl, ⟨by unfold EvI.at_; omega, mf⟩⟩)
      refine ok_sk (.stop []) (S := .stop (Hd.leaf (.bool false)) [] ([])) (by kernel_rfl) ?_
      refine hold_stop (fun hd hb => ?_)
      exact ok_leaf0 hd rfl (.inr ⟨rfl, rfl, fun h => mf h.2⟩)
     refine hold_stop (fun hd hb => ?_)
     exact ok_leaf0 hd rfl (.inr ⟨rfl, rfl, fun h => by have h := h.1; unfold EvI.at_ at h; omega⟩)
    refine hold_forkD (fun h8 => ?_) (fun h8 => ?_)
    ·
     refine hl (bc fun h9 => by omega) ?_
     refine hold_forkD (fun h9 => ?_) (fun h9 => ?_)
     ·
      refine hold_forkD (fun h10 => ?_) (fun h10 => ?_)
      ·
       refine hold_stop (fun hd hb => ?_)
       exact ok_leaf0 hd rfl (.inr ⟨rfl, rfl, fun h => by have h := h.1; unfold EvI.at_ at h; omega⟩)
      refine hzr (fun h11 => by omega) ?_
      refine hold_forkD (fun h11 => ?_) (fun h11 => ?_)
      ·
       refine hold_stop (fun hd hb => ?_)
       exact ok_leaf0 hd rfl (.inr ⟨rfl, rfl, fun h => by have h := h.1; unfold EvI.at_ at h; omega⟩)
      refine hold_forkD (fun h12 => ?_) (fun h12 => ?_)
      ·
       refine hold_stop (fun hd hb => ?_)
       exact ok_leaf0 hd rfl (.inr ⟨rfl, rfl, fun h => by have h := h.1; unfold EvI.at_ at h; omega⟩)
      refine hold_forkD (fun h13 => ?_) (fun h13 => ?_)
      ·
       refine hold_stop (fun hd hb => ?_)
       exact ok_leaf0 hd rfl (.inr ⟨rfl, rfl, fun h => by have h := h.1; unfold EvI.at_ at h; omega⟩)
      refine hold_forkD (fun h14 => ?_) (fun h14 => ?_)
      ·
       refine hold_stop (fun hd hb => ?_)
       exact ok_leaf0 hd rfl (.inr ⟨rfl, rfl, fun h => by have h := h.1; unfold EvI.at_ at h; omega⟩)
      refine hold_stop (fun hd hb => ?_)
      refine ok_call0 hd (emf e) rfl ?_
      rintro x G (⟨rfl, rfl, mf⟩ | ⟨rfl, rfl, mf⟩) <;> refine ⟨rfl, fun g hg => (by cases hg), ?_⟩
      ·
       refine ok_sk (.stop []) (S := .stop (Hd.leaf (.bool true)) [] ([])) (by kernel_rfl) ?_
       refine hold_stop (fun hd hb => ?_)
       exact ok_leaf0 hd rfl (.inl ⟨rfl, rfl, ⟨by unfold EvI.at_; omega, mf⟩⟩)
      refine ok_sk (.stop []) (S := .stop (Hd.leaf (.bool false)) [] ([])) (by kernel_rfl) ?_
      refine hold_stop (fun hd hb => ?_)
      exact ok_leaf0 hd rfl (.inr ⟨rfl, rfl, fun h => mf h.2⟩)
     refine hold_stop (fun hd hb => ?_)
     exact ok_leaf0 hd rfl (.inr ⟨rfl, rfl, fun h => by have h := h.1; unfold EvI.at_ at h; omega⟩)
    refine hl (bc fun h9 => by omega) ?_
    refine hl (bc fun h9 => by omega) ?_
    refine hold_forkD (fun h9 => ?_) (fun h9 => ?_)
    ·
     refine hzr (fun h10 => by omega) ?_
     refine hold_forkD (fun h10 => ?_) (fun h10 => ?_)
     ·
      refine hold_stop (fun hd hb => ?_)
      exact ok_leaf0 hd rfl (.inr ⟨rfl, rfl, fun h => by have h := h.1; unfold EvI.at_ at h; omega⟩)
     refine hold_forkD (fun h11 => ?_) (fun h11 => ?_)
     ·
      refine hold_stop (fun hd hb => ?_)
      exact ok_leaf0 hd rfl (.inr ⟨rfl, rfl, fun h => by have h := h.1; unfold EvI.at_ at h; omega⟩)
     refine hold_forkD (fun h12 => ?_) (fun h12 => ?_)
     ·
      refine hold_stop (fun hd hb => ?_)
      exact ok_leaf0 hd rfl (.inr ⟨rfl, rfl, fun h => by have h := h.1; unfold EvI.at_ at h; omega⟩)
     refine hold_forkD (fun h13 => ?_) (fun h13 => ?_)
     ·
      refine hold_stop (fun hd hb => ?_)
      exact ok_leaf0 hd rfl (.inr ⟨rfl, rfl, fun h => by have h := h.1; unfold EvI.at_ at h; omega⟩)
     refine hold_forkD (fun h14 => ?_) (fun h14 => ?_)
     ·
      refine hold_stop (fun hd hb => ?_)
      exact ok_leaf0 hd rfl (.inr ⟨rfl, rfl, fun h => by have h := h.1; unfold EvI.at_ at h; omega⟩)
     refine hold_stop (fun hd hb => ?_)
     refine ok_call0 hd (emf e) rfl ?_
     rintro x G (⟨rfl, rfl, mf⟩ | ⟨rfl, rfl, mf⟩) <;> refine ⟨rfl, fun g hg => (by cases hg), ?_⟩
     ·
      refine ok_sk (.stop []) (S := .stop (Hd.leaf (.bool true)) [] ([])) (by kernel_rfl) ?_
      refine hold_stop (fun hd hb => ?_)
      exact ok_leaf0 hd rfl (.inl ⟨rfl, rfl, ⟨by unfold EvI.at_; omega, mf⟩⟩)
     refine ok_sk (.stop []) (S := .stop (Hd.leaf (.bool false)) [] ([])) (by kernel_rfl) ?_
     refine hold_stop (fun hd hb => ?_)
     exact ok_leaf0 hd rfl (.inr ⟨rfl, rfl, fun h => mf h.2⟩)
    refine hold_stop (fun hd hb => ?_)
    exact ok_leaf0 hd rfl (.inr ⟨rfl, rfl, fun h => by have h := h.1; unfold EvI.at_ at h; omega⟩)
   refine hold_stop (fun hd hb => ?_)
   exact ok_leaf0 hd rfl (.inr ⟨rfl, rfl, fun h => by have h := h.1; unfold EvI.at_ at h; omega⟩)
  refine hold_stop (fun hd hb => ?_)
  exact ok_leaf0 hd rfl (.inr ⟨rfl, rfl, fun h => by have h := h.1; unfold EvI.at_ at h; omega⟩)
end Go.Proofs.Ytjihbjjekhncaaa
namespace Go.Proofs.Ytjihbjjekhncaaa
open Go Go.RowKit Sv
set_option linter.unusedVariables false
set_option maxRecDepth 100000
set_option maxHeartbeats 0
/-- what an event's numbers may be. -/
def EvI.rng (e : EvI) : Prop := (0 ≤ e.s ∧ e.s ≤ 18446744073709551615) ∧ (0 ≤ e.d0 ∧ e.d0 ≤ 18446744073709551615) ∧ (0 ≤ e.d1 ∧ e.d1 ≤ 18446744073709551615) ∧ (0 ≤ e.d2 ∧ e.d2 ≤ 18446744073709551615) ∧ (0 ≤ e.d3 ∧ e.d3 ≤ 18446744073709551615) ∧ (0 ≤ e.d4 ∧ e.d4 ≤ 18446744073709551615) ∧ (0 ≤ e.d5 ∧ e.d5 ≤ 18446744073709551615) ∧ (0 ≤ e.k ∧ e.k ≤ 255) ∧ (0 ≤ e.n ∧ e.n ≤ 18446744073709551615) ∧ (0 ≤ e.r ∧ e.r ≤ 18446744073709551615) ∧ (0 ≤ e.f ∧ e.f ≤ 18446744073709551615)
def be8 (x : Int) : List Int := [x / 72057594037927936 % 256, x / 281474976710656 % 256, x / 1099511627776 % 256, x / 4294967296 % 256, x / 16777216 % 256, x / 65536 % 256, x / 256 % 256, x % 256]
def be8d (x : Int) : List Int := [x / 72057594037927936 % 256, x / 281474976710656 % 256, x / 1099511627776 % 256, x / 4294967296 % 256, x / 16777216 % 256, x / 65536 % 256, x / 256 % 256, x / 1 % 256]
/-- an event's bytes. -/
def EvI.by (e : EvI) : List Int := [e.o % 256] ++ be8 e.s ++ be8d e.d0 ++ be8d e.d1 ++ be8d e.d2 ++ be8d e.d3 ++ be8d e.d4 ++ be8d e.d5 ++ [e.k % 256] ++ be8 e.n ++ [e.t % 256] ++ be8 e.a ++ be8 e.r ++ be8 e.f
def cell8 (b : Int) : AV := .sint .u8 b
theorem eput (e : EvI) (hr : e.rng) : Runs Try.prog 23 [.agg e.row] fun x G => (x = .nilSlice ∧ G = [] ∧ ¬ e.may) ∨ (x = .slice 0 0 91 91 false ∧ G = [.cells (some 1) (e.by.map cell8)] ∧ e.may) := by
  unfold EvI.rng at hr
  refine runs_treeF plain mixed (fun g => Nat.beq g 21) (fun _ => false) 40 ?_
  refine ok_sk (.stop []) (S := .stop (Hd.call 21 [.agg [.sint .i64 e.o, .sint .u64 e.s, .sint .u64 e.d0, .sint .u64 e.d1, .sint .u64 e.d2, .sint .u64 e.d3, .sint .u64 e.d4, .sint .u64 e.d5, .sint .u8 e.k, .sint .u64 e.n, .sint .i64 e.t, .sint .i64 e.a, .sint .u64 e.r, .sint .u64 e.f]]) [] ([])) (by kernel_rfl) ?_
  refine hold_stop (fun hd hb => ?_)
  refine ok_call0 hd (emay e) rfl ?_
  rintro x G (⟨rfl, rfl, my⟩ | ⟨rfl, rfl, my⟩) <;> refine ⟨rfl, fun g hg => (by cases hg), ?_⟩
  have m1 := my.1
  have m2 := my.2
  unfold EvI.at_ at m1
  unfold EvI.mf at m2
  ·
   refine ok_sk (.l (.r (.r (.l (.r (.r (.l (.r (.l (.r (.r (.r (.stop [91]))))))))))))) (S := .left (decide (0 ≤ e.o ∧ e.o ≤ 18446744073709551615)) (.right (decide (255 < e.o)) (.right (decide (18446744073709551615 < e.s)) (.left (decide (0 ≤ e.k ∧ e.k ≤ 18446744073709551615)) (.right (decide (255 < e.k)) (.right (decide (18446744073709551615 < e.n)) (.left (decide (0 ≤ e.t ∧ e.t ≤ 18446744073709551615)) (.right (decide (255 < e.t)) (.left (decide (0 ≤ e.a ∧ e.a ≤ 18446744073709551615)) (.right (decide (18446744073709551615 < e.a)) (.right (decide (18446744073709551615 < e.r)) (.right (decide (18446744073709551615 < e.f)) (.stop (Hd.leaf (.slice 91 0 91 91 false)) [91] ([(some (Blk.cells 4 (some 1) [.sint .u8 (e.o % 256), .sint .u8 (e.s / 72057594037927936 % 256), .sint .u8 (e.s / 281474976710656 % 256), .sint .u8 (e.s / 1099511627776 % 256), .sint .u8 (e.s / 4294967296 % 256), .sint .u8 (e.s / 16777216 % 256), .sint .u8 (e.s / 65536 % 256), .sint .u8 (e.s / 256 % 256), .sint .u8 (e.s % 256), .sint .u8 (e.d0 / 72057594037927936 % 256), .sint .u8 (e.d0 / 281474976710656 % 256), .sint .u8 (e.d0 / 1099511627776 % 256), .sint .u8 (e.d0 / 4294967296 % 256), .sint .u8 (e.d0 / 16777216 % 256), .sint .u8 (e.d0 / 65536 % 256), .sint .u8 (e.d0 / 256 % 256), .sint .u8 (e.d0 / 1 % 256), .sint .u8 (e.d1 / 72057594037927936 % 256), .sint .u8 (e.d1 / 281474976710656 % 256), .sint .u8 (e.d1 / 1099511627776 % 256), .sint .u8 (e.d1 / 4294967296 % 256), .sint .u8 (e.d1 / 16777216 % 256), .sint .u8 (e.d1 / 65536 % 256), .sint .u8 (e.d1 / 256 % 256), .sint .u8 (e.d1 / 1 % 256), .sint .u8 (e.d2 / 72057594037927936 % 256), .sint .u8 (e.d2 / 281474976710656 % 256), .sint .u8 (e.d2 / 1099511627776 % 256), .sint .u8 (e.d2 / 4294967296 % 256), .sint .u8 (e.d2 / 16777216 % 256), .sint .u8 (e.d2 / 65536 % 256), .sint .u8 (e.d2 / 256 % 256), .sint .u8 (e.d2 / 1 % 256), .sint .u8 (e.d3 / 72057594037927936 % 256), .sint .u8 (e.d3 / 281474976710656 % 256), .sint .u8 (e.d3 / 1099511627776 % 256), .sint .u8 (e.d3 / 4294967296 % 256), .sint .u8 (e.d3 / 16777216 % 256), .sint .u8 (e.d3 / 65536 % 256), .sint .u8 (e.d3 / 256 % 256), .sint .u8 (e.d3 / 1 % 256), .sint .u8 (e.d4 / 72057594037927936 % 256), .sint .u8 (e.d4 / 281474976710656 % 256), .sint .u8 (e.d4 / 1099511627776 % 256), .sint .u8 (e.d4 / 4294967296 % 256), .sint .u8 (e.d4 / 16777216 % 256), .sint .u8 (e.d4 / 65536 % 256), .sint .u8 (e.d4 / 256 % 256), .sint .u8 (e.d4 / 1 % 256), .sint .u8 (e.d5 / 72057594037927936 % 256), .sint .u8 (e.d5 / 281474976710656 % 256), .sint .u8 (e.d5 / 1099511627776 % 256), .sint .u8 (e.d5 / 4294967296 % 256), .sint .u8 (e.d5 / 16777216 % 256), .sint .u8 (e.d5 / 65536 % 256), .sint .u8 (e.d5 / 256 % 256), .sint .u8 (e.d5 / 1 % 256), .sint .u8 (e.k % 256), .sint .u8 (e.n / 72057594037927936 % 256), .sint .u8 (e.n / 281474976710656 % 256), .sint .u8 (e.n / 1099511627776 % 256), .sint .u8 (e.n / 4294967296 % 256), .sint .u8 (e.n / 16777216 % 256), .sint .u8 (e.n / 65536 % 256), .sint .u8 (e.n / 256 % 256), .sint .u8 (e.n % 256), .sint .u8 (e.t % 256), .sint .u8 (e.a / 72057594037927936 % 256), .sint .u8 (e.a / 281474976710656 % 256), .sint .u8 (e.a / 1099511627776 % 256), .sint .u8 (e.a / 4294967296 % 256), .sint .u8 (e.a / 16777216 % 256), .sint .u8 (e.a / 65536 % 256), .sint .u8 (e.a / 256 % 256), .sint .u8 (e.a % 256), .sint .u8 (e.r / 72057594037927936 % 256), .sint .u8 (e.r / 281474976710656 % 256), .sint .u8 (e.r / 1099511627776 % 256), .sint .u8 (e.r / 4294967296 % 256), .sint .u8 (e.r / 16777216 % 256), .sint .u8 (e.r / 65536 % 256), .sint .u8 (e.r / 256 % 256), .sint .u8 (e.r % 256), .sint .u8 (e.f / 72057594037927936 % 256), .sint .u8 (e.f / 281474976710656 % 256), .sint .u8 (e.f / 1099511627776 % 256), .sint .u8 (e.f / 4294967296 % 256), .sint .u8 (e.f / 16777216 % 256), .sint .u8 (e.f / 65536 % 256), .sint .u8 (e.f / 256 % 256), .sint .u8 (e.f % 256)]), none)])))))))))))))) (by kernel_rfl) ?_
   refine hl (bc fun h1 => by omega) ?_
   refine hzr (fun h1 => by omega) ?_
   refine hzr (fun h1 => by omega) ?_
   refine hl (bc fun h1 => by omega) ?_
   refine hzr (fun h1 => by omega) ?_
   refine hzr (fun h1 => by omega) ?_
   refine hl (bc fun h1 => by omega) ?_
   refine hzr (fun h1 => by omega) ?_
   refine hl (bc fun h1 => by omega) ?_
   refine hzr (fun h1 => by omega) ?_
   refine hzr (fun h1 => by omega) ?_
   refine hzr (fun h1 => by omega) ?_
   refine hold_stop (fun hd hb => ?_)
   exact ok_leafC hd hb (y := .slice 0 0 91 91 false) (by simp [fitA]) rfl (.inr ⟨rfl, rfl, my⟩)
  refine ok_sk (.stop []) (S := .stop (Hd.leaf .nilSlice) [] ([])) (by kernel_rfl) ?_
  refine hold_stop (fun hd hb => ?_)
  exact ok_leaf0 hd rfl (.inl ⟨rfl, rfl, my⟩)
end Go.Proofs.Ytjihbjjekhncaaa
namespace Go.Proofs.Ytjihbjjekhncaaa
open Go Go.RowKit Sv
set_option linter.unusedVariables false
set_option maxRecDepth 100000
set_option maxHeartbeats 0
/-- bytes that came in. -/
def by8 (y : Nat → Nat) (i : Nat) : List AV := [.sint .u8 ((y i % 256 : Nat) : Int)]
def b8 (y : Nat → Nat) (i : Nat) : Int := ((y i % 256 : Nat) : Int)
def n8 (y : Nat → Nat) : Int := ((((((((0 + b8 y 0) * 256 + b8 y 1) * 256 + b8 y 2) * 256 + b8 y 3) * 256 + b8 y 4) * 256 + b8 y 5) * 256 + b8 y 6) * 256 + b8 y 7)
theorem b8_bd (y : Nat → Nat) (i : Nat) : 0 ≤ b8 y i ∧ b8 y i < 256 := by unfold b8; omega
theorem n8_bd (y : Nat → Nat) : 0 ≤ n8 y ∧ n8 y ≤ 18446744073709551615 := by
  have h0 := b8_bd y 0
  have h1 := b8_bd y 1
  have h2 := b8_bd y 2
  have h3 := b8_bd y 3
  have h4 := b8_bd y 4
  have h5 := b8_bd y 5
  have h6 := b8_bd y 6
  have h7 := b8_bd y 7
  unfold n8
  omega
theorem otake8 (n : Nat) (y : Nat → Nat) (hn : 8 ≤ n ∧ n ≤ 1099511627776) : Runs Try.prog 91 [.data 1 n (by8 y), .int .i64 0, .int .i64 8] fun x G => x = .tuple [.sint .u64 (n8 y), .int .i64 8, .int .i64 0] ∧ G = [] ∧ 0 ≤ n8 y ∧ n8 y ≤ 18446744073709551615 := by
  refine runs_treeF plain mixed (fun _ => false) (fun _ => false) 60 ?_
  refine ok_sk (.r (.l (.r (.l (.l (.l (.l (.l (.l (.l (.l (.l (.l (.l (.l (.l (.l (.l (.l (.l (.l (.l (.l (.l (.l (.l (.l (.l (.l (.l (.l (.l (.l (.l (.l (.l (.l (.l (.l (.l (.l (.l (.l (.r (.stop []))))))))))))))))))))))))))))))))))))))))))))) (S := .right (decide ((↑n : Int) < 0)) (.left (decide ((-9223372036854775808 : Int) ≤ (↑n : Int) - 0 ∧ (↑n : Int) - 0 ≤ 9223372036854775807)) (.right (decide ((↑n : Int) - 0 < 8)) (.left (decide ((0 : Int) ≤ 0 ∧ (0 : Int) ≤ 8 ∧ 8 ≤ (↑n : Int))) (.left (decide ((0 : Int) < 8)) (.left (decide ((0 : Int) ≤ 0 ∧ 0 < 8)) (.left (decide (0 ≤ v y 0 ∧ v y 0 ≤ 18446744073709551615)) (.left (decide ((0 : Int) ≤ 0 ∧ (0 : Int) = 0 ∧ (0 : Int) ≤ 18446744073709551360 ∧ 0 ≤ v y 0 ∧ v y 0 < 256)) (.left (decide ((1 : Int) < 8)) (.left (decide ((0 : Int) ≤ 1 ∧ 1 < 8)) (.left (decide ((0 : Int) ≤ ((0 : Int) + v y 0) * 256 ∧ ((0 : Int) + v y 0) * 256 ≤ 18446744073709551615)) (.left (decide (0 ≤ v y 1 ∧ v y 1 ≤ 18446744073709551615)) (.left (decide ((0 : Int) ≤ ((0 : Int) + v y 0) * 256 ∧ ((0 : Int) + v y 0) * 256 % 256 = 0 ∧ ((0 : Int) + v y 0) * 256 ≤ 18446744073709551360 ∧ 0 ≤ v y 1 ∧ v y 1 < 256)) (.left (decide ((2 : Int) < 8)) (.left (decide ((0 : Int) ≤ 2 ∧ 2 < 8)) (.left (decide ((0 : Int) ≤ (((0 : Int) + v y 0) * 256 + v y 1) * 256 ∧ (((0 : Int) + v y 0) * 256 + v y 1) * 256 ≤ 18446744073709551615)) (.left (decide (0 ≤ v y 2 ∧ v y 2 ≤ 18446744073709551615)) (.left (decide ((0 : Int) ≤ (((0 : Int) + v y 0) * 256 + v y 1) * 256 ∧ (((0 : Int) + v y 0) * 256 + v y 1) * 256 % 256 = 0 ∧ (((0 : Int) + v y 0) * 256 + v y 1) * 256 ≤ 18446744073709551360 ∧ 0 ≤ v y 2 ∧ v y 2 < 256)) (.left (decide ((3 : Int) < 8)) (.left (decide ((0 : Int) ≤ 3 ∧ 3 < 8)) (.left (decide ((0 : Int) ≤ ((((0 : Int) + v y 0) * 256 + v y 1) * 256 + v y 2) * 256 ∧ ((((0 : Int) + v y 0) * 256 + v y 1) * 256 + v y 2) * 256 ≤ 18446744073709551615)) (.left (decide (0 ≤ v y 3 ∧ v y 3 ≤ 18446744073709551615)) (.left (decide ((0 : Int) ≤ ((((0 : Int) + v y 0) * 256 + v y 1) * 256 + v y 2) * 256 ∧ ((((0 : Int) + v y 0) * 256 + v y 1) * 256 + v y 2) * 256 % 256 = 0 ∧ ((((0 : Int) + v y 0) * 256 + v y 1) * 256 + v y 2) * 256 ≤ 18446744073709551360 ∧ 0 ≤ v y 3 ∧ v y 3 < 256)) (.left (decide ((4 : Int) < 8)) (.left (decide ((0 : Int) ≤ 4 ∧ 4 < 8)) (.left (decide ((0 : Int) ≤ (((((0 : Int) + v y 0) * 256 + v y 1) * 256 + v y 2) * 256 + v y 3) * 256 ∧ (((((0 : Int) + v y 0) * 256 + v y 1) * 256 + v y 2) * 256 + v y 3) * 256 ≤ 18446744073709551615)) (.left (decide (0 ≤ v y 4 ∧ v y 4 ≤ 18446744073709551615)) (.left (decide ((0 : Int) ≤ (((((0 : Int) + v y 0) * 256 + v y 1) * 256 + v y 2) * 256 + v y 3) * 256 ∧ (((((0 : Int) + v y 0) * 256 + v y 1) * 256 + v y 2) * 256 + v y 3) * 256 % 256 = 0 ∧ (((((0 : Int) + v y 0) * 256 + v y 1) * 256 + v y 2) * 256 + v y 3) * 256 ≤ 18446744073709551360 ∧ 0 ≤ v y 4 ∧ v y 4 < 256)) (.left (decide ((5 : Int) < 8)) (.left (decide ((0 : Int) ≤ 5 ∧ 5 < 8)) (.left (decide ((0 : Int) ≤ ((((((0 : Int) + v y 0) * 256 + v y 1) * 256 + v y 2) * 256 + v y 3) * 256 + v y 4) * 256 ∧ ((((((0 : Int) + v y 0) * 256 + v y 1) * 256 + v y 2) * 256 + v y 3) * 256 + v y 4) * 256 ≤ 18446744073709551615)) (.left (decide (0 ≤ v y 5 ∧ v y 5 ≤ 18446744073709551615)) (.left (decide ((0 : Int) ≤ ((((((0 : Int) + v y 0) * 256 + v y 1) * 256 + v y 2) * 256 + v y 3) * 256 + v y 4) * 256 ∧ ((((((0 : Int) + v y 0) * 256 + v y 1) * 256 + v y 2) * 256 + v y 3) * 256 + v y 4) * 256 % 256 = 0 ∧ ((((((0 : Int) + v y 0) * 256 + v y 1) * 256 + v y 2) * 256 + v y 3) * 256 + v y 4) * 256 ≤ 18446744073709551360 ∧ 0 ≤ v y 5 ∧ v y 5 < 256)) (.left (decide ((6 : Int) < 8)) (.left (decide ((0 : Int) ≤ 6 ∧ 6 < 8)) (.left (decide ((0 : Int) ≤ (((((((0 : Int) + v y 0) * 256 + v y 1) * 256 + v y 2) * 256 + v y 3) * 256 + v y 4) * 256 + v y 5) * 256 ∧ (((((((0 : Int) + v y 0) * 256 + v y 1) * 256 + v y 2) * 256 + v y 3) * 256 + v y 4) * 256 + v y 5) * 256 ≤ 18446744073709551615)) (.left (decide (0 ≤ v y 6 ∧ v y 6 ≤ 18446744073709551615)) (.left (decide ((0 : Int) ≤ (((((((0 : Int) + v y 0) * 256 + v y 1) * 256 + v y 2) * 256 + v y 3) * 256 + v y 4) * 256 + v y 5) * 256 ∧ (((((((0 : Int) + v y 0) * 256 + v y 1) * 256 + v y 2) * 256 + v y 3) * 256 + v y 4) * 256 + v y 5) * 256 % 256 = 0 ∧ (((((((0 : Int) + v y 0) * 256 + v y 1) * 256 + v y 2) * 256 + v y 3) * 256 + v y 4) * 256 + v y 5) * 256 ≤ 18446744073709551360 ∧ 0 ≤ v y 6 ∧ v y 6 < 256)) (.left (decide ((7 : Int) < 8)) (.left (decide ((0 : Int) ≤ 7 ∧ 7 < 8)) (.left (decide ((0 : Int) ≤ ((((((((0 : Int) + v y 0) * 256 + v y 1) * 256 + v y 2) * 256 + v y 3) * 256 + v y 4) * 256 + v y 5) * 256 + v y 6) * 256 ∧ ((((((((0 : Int) + v y 0) * 256 + v y 1) * 256 + v y 2) * 256 + v y 3) * 256 + v y 4) * 256 + v y 5) * 256 + v y 6) * 256 ≤ 18446744073709551615)) (.left (decide (0 ≤ v y 7 ∧ v y 7 ≤ 18446744073709551615)) (.left (decide ((0 : Int) ≤ ((((((((0 : Int) + v y 0) * 256 + v y 1) * 256 + v y 2) * 256 + v y 3) * 256 + v y 4) * 256 + v y 5) * 256 + v y 6) * 256 ∧ ((((((((0 : Int) + v y 0) * 256 + v y 1) * 256 + v y 2) * 256 + v y 3) * 256 + v y 4) * 256 + v y 5) * 256 + v y 6) * 256 % 256 = 0 ∧ ((((((((0 : Int) + v y 0) * 256 + v y 1) * 256 + v y 2) * 256 + v y 3) * 256 + v y 4) * 256 + v y 5) * 256 + v y 6) * 256 ≤ 18446744073709551360 ∧ 0 ≤ v y 7 ∧ v y 7 < 256)) (.right (decide ((8 : Int) < 8)) (.stop (Hd.leaf (.tuple [.sint .u64 (((((((((0 : Int) + (↑(y 0 % 256) : Int)) * 256 + (↑(y 1 % 256) : Int)) * 256 + (↑(y 2 % 256) : Int)) * 256 + (↑(y 3 % 256) : Int)) * 256 + (↑(y 4 % 256) : Int)) * 256 + (↑(y 5 % 256) : Int)) * 256 + (↑(y 6 % 256) : Int)) * 256 + (↑(y 7 % 256) : Int)), .int .i64 (8 : Int), .int .i64 (0 : Int)])) [] ([])))))))))))))))))))))))))))))))))))))))))))))) (by kernel_rfl) ?_
  refine hzr (fun h0 => by omega) ?_
  refine hl (bc fun h0 => by (try unfold v at h0); omega) ?_
  refine hzr (fun h0 => by omega) ?_
  refine hl (bc fun h0 => by (try unfold v at h0); omega) ?_
  refine hl (bc fun h0 => by (try unfold v at h0); omega) ?_
  refine hl (bc fun h0 => by (try unfold v at h0); omega) ?_
  refine hl (bc fun h0 => by (try unfold v at h0); omega) ?_
  refine hl (bc fun h0 => by (try unfold v at h0); omega) ?_
  refine hl (bc fun h0 => by (try unfold v at h0); omega) ?_
  refine hl (bc fun h0 => by (try unfold v at h0); omega) ?_
  refine hl (bc fun h0 => by (try unfold v at h0); omega) ?_
  refine hl (bc fun h0 => by (try unfold v at h0); omega) ?_
  refine hl (bc fun h0 => by (try unfold v at h0); omega) ?_
  refine hl (bc fun h0 => by (try unfold v at h0); omega) ?_
  refine hl (bc fun h0 => by (try unfold v at h0); omega) ?_
  refine hl (bc fun h0 => by (try unfold v at h0); omega) ?_
  refine hl (bc fun h0 => by (try unfold v at h0); omega) ?_
  refine hl (bc fun h0 => by (try unfold v at h0); omega) ?_
  refine hl (bc fun h0 => by (try unfold v at h0); omega) ?_
  refine hl (bc fun h0 => by (try unfold v at h0); omega) ?_
  refine hl (bc fun h0 => by (try unfold v at h0); omega) ?_
  refine hl (bc fun h0 => by (try unfold v at h0); omega) ?_
  refine hl (bc fun h0 => by (try unfold v at h0); omega) ?_
  refine hl (bc fun h0 => by (try unfold v at h0); omega) ?_
  refine hl (bc fun h0 => by (try unfold v at h0); omega) ?_
  refine hl (bc fun h0 => by (try unfold v at h0); omega) ?_
  refine hl (bc fun h0 => by (try unfold v at h0); omega) ?_
  refine hl (bc fun h0 => by (try unfold v at h0); omega) ?_
  refine hl (bc fun h0 => by (try unfold v at h0); omega) ?_
  refine hl (bc fun h0 => by (try unfold v at h0); omega) ?_
  refine hl (bc fun h0 => by (try unfold v at h0); omega) ?_
  refine hl (bc fun h0 => by (try unfold v at h0); omega) ?_
  refine hl (bc fun h0 => by (try unfold v at h0); omega) ?_
  refine hl (bc fun h0 => by (try unfold v at h0); omega) ?_
  refine hl (bc fun h0 => by (try unfold v at h0); omega) ?_
  refine hl (bc fun h0 => by (try unfold v at h0); omega) ?_
  refine hl (bc fun h0 => by (try unfold v at h0); omega) ?_
  refine hl (bc fun h0 => by (try unfold v at h0); omega) ?_
  refine hl (bc fun h0 => by (try unfold v at h0); omega) ?_
  refine hl (bc fun h0 => by (try unfold v at h0); omega) ?_
  refine hl (bc fun h0 => by (try unfold v at h0); omega) ?_
  refine hl (bc fun h0 => by (try unfold v at h0); omega) ?_
  refine hl (bc fun h0 => by (try unfold v at h0); omega) ?_
  refine hzr (fun h0 => by omega) ?_
  refine hold_stop (fun hd hb => ?_)
  exact ok_leaf0 hd rfl ⟨rfl, rfl, n8_bd y⟩
theorem otake1 (n : Nat) (y : Nat → Nat) (hn : 1 ≤ n ∧ n ≤ 1099511627776) : Runs Try.prog 91 [.data 1 n (by8 y), .int .i64 0, .int .i64 1] fun x G => x = .tuple [.sint .u64 (0 + b8 y 0), .int .i64 1, .int .i64 0] ∧ G = [] ∧ 0 ≤ b8 y 0 ∧ b8 y 0 < 256 := by
  refine runs_treeF plain mixed (fun _ => false) (fun _ => false) 60 ?_
  refine ok_sk (.r (.l (.r (.l (.l (.l (.l (.l (.r (.stop [])))))))))) (S := .right (decide ((↑n : Int) < 0)) (.left (decide ((-9223372036854775808 : Int) ≤ (↑n : Int) - 0 ∧ (↑n : Int) - 0 ≤ 9223372036854775807)) (.right (decide ((↑n : Int) - 0 < 1)) (.left (decide ((0 : Int) ≤ 0 ∧ (0 : Int) ≤ 1 ∧ 1 ≤ (↑n : Int))) (.left (decide ((0 : Int) < 1)) (.left (decide ((0 : Int) ≤ 0 ∧ 0 < 1)) (.left (decide (0 ≤ v y 0 ∧ v y 0 ≤ 18446744073709551615)) (.left (decide ((0 : Int) ≤ 0 ∧ (0 : Int) = 0 ∧ (0 : Int) ≤ 18446744073709551360 ∧ 0 ≤ v y 0 ∧ v y 0 < 256)) (.right (decide ((1 : Int) < 1)) (.stop (Hd.leaf (.tuple [.sint .u64 ((0 : Int) + (↑(y 0 % 256) : Int)), .int .i64 (1 : Int), .int .i64 (0 : Int)])) [] ([]))))))))))) (by kernel_rfl) ?_
  refine hzr (fun h0 => by omega) ?_
  refine hl (bc fun h0 => by (try unfold v at h0); omega) ?_
  refine hzr (fun h0 => by omega) ?_
  refine hl (bc fun h0 => by (try unfold v at h0); omega) ?_
  refine hl (bc fun h0 => by (try unfold v at h0); omega) ?_
  refine hl (bc fun h0 => by (try unfold v at h0); omega) ?_
  refine hl (bc fun h0 => by (try unfold v at h0); omega) ?_
  refine hl (bc fun h0 => by (try unfold v at h0); omega) ?_
  refine hzr (fun h0 => by omega) ?_
  refine hold_stop (fun hd hb => ?_)
  exact ok_leaf0 hd rfl ⟨rfl, rfl, b8_bd y 0⟩
def sh (y : Nat → Nat) (k i : Nat) : Nat := y (k + i)
def vecOf (y : Nat → Nat) : List AV := [.sint .u64 (n8 (sh y 0)), .sint .u64 (n8 (sh y 8)), .sint .u64 (n8 (sh y 16)), .sint .u64 (n8 (sh y 24)), .sint .u64 (n8 (sh y 32)), .sint .u64 (n8 (sh y 40))]
def vecPos (y : Nat → Nat) : Prop := 0 ≤ n8 (sh y 0) ∧ 0 ≤ n8 (sh y 8) ∧ 0 ≤ n8 (sh y 16) ∧ 0 ≤ n8 (sh y 24) ∧ 0 ≤ n8 (sh y 32) ∧ 0 ≤ n8 (sh y 40)
theorem vecPos_all (y : Nat → Nat) : vecPos y := ⟨(n8_bd _).1, (n8_bd _).1, (n8_bd _).1, (n8_bd _).1, (n8_bd _).1, (n8_bd _).1⟩
def vecMay (y : Nat → Nat) : Prop := n8 (sh y 0) ≤ 1099511627776 ∧ n8 (sh y 8) ≤ 1099511627776 ∧ n8 (sh y 16) ≤ 1099511627776 ∧ n8 (sh y 24) ≤ 1099511627776 ∧ n8 (sh y 32) ≤ 1099511627776 ∧ n8 (sh y 40) ≤ 1099511627776
theorem vmay (a b c d e f : Int) : Runs Try.prog 69 [.agg [.sint .u64 a, .sint .u64 b, .sint .u64 c, .sint .u64 d, .sint .u64 e, .sint .u64 f]] fun x G => G = [] ∧ ((x = .bool true ∧ a ≤ 1099511627776 ∧ b ≤ 1099511627776 ∧ c ≤ 1099511627776 ∧ d ≤ 1099511627776 ∧ e ≤ 1099511627776 ∧ f ≤ 1099511627776) ∨ (x = .bool false ∧ ¬ (a ≤ 1099511627776 ∧ b ≤ 1099511627776 ∧ c ≤ 1099511627776 ∧ d ≤ 1099511627776 ∧ e ≤ 1099511627776 ∧ f ≤ 1099511627776))) := by
  refine runs_treeF plain mixed (fun _ => false) (fun _ => false) 60 ?_
  refine ok_sk (.both (.stop []) (.both (.stop []) (.both (.stop []) (.both (.stop []) (.both (.stop []) (.both (.stop []) (.stop []))))))) (S := .fork (decide (1099511627776 < a)) (.stop (Hd.leaf (.bool false)) [] ([])) (.fork (decide (1099511627776 < b)) (.stop (Hd.leaf (.bool false)) [] ([])) (.fork (decide (1099511627776 < c)) (.stop (Hd.leaf (.bool false)) [] ([])) (.fork (decide (1099511627776 < d)) (.stop (Hd.leaf (.bool false)) [] ([])) (.fork (decide (1099511627776 < e)) (.stop (Hd.leaf (.bool false)) [] ([])) (.fork (decide (1099511627776 < f)) (.stop (Hd.leaf (.bool false)) [] ([])) (.stop (Hd.leaf (.bool true)) [] ([])))))))) (by kernel_rfl) ?_
  refine hold_forkD (fun h0 => ?_) (fun h0 => ?_)
  ·
   refine hold_stop (fun hd hb => ?_)
   exact ok_leaf0 hd rfl ⟨rfl, .inr ⟨rfl, by omega⟩⟩
  refine hold_forkD (fun h1 => ?_) (fun h1 => ?_)
  ·
   refine hold_stop (fun hd hb => ?_)
   exact ok_leaf0 hd rfl ⟨rfl, .inr ⟨rfl, by omega⟩⟩
  refine hold_forkD (fun h2 => ?_) (fun h2 => ?_)
  ·
   refine hold_stop (fun hd hb => ?_)
   exact ok_leaf0 hd rfl ⟨rfl, .inr ⟨rfl, by omega⟩⟩
  refine hold_forkD (fun h3 => ?_) (fun h3 => ?_)
  ·
   refine hold_stop (fun hd hb => ?_)
   exact ok_leaf0 hd rfl ⟨rfl, .inr ⟨rfl, by omega⟩⟩
  refine hold_forkD (fun h4 => ?_) (fun h4 => ?_)
  ·
   refine hold_stop (fun hd hb => ?_)
   exact ok_leaf0 hd rfl ⟨rfl, .inr ⟨rfl, by omega⟩⟩
  refine hold_forkD (fun h5 => ?_) (fun h5 => ?_)
  ·
   refine hold_stop (fun hd hb => ?_)
   exact ok_leaf0 hd rfl ⟨rfl, .inr ⟨rfl, by omega⟩⟩
  refine hold_stop (fun hd hb => ?_)
  exact ok_leaf0 hd rfl ⟨rfl, .inl ⟨rfl, by omega⟩⟩
theorem vof (y : Nat → Nat) : Runs Try.prog 55 [.data 1 48 (by8 y)] fun x G => G = [] ∧ ((x = .tuple [.agg (vecOf y), .int .i64 0] ∧ vecMay y) ∨ (x = .tuple [.agg [.int .u64 0, .int .u64 0, .int .u64 0, .int .u64 0, .int .u64 0, .int .u64 0], .int .i64 5] ∧ ¬ vecMay y)) := by
  refine runs_treeF plain mixed (fun g => Nat.beq g 69) (fun _ => false) 300 ?_
  refine ok_sk (.l (.l (.l (.l (.l (.l (.l (.l (.l (.l (.l (.l (.l (.l (.l (.l (.l (.l (.l (.l (.l (.l (.l (.l (.l (.l (.l (.l (.l (.l (.l (.l (.l (.l (.l (.l (.l (.l (.l (.l (.l (.l (.l (.l (.l (.l (.l (.l (.l (.l (.l (.l (.l (.l (.l (.l (.l (.l (.l (.l (.l (.l (.l (.l (.l (.l (.l (.l (.l (.l (.l (.l (.l (.l (.l (.l (.l (.l (.l (.l (.l (.l (.l (.l (.l (.l (.l (.l (.l (.l (.l (.l (.l (.l (.l (.l (.l (.l (.l (.l (.l (.l (.l (.l (.l (.l (.l (.l (.l (.l (.l (.l (.l (.l (.l (.l (.l (.l (.l (.l (.l (.l (.l (.l (.l (.l (.l (.l (.l (.l (.l (.l (.l (.l (.l (.l (.l (.l (.l (.l (.l (.l (.l (.l (.l (.l (.l (.l (.l (.l (.l (.l (.l (.l (.l (.l (.l (.l (.l (.l (.l (.l (.l (.l (.l (.l (.l (.l (.l (.l (.l (.l (.l (.l (.l (.l (.l (.l (.l (.l (.l (.l (.l (.l (.l (.l (.l (.l (.l (.l (.l (.l (.l (.l (.l (.l (.l (.l (.l (.l (.l (.l (.l (.l (.l (.l (.l (.l (.l (.l (.l (.l (.l (.l (.l (.l (.l (.l (.l (.l (.l (.l (.l (.l (.l (.l (.l (.l (.l (.l (.l (.l (.l (.l (.l (.r (.stop []))))))))))))))))))))))))))))))))))))))))))))))))))))))))))))))))))))))))))))))))))))))))))))))))))))))))))))))))))))))))))))))))))))))))))))))))))))))))))))))))))))))))))))))))))))))))))))))))))))))))))))))))))))))))))))))))))))))))))))) (S := .left (decide ((48 : Int) = 48)) (.left (decide ((0 : Int) < 48)) (.left (decide ((0 : Int) ≤ 0 ∧ 0 < 48)) (.left (decide (0 ≤ v y 0 ∧ v y 0 ≤ 18446744073709551615)) (.left (decide ((0 : Int) ≤ 0 ∧ (0 : Int) = 0 ∧ (0 : Int) ≤ 18446744073709551360 ∧ 0 ≤ v y 0 ∧ v y 0 < 256)) (.left (decide ((1 : Int) < 48)) (.left (decide ((0 : Int) ≤ 1 ∧ 1 < 48)) (.left (decide ((0 : Int) ≤ ((0 : Int) + v y 0) * 256 ∧ ((0 : Int) + v y 0) * 256 ≤ 18446744073709551615)) (.left (decide (0 ≤ v y 1 ∧ v y 1 ≤ 18446744073709551615)) (.left (decide ((0 : Int) ≤ ((0 : Int) + v y 0) * 256 ∧ ((0 : Int) + v y 0) * 256 % 256 = 0 ∧ ((0 : Int) + v y 0) * 256 ≤ 18446744073709551360 ∧ 0 ≤ v y 1 ∧ v y 1 < 256)) (.left (decide ((2 : Int) < 48)) (.left (decide ((0 : Int) ≤ 2 ∧ 2 < 48)) (.left (decide ((0 : Int) ≤ (((0 : Int) + v y 0) * 256 + v y 1) * 256 ∧ (((0 : Int) + v y 0) * 256 + v y 1) * 256 ≤ 18446744073709551615)) (.left (decide (0 ≤ v y 2 ∧ v y 2 ≤ 18446744073709551615)) (.left (decide ((0 : Int) ≤ (((0 : Int) + v y 0) * 256 + v y 1) * 256 ∧ (((0 : Int) + v y 0) * 256 + v y 1) * 256 % 256 = 0 ∧ (((0 : Int) + v y 0) * 256 + v y 1) * 256 ≤ 18446744073709551360 ∧ 0 ≤ v y 2 ∧ v y 2 < 256)) (.left (decide ((3 : Int) < 48)) (.left (decide ((0 : Int) ≤ 3 ∧ 3 < 48)) (.left (decide ((0 : Int) ≤ ((((0 : Int) + v y 0) * 256 + v y 1) * 256 + v y 2) * 256 ∧ ((((0 : Int) + v y 0) * 256 + v y 1) * 256 + v y 2) * 256 ≤ 18446744073709551615)) (.left (decide (0 ≤ v y 3 ∧ v y 3 ≤ 18446744073709551615)) (.left (decide ((0 : Int) ≤ ((((0 : Int) + v y 0) * 256 + v y 1) * 256 + v y 2) * 256 ∧ ((((0 : Int) + v y 0) * 256 + v y 1) * 256 + v y 2) * 256 % 256 = 0 ∧ ((((0 : Int) + v y 0) * 256 + v y 1) * 256 + v y 2) * 256 ≤ 18446744073709551360 ∧ 0 ≤ v y 3 ∧ v y 3 < 256)) (.left (decide ((4 : Int) < 48)) (.left (decide ((0 : Int) ≤ 4 ∧ 4 < 48)) (.left (decide ((0 : Int) ≤ (((((0 : Int) + v y 0) * 256 + v y 1) * 256 + v y 2) * 256 + v y 3) * 256 ∧ (((((0 : Int) + v y 0) * 256 + v y 1) * 256 + v y 2) * 256 + v y 3) * 256 ≤ 18446744073709551615)) (.left (decide (0 ≤ v y 4 ∧ v y 4 ≤ 18446744073709551615)) (.left (decide ((0 : Int) ≤ (((((0 : Int) + v y 0) * 256 + v y 1) * 256 + v y 2) * 256 + v y 3) * 256 ∧ (((((0 : Int) + v y 0) * 256 + v y 1) * 256 + v y 2) * 256 + v y 3) * 256 % 256 = 0 ∧ (((((0 : Int) + v y 0) * 256 + v y 1) * 256 + v y 2) * 256 + v y 3) * 256 ≤ 18446744073709551360 ∧ 0 ≤ v y 4 ∧ v y 4 < 256)) (.left (decide ((5 : Int) < 48)) (.left (decide ((0 : Int) ≤ 5 ∧ 5 < 48)) (.left (decide ((0 : Int) ≤ ((((((0 : Int) + v y 0) * 256 + v y 1) * 256 + v y 2) * 256 + v y 3) * 256 + v y 4) * 256 ∧ ((((((0 : Int) + v y 0) * 256 + v y 1) * 256 + v y 2) * 256 + v y 3) * 256 + v y 4) * 256 ≤ 18446744073709551615)) (.left (decide (0 ≤ v y 5 ∧ v y 5 ≤ 18446744073709551615)) (.left (decide ((0 : Int) ≤ ((((((0 : Int) + v y 0) * 256 + v y 1) * 256 + v y 2) * 256 + v y 3) * 256 + v y 4) * 256 ∧ ((((((0 : Int) + v y 0) * 256 + v y 1) * 256 + v y 2) * 256 + v y 3) * 256 + v y 4) * 256 % 256 = 0 ∧ ((((((0 : Int) + v y 0) * 256 + v y 1) * 256 + v y 2) * 256 + v y 3) * 256 + v y 4) * 256 ≤ 18446744073709551360 ∧ 0 ≤ v y 5 ∧ v y 5 < 256)) (.left (decide ((6 : Int) < 48)) (.left (decide ((0 : Int) ≤ 6 ∧ 6 < 48)) (.left (decide ((0 : Int) ≤ (((((((0 : Int) + v y 0) * 256 + v y 1) * 256 + v y 2) * 256 + v y 3) * 256 + v y 4) * 256 + v y 5) * 256 ∧ (((((((0 : Int) + v y 0) * 256 + v y 1) * 256 + v y 2) * 256 + v y 3) * 256 + v y 4) * 256 + v y 5) * 256 ≤ 18446744073709551615)) (.left (decide (0 ≤ v y 6 ∧ v y 6 ≤ 18446744073709551615)) (.left (decide ((0 : Int) ≤ (((((((0 : Int) + v y 0) * 256 + v y 1) * 256 + v y 2) * 256 + v y 3) * 256 + v y 4) * 256 + v y 5) * 256 ∧ (((((((0 : Int) + v y 0) * 256 + v y 1) * 256 + v y 2) * 256 + v y 3) * 256 + v y 4) * 256 + v y 5) * 256 % 256 = 0 ∧ (((((((0 : Int) + v y 0) * 256 + v y 1) * 256 + v y 2) * 256 + v y 3) * 256 + v y 4) * 256 + v y 5) * 256 ≤ 18446744073709551360 ∧ 0 ≤ v y 6 ∧ v y 6 < 256)) (.left (decide ((7 : Int) < 48)) (.left (decide ((0 : Int) ≤ 7 ∧ 7 < 48)) (.left (decide ((0 : Int) ≤ ((((((((0 : Int) + v y 0) * 256 + v y 1) * 256 + v y 2) * 256 + v y 3) * 256 + v y 4) * 256 + v y 5) * 256 + v y 6) * 256 ∧ ((((((((0 : Int) + v y 0) * 256 + v y 1) * 256 + v y 2) * 256 + v y 3) * 256 + v y 4) * 256 + v y 5) * 256 + v y 6) * 256 ≤ 18446744073709551615)) (.left (decide (0 ≤ v y 7 ∧ v y 7 ≤ 18446744073709551615)) (.left (decide ((0 : Int) ≤ ((((((((0 : Int) + v y 0) * 256 + v y 1) * 256 + v y 2) * 256 + v y 3) * 256 + v y 4) * 256 + v y 5) * 256 + v y 6) * 256 ∧ ((((((((0 : Int) + v y 0) * 256 + v y 1) * 256 + v y 2) * 256 + v y 3) * 256 + v y 4) * 256 + v y 5) * 256 + v y 6) * 256 % 256 = 0 ∧ ((((((((0 : Int) + v y 0) * 256 + v y 1) * 256 + v y 2) * 256 + v y 3) * 256 + v y 4) * 256 + v y 5) * 256 + v y 6) * 256 ≤ 18446744073709551360 ∧ 0 ≤ v y 7 ∧ v y 7 < 256)) (.left (decide ((8 : Int) < 48)) (.left (decide ((0 : Int) ≤ 8 ∧ 8 < 48)) (.left (decide (0 ≤ v y 8 ∧ v y 8 ≤ 18446744073709551615)) (.left (decide ((0 : Int) ≤ 0 ∧ (0 : Int) = 0 ∧ (0 : Int) ≤ 18446744073709551360 ∧ 0 ≤ v y 8 ∧ v y 8 < 256)) (.left (decide ((9 : Int) < 48)) (.left (decide ((0 : Int) ≤ 9 ∧ 9 < 48)) (.left (decide ((0 : Int) ≤ ((0 : Int) + v y 8) * 256 ∧ ((0 : Int) + v y 8) * 256 ≤ 18446744073709551615)) (.left (decide (0 ≤ v y 9 ∧ v y 9 ≤ 18446744073709551615)) (.left (decide ((0 : Int) ≤ ((0 : Int) + v y 8) * 256 ∧ ((0 : Int) + v y 8) * 256 % 256 = 0 ∧ ((0 : Int) + v y 8) * 256 ≤ 18446744073709551360 ∧ 0 ≤ v y 9 ∧ v y 9 < 256)) (.left (decide ((10 : Int) < 48)) (.left (decide ((0 : Int) ≤ 10 ∧ 10 < 48)) (.left (decide ((0 : Int) ≤ (((0 : Int) + v y 8) * 256 + v y 9) * 256 ∧ (((0 : Int) + v y 8) * 256 + v y 9) * 256 ≤ 18446744073709551615)) (.left (decide (0 ≤ v y 10 ∧ v y 10 ≤ 18446744073709551615)) (.left (decide ((0 : Int) ≤ (((0 : Int) + v y 8) * 256 + v y 9) * 256 ∧ (((0 : Int) + v y 8) * 256 + v y 9) * 256 % 256 = 0 ∧ (((0 : Int) + v y 8) * 256 + v y 9) * 256 ≤ 18446744073709551360 ∧ 0 ≤ v y 10 ∧ v y 10 < 256)) (.left (decide ((11 : Int) < 48)) (.left (decide ((0 : Int) ≤ 11 ∧ 11 < 48)) (.left (decide ((0 : Int) ≤ ((((0 : Int) + v y 8) * 256 + v y 9) * 256 + v y 10) * 256 ∧ ((((0 : Int) + v y 8) * 256 + v y 9) * 256 + v y 10) * 256 ≤ 18446744073709551615)) (.left (decide (0 ≤ v y 11 ∧ v y 11 ≤ 18446744073709551615)) (.left (decide ((0 : Int) ≤ ((((0 : Int) + v y 8) * 256 + v y 9) * 256 + v y 10) * 256 ∧ ((((0 : Int) + v y 8) * 256 + v y 9) * 256 + v y 10) * 256 % 256 = 0 ∧ ((((0 : Int) + v y 8) * 256 + v y 9) * 256 + v y 10) * 256 ≤ 18446744073709551360 ∧ 0 ≤ v y 11 ∧ v y 11 < 256)) (.left (decide ((12 : Int) < 48)) (.left (decide ((0 : Int) ≤ 12 ∧ 12 < 48)) (.left (decide ((0 : Int) ≤ (((((0 : Int) + v y 8) * 256 + v y 9) * 256 + v y 10) * 256 + v y 11) * 256 ∧ (((((0 : Int) + v y 8) * 256 + v y 9) * 256 + v y 10) * 256 + v y 11) * 256 ≤ 18446744073709551615)) (.left (decide (0 ≤ v y 12 ∧ v y 12 ≤ 18446744073709551615)) (.left (decide ((0 : Int) ≤ (((((0 : Int) + v y 8) * 256 + v y 9) * 256 + v y 10) * 256 + v y 11) * 256 ∧ (((((0 : Int) + v y 8) * 256 + v y 9) * 256 + v y 10) * 256 + v y 11) * 256 % 256 = 0 ∧ (((((0 : Int) + v y 8) * 256 + v y 9) * 256 + v y 10) * 256 + v y 11) * 256 ≤ 18446744073709551360 ∧ 0 ≤ v y 12 ∧ v y 12 < 256)) (.left (decide ((13 : Int) < 48)) (.left (decide ((0 : Int) ≤ 13 ∧ 13 < 48)) (.left (decide ((0 : Int) ≤ ((((((0 : Int) + v y 8) * 256 + v y 9) * 256 + v y 10) * 256 + v y 11) * 256 + v y 12) * 256 ∧ ((((((0 : Int) + v y 8) * 256 + v y 9) * 256 + v y 10) * 256 + v y 11) * 256 + v y 12) * 256 ≤ 18446744073709551615)) (.left (decide (0 ≤ v y 13 ∧ v y 13 ≤ 18446744073709551615)) (.left (decide ((0 : Int) ≤ ((((((0 : Int) + v y 8) * 256 + v y 9) * 256 + v y 10) * 256 + v y 11) * 256 + v y 12) * 256 ∧ ((((((0 : Int) + v y 8) * 256 + v y 9) * 256 + v y 10) * 256 + v y 11) * 256 + v y 12) * 256 % 256 = 0 ∧ ((((((0 : Int) + v y 8) * 256 + v y 9) * 256 + v y 10) * 256 + v y 11) * 256 + v y 12) * 256 ≤ 18446744073709551360 ∧ 0 ≤ v y 13 ∧ v y 13 < 256)) (.left (decide ((14 : Int) < 48)) (.left (decide ((0 : Int) ≤ 14 ∧ 14 < 48)) (.left (decide ((0 : Int) ≤ (((((((0 : Int) + v y 8) * 256 + v y 9) * 256 + v y 10) * 256 + v y 11) * 256 + v y 12) * 256 + v y 13) * 256 ∧ (((((((0 : Int) + v y 8) * 256 + v y 9) * 256 + v y 10) * 256 + v y 11) * 256 + v y 12) * 256 + v y 13) * 256 ≤ 18446744073709551615)) (.left (decide (0 ≤ v y 14 ∧ v y 14 ≤ 18446744073709551615)) (.left (decide ((0 : Int) ≤ (((((((0 : Int) + v y 8) * 256 + v y 9) * 256 + v y 10) * 256 + v y 11) * 256 + v y 12) * 256 + v y 13) * 256 ∧ (((((((0 : Int) + v y 8) * 256 + v y 9) * 256 + v y 10) * 256 + v y 11) * 256 + v y 12) * 256 + v y 13) * 256 % 256 = 0 ∧ (((((((0 : Int) + v y 8) * 256 + v y 9) * 256 + v y 10) * 256 + v y 11) * 256 + v y 12) * 256 + v y 13) * 256 ≤ 18446744073709551360 ∧ 0 ≤ v y 14 ∧ v y 14 < 256)) (.left (decide ((15 : Int) < 48)) (.left (decide ((0 : Int) ≤ 15 ∧ 15 < 48)) (.left (decide ((0 : Int) ≤ ((((((((0 : Int) + v y 8) * 256 + v y 9) * 256 + v y 10) * 256 + v y 11) * 256 + v y 12) * 256 + v y 13) * 256 + v y 14) * 256 ∧ ((((((((0 : Int) + v y 8) * 256 + v y 9) * 256 + v y 10) * 256 + v y 11) * 256 + v y 12) * 256 + v y 13) * 256 + v y 14) * 256 ≤ 18446744073709551615)) (.left (decide (0 ≤ v y 15 ∧ v y 15 ≤ 18446744073709551615)) (.left (decide ((0 : Int) ≤ ((((((((0 : Int) + v y 8) * 256 + v y 9) * 256 + v y 10) * 256 + v y 11) * 256 + v y 12) * 256 + v y 13) * 256 + v y 14) * 256 ∧ ((((((((0 : Int) + v y 8) * 256 + v y 9) * 256 + v y 10) * 256 + v y 11) * 256 + v y 12) * 256 + v y 13) * 256 + v y 14) * 256 % 256 = 0 ∧ ((((((((0 : Int) + v y 8) * 256 + v y 9) * 256 + v y 10) * 256 + v y 11) * 256 + v y 12) * 256 + v y 13) * 256 + v y 14) * 256 ≤ 18446744073709551360 ∧ 0 ≤ v y 15 ∧ v y 15 < 256)) (.left (decide ((16 : Int) < 48)) (.left (decide ((0 : Int) ≤ 16 ∧ 16 < 48)) (.left (decide (0 ≤ v y 16 ∧ v y 16 ≤ 18446744073709551615)) (.left (decide ((0 : Int) ≤ 0 ∧ (0 : Int) = 0 ∧ (0 : Int) ≤ 18446744073709551360 ∧ 0 ≤ v y 16 ∧ v y 16 < 256)) (.left (decide ((17 : Int) < 48)) (.left (decide ((0 : Int) ≤ 17 ∧ 17 < 48)) (.left (decide ((0 : Int) ≤ ((0 : Int) + v y 16) * 256 ∧ ((0 : Int) + v y 16) * 256 ≤ 18446744073709551615)) (.left (decide (0 ≤ v y 17 ∧ v y 17 ≤ 18446744073709551615)) (.left (decide ((0 : Int) ≤ ((0 : Int) + v y 16) * 256 ∧ ((0 : Int) + v y 16) * 256 % 256 = 0 ∧ ((0 : Int) + v y 16) * 256 ≤ 18446744073709551360 ∧ 0 ≤ v y 17 ∧ v y 17 < 256)) (.left (decide ((18 : Int) < 48)) (.left (decide ((0 : Int) ≤ 18 ∧ 18 < 48)) (.left (decide ((0 : Int) ≤ (((0 : Int) + v y 16) * 256 + v y 17) * 256 ∧ (((0 : Int) + v y 16) * 256 + v y 17) * 256 ≤ 18446744073709551615)) (.left (decide (0 ≤ v y 18 ∧ v y 18 ≤ 18446744073709551615)) (.left (decide ((0 : Int) ≤ (((0 : Int) + v y 16) * 256 + v y 17) * 256 ∧ (((0 : Int) + v y 16) * 256 + v y 17) * 256 % 256 = 0 ∧ (((0 : Int) + v y 16) * 256 + v y 17) * 256 ≤ 18446744073709551360 ∧ 0 ≤ v y 18 ∧ v y 18 < 256)) (.left (decide ((19 : Int) < 48)) (.left (decide ((0 : Int) ≤ 19 ∧ 19 < 48)) (.left (decide ((0 : Int) ≤ ((((0 : Int) + v y 16) * 256 + v y 17) * 256 + v y 18) * 256 ∧ ((((0 : Int) + v y 16) * 256 + v y 17) * 256 + v y 18) * 256 ≤ 18446744073709551615)) (.left (decide (0 ≤ v y 19 ∧ v y 19 ≤ 18446744073709551615)) (.left (decide ((0 : Int) ≤ ((((0 : Int) + v y 16) * 256 + v y 17) * 256 + v y 18) * 256 ∧ ((((0 : Int) + v y 16) * 256 + v y 17) * 256 + v y 18) * 256 % 256 = 0 ∧ ((((0 : Int) + v y 16) * 256 + v y 17) * 256 + v y 18) * 256 ≤ 18446744073709551360 ∧ 0 ≤ v y 19 ∧ v y 19 < 256)) (.left (decide ((20 : Int) < 48)) (.left (decide ((0 : Int) ≤ 20 ∧ 20 < 48)) (.left (decide ((0 : Int) ≤ (((((0 : Int) + v y 16) * 256 + v y 17) * 256 + v y 18) * 256 + v y 19) * 256 ∧ (((((0 : Int) + v y 16) * 256 + v y 17) * 256 + v y 18) * 256 + v y 19) * 256 ≤ 18446744073709551615)) (.left (decide (0 ≤ v y 20 ∧ v y 20 ≤ 18446744073709551615)) (.left (decide ((0 : Int) ≤ (((((0 : Int) + v y 16) * 256 + v y 17) * 256 + v y 18) * 256 + v y 19) * 256 ∧ (((((0 : Int) + v y 16) * 256 + v y 17) * 256 + v y 18) * 256 + v y 19) * 256 % 256 = 0 ∧ (((((0 : Int) + v y 16) * 256 + v y 17) * 256 + v y 18) * 256 + v y 19) * 256 ≤ 18446744073709551360 ∧ 0 ≤ v y 20 ∧ v y 20 < 256)) (.left (decide ((21 : Int) < 48)) (.left (decide ((0 : Int) ≤ 21 ∧ 21 < 48)) (.left (decide ((0 : Int) ≤ ((((((0 : Int) + v y 16) * 256 + v y 17) * 256 + v y 18) * 256 + v y 19) * 256 + v y 20) * 256 ∧ ((((((0 : Int) + v y 16) * 256 + v y 17) * 256 + v y 18) * 256 + v y 19) * 256 + v y 20) * 256 ≤ 18446744073709551615)) (.left (decide (0 ≤ v y 21 ∧ v y 21 ≤ 18446744073709551615)) (.left (decide ((0 : Int) ≤ ((((((0 : Int) + v y 16) * 256 + v y 17) * 256 + v y 18) * 256 + v y 19) * 256 + v y 20) * 256 ∧ ((((((0 : Int) + v y 16) * 256 + v y 17) * 256 + v y 18) * 256 + v y 19) * 256 + v y 20) * 256 % 256 = 0 ∧ ((((((0 : Int) + v y 16) * 256 + v y 17) * 256 + v y 18) * 256 + v y 19) * 256 + v y 20) * 256 ≤ 18446744073709551360 ∧ 0 ≤ v y 21 ∧ v y 21 < 256)) (.left (decide ((22 : Int) < 48)) (.left (decide ((0 : Int) ≤ 22 ∧ 22 < 48)) (.left (decide ((0 : Int) ≤ (((((((0 : Int) + v y 16) * 256 + v y 17) * 256 + v y 18) * 256 + v y 19) * 256 + v y 20) * 256 + v y 21) * 256 ∧ (((((((0 : Int) + v y 16) * 256 + v y 17) * 256 + v y 18) * 256 + v y 19) * 256 + v y 20) * 256 + v y 21) * 256 ≤ 18446744073709551615)) (.left (decide (0 ≤ v y 22 ∧ v y 22 ≤ 18446744073709551615)) (.left (decide ((0 : Int) ≤ (((((((0 : Int) + v y 16) * 256 + v y 17) * 256 + v y 18) * 256 + v y 19) * 256 + v y 20) * 256 + v y 21) * 256 ∧ (((((((0 : Int) + v y 16) * 256 + v y 17) * 256 + v y 18) * 256 + v y 19) * 256 + v y 20) * 256 + v y 21) * 256 % 256 = 0 ∧ (((((((0 : Int) + v y 16) * 256 + v y 17) * 256 + v y 18) * 256 + v y 19) * 256 + v y 20) * 256 + v y 21) * 256 ≤ 18446744073709551360 ∧ 0 ≤ v y 22 ∧ v y 22 < 256)) (.left (decide ((23 : Int) < 48)) (.left (decide ((0 : Int) ≤ 23 ∧ 23 < 48)) (.left (decide ((0 : Int) ≤ ((((((((0 : Int) + v y 16) * 256 + v y 17) * 256 + v y 18) * 256 + v y 19) * 256 + v y 20) * 256 + v y 21) * 256 + v y 22) * 256 ∧ ((((((((0 : Int) + v y 16) * 256 + v y 17) * 256 + v y 18) * 256 + v y 19) * 256 + v y 20) * 256 + v y 21) * 256 + v y 22) * 256 ≤ 18446744073709551615)) (.left (decide (0 ≤ v y 23 ∧ v y 23 ≤ 18446744073709551615)) (.left (decide ((0 : Int) ≤ ((((((((0 : Int) + v y 16) * 256 + v y 17) * 256 + v y 18) * 256 + v y 19) * 256 + v y 20) * 256 + v y 21) * 256 + v y 22) * 256 ∧ ((((((((0 : Int) + v y 16) * 256 + v y 17) * 256 + v y 18) * 256 + v y 19) * 256 + v y 20) * 256 + v y 21) * 256 + v y 22) * 256 % 256 = 0 ∧ ((((((((0 : Int) + v y 16) * 256 + v y 17) * 256 + v y 18) * 256 + v y 19) * 256 + v y 20) * 256 + v y 21) * 256 + v y 22) * 256 ≤ 18446744073709551360 ∧ 0 ≤ v y 23 ∧ v y 23 < 256)) (.left (decide ((24 : Int) < 48)) (.left (decide ((0 : Int) ≤ 24 ∧ 24 < 48)) (.left (decide (0 ≤ v y 24 ∧ v y 24 ≤ 18446744073709551615)) (.left (decide ((0 : Int) ≤ 0 ∧ (0 : Int) = 0 ∧ (0 : Int) ≤ 18446744073709551360 ∧ 0 ≤ v y 24 ∧ v y 24 < 256)) (.left (decide ((25 : Int) < 48)) (.left (decide ((0 : Int) ≤ 25 ∧ 25 < 48)) (.left (decide ((0 : Int) ≤ ((0 : Int) + v y 24) * 256 ∧ ((0 : Int) + v y 24) * 256 ≤ 18446744073709551615)) (.left (decide (0 ≤ v y 25 ∧ v y 25 ≤ 18446744073709551615)) (.left (decide ((0 : Int) ≤ ((0 : Int) + v y 24) * 256 ∧ ((0 : Int) + v y 24) * 256 % 256 = 0 ∧ ((0 : Int) + v y 24) * 256 ≤ 18446744073709551360 ∧ 0 ≤ v y 25 ∧ v y 25 < 256)) (.left (decide ((26 : Int) < 48)) (.left (decide ((0 : Int) ≤ 26 ∧ 26 < 48)) (.left (decide ((0 : Int) ≤ (((0 : Int) + v y 24) * 256 + v y 25) * 256 ∧ (((0 : Int) + v y 24) * 256 + v y 25) * 256 ≤ 18446744073709551615)) (.left (decide (0 ≤ v y 26 ∧ v y 26 ≤ 18446744073709551615)) (.left (decide ((0 : Int) ≤ (((0 : Int) + v y 24) * 256 + v y 25) * 256 ∧ (((0 : Int) + v y 24) * 256 + v y 25) * 256 % 256 = 0 ∧ (((0 : Int) + v y 24) * 256 + v y 25) * 256 ≤ 18446744073709551360 ∧ 0 ≤ v y 26 ∧ v y 26 < 256)) (.left (decide ((27 : Int) < 48)) (.left (decide ((0 : Int) ≤ 27 ∧ 27 < 48)) (.left (decide ((0 : Int) ≤ ((((0 : Int) + v y 24) * 256 + v y 25) * 256 + v y 26) * 256 ∧ ((((0 : Int) + v y 24) * 256 + v y 25) * 256 + v y 26) * 256 ≤ 18446744073709551615)) (.left (decide (0 ≤ v y 27 ∧ v y 27 ≤ 18446744073709551615)) (.left (decide ((0 : Int) ≤ ((((0 : Int) + v y 24) * 256 + v y 25) * 256 + v y 26) * 256 ∧ ((((0 : Int) + v y 24) * 256 + v y 25) * 256 + v y 26) * 256 % 256 = 0 ∧ ((((0 : Int) + v y 24) * 256 + v y 25) * 256 + v y 26) * 256 ≤ 18446744073709551360 ∧ 0 ≤ v y 27 ∧ v y 27 < 256)) (.left (decide ((28 : Int) < 48)) (.left (decide ((0 : Int) ≤ 28 ∧ 28 < 48)) (.left (decide ((0 : Int) ≤ (((((0 : Int) + v y 24) * 256 + v y 25) * 256 + v y 26) * 256 + v y 27) * 256 ∧ (((((0 : Int) + v y 24) * 256 + v y 25) * 256 + v y 26) * 256 + v y 27) * 256 ≤ 18446744073709551615)) (.left (decide (0 ≤ v y 28 ∧ v y 28 ≤ 18446744073709551615)) (.left (decide ((0 : Int) ≤ (((((0 : Int) + v y 24) * 256 + v y 25) * 256 + v y 26) * 256 + v y 27) * 256 ∧ (((((0 : Int) + v y 24) * 256 + v y 25) * 256 + v y 26) * 256 + v y 27) * 256 % 256 = 0 ∧ (((((0 : Int) + v y 24) * 256 + v y 25) * 256 + v y 26) * 256 + v y 27) * 256 ≤ 18446744073709551360 ∧ 0 ≤ v y 28 ∧ v y 28 < 256)) (.left (decide ((29 : Int) < 48)) (.left (decide ((0 : Int) ≤ 29 ∧ 29 < 48)) (.left (decide ((0 : Int) ≤ ((((((0 : Int) + v y 24) * 256 + v y 25) * 256 + v y 26) * 256 + v y 27) * 256 + v y 28) * 256 ∧ ((((((0 : Int) + v y 24) * 256 + v y 25) * 256 + v y 26) * 256 + v y 27) * 256 + v y 28) * 256 ≤ 18446744073709551615)) (.left (decide (0 ≤ v y 29 ∧ v y 29 ≤ 18446744073709551615)) (.left (decide ((0 : Int) ≤ ((((((0 : Int) + v y 24) * 256 + v y 25) * 256 + v y 26) * 256 + v y 27) * 256 + v y 28) * 256 ∧ ((((((0 : Int) + v y 24) * 256 + v y 25) * 256 + v y 26) * 256 + v y 27) * 256 + v y 28) * 256 % 256 = 0 ∧ ((((((0 : Int) + v y 24) * 256 + v y 25) * 256 + v y 26) * 256 + v y 27) * 256 + v y 28) * 256 ≤ 18446744073709551360 ∧ 0 ≤ v y 29 ∧ v y 29 < 256)) (.left (decide ((30 : Int) < 48)) (.left (decide ((0 : Int) ≤ 30 ∧ 30 < 48)) (.left (decide ((0 : Int) ≤ (((((((0 : Int) + v y 24) * 256 + v y 25) * 256 + v y 26) * 256 + v y 27) * 256 + v y 28) * 256 + v y 29) * 256 ∧ (((((((0 : Int) + v y 24) * 256 + v y 25) * 256 + v y 26) * 256 + v y 27) * 256 + v y 28) * 256 + v y 29) * 256 ≤ 18446744073709551615)) (.left (decide (0 ≤ v y 30 ∧ v y 30 ≤ 18446744073709551615)) (.left (decide ((0 : Int) ≤ (((((((0 : Int) + v y 24) * 256 + v y 25) * 256 + v y 26) * 256 + v y 27) * 256 + v y 28) * 256 + v y 29) * 256 ∧ (((((((0 : Int) + v y 24) * 256 + v y 25) * 256 + v y 26) * 256 + v y 27) * 256 + v y 28) * 256 + v y 29) * 256 % 256 = 0 ∧ (((((((0 : Int) + v y 24) * 256 + v y 25) * 256 + v y 26) * 256 + v y 27) * 256 + v y 28) * 256 + v y 29) * 256 ≤ 18446744073709551360 ∧ 0 ≤ v y 30 ∧ v y 30 < 256)) (.left (decide ((31 : Int) < 48)) (.left (decide ((0 : Int) ≤ 31 ∧ 31 < 48)) (.left (decide ((0 : Int) ≤ ((((((((0 : Int) + v y 24) * 256 + v y 25) * 256 + v y 26) * 256 + v y 27) * 256 + v y 28) * 256 + v y 29) * 256 + v y 30) * 256 ∧ ((((((((0 : Int) + v y 24) * 256 + v y 25) * 256 + v y 26) * 256 + v y 27) * 256 + v y 28) * 256 + v y 29) * 256 + v y 30) * 256 ≤ 18446744073709551615)) (.left (decide (0 ≤ v y 31 ∧ v y 31 ≤ 18446744073709551615)) (.left (decide ((0 : Int) ≤ ((((((((0 : Int) + v y 24) * 256 + v y 25) * 256 + v y 26) * 256 + v y 27) * 256 + v y 28) * 256 + v y 29) * 256 + v y 30) * 256 ∧ ((((((((0 : Int) + v y 24) * 256 + v y 25) * 256 + v y 26) * 256 + v y 27) * 256 + v y 28) * 256 + v y 29) * 256 + v y 30) * 256 % 256 = 0 ∧ ((((((((0 : Int) + v y 24) * 256 + v y 25) * 256 + v y 26) * 256 + v y 27) * 256 + v y 28) * 256 + v y 29) * 256 + v y 30) * 256 ≤ 18446744073709551360 ∧ 0 ≤ v y 31 ∧ v y 31 < 256)) (.left (decide ((32 : Int) < 48)) (.left (decide ((0 : Int) ≤ 32 ∧ 32 < 48)) (.left (decide (0 ≤ v y 32 ∧ v y 32 ≤ 18446744073709551615)) (.left (decide ((0 : Int) ≤ 0 ∧ (0 : Int) = 0 ∧ (0 : Int) ≤ 18446744073709551360 ∧ 0 ≤ v y 32 ∧ v y 32 < 256)) (.left (decide ((33 : Int) < 48)) (.left (decide ((0 : Int) ≤ 33 ∧ 33 < 48)) (.left (decide ((0 : Int) ≤ ((0 : Int) + v y 32) * 256 ∧ ((0 : Int) + v y 32) * 256 ≤ 18446744073709551615)) (.left (decide (0 ≤ v y 33 ∧ v y 33 ≤ 18446744073709551615)) (.left (decide ((0 : Int) ≤ ((0 : Int) + v y 32) * 256 ∧ ((0 : Int) + v y 32) * 256 % 256 = 0 ∧ ((0 : Int) + v y 32) * 256 ≤ 18446744073709551360 ∧ 0 ≤ v y 33 ∧ v y 33 < 256)) (.left (decide ((34 : Int) < 48)) (.left (decide ((0 : Int) ≤ 34 ∧ 34 < 48)) (.left (decide ((0 : Int) ≤ (((0 : Int) + v y 32) * 256 + v y 33) * 256 ∧ (((0 : Int) + v y 32) * 256 + v y 33) * 256 ≤ 18446744073709551615)) (.left (decide (0 ≤ v y 34 ∧ v y 34 ≤ 18446744073709551615)) (.left (decide ((0 : Int) ≤ (((0 : Int) + v y 32) * 256 + v y 33) * 256 ∧ (((0 : Int) + v y 32) * 256 + v y 33) * 256 % 256 = 0 ∧ (((0 : Int) + v y 32) * 256 + v y 33) * 256 ≤ 18446744073709551360 ∧ 0 ≤ v y 34 ∧ v y 34 < 256)) (.left (decide ((35 : Int) < 48)) (.left (decide ((0 : Int) ≤ 35 ∧ 35 < 48)) (.left (decide ((0 : Int) ≤ ((((0 : Int) + v y 32) * 256 + v y 33) * 256 + v y 34) * 256 ∧ ((((0 : Int) + v y 32) * 256 + v y 33) * 256 + v y 34) * 256 ≤ 18446744073709551615)) (.left (decide (0 ≤ v y 35 ∧ v y 35 ≤ 18446744073709551615)) (.left (decide ((0 : Int) ≤ ((((0 : Int) + v y 32) * 256 + v y 33) * 256 + v y 34) * 256 ∧ ((((0 : Int) + v y 32) * 256 + v y 33) * 256 + v y 34) * 256 % 256 = 0 ∧ ((((0 : Int) + v y 32) * 256 + v y 33) * 256 + v y 34) * 256 ≤ 18446744073709551360 ∧ 0 ≤ v y 35 ∧ v y 35 < 256)) (.left (decide ((36 : Int) < 48)) (.left (decide ((0 : Int) ≤ 36 ∧ 36 < 48)) (.left (decide ((0 : Int) ≤ (((((0 : Int) + v y 32) * 256 + v y 33) * 256 + v y 34) * 256 + v y 35) * 256 ∧ (((((0 : Int) + v y 32) * 256 + v y 33) * 256 + v y 34) * 256 + v y 35) * 256 ≤ 18446744073709551615)) (.left (decide (0 ≤ v y 36 ∧ v y 36 ≤ 18446744073709551615)) (.left (decide ((0 : Int) ≤ (((((0 : Int) + v y 32) * 256 + v y 33) * 256 + v y 34) * 256 + v y 35) * 256 ∧ (((((0 : Int) + v y 32) * 256 + v y 33) * 256 + v y 34) * 256 + v y 35) * 256 % 256 = 0 ∧ (((((0 : Int) + v y 32) * 256 + v y 33) * 256 + v y 34) * 256 + v y 35) * 256 ≤ 18446744073709551360 ∧ 0 ≤ v y 36 ∧ v y 36 < 256)) (.left (decide ((37 : Int) < 48)) (.left (decide ((0 : Int) ≤ 37 ∧ 37 < 48)) (.left (decide ((0 : Int) ≤ ((((((0 : Int) + v y 32) * 256 + v y 33) * 256 + v y 34) * 256 + v y 35) * 256 + v y 36) * 256 ∧ ((((((0 : Int) + v y 32) * 256 + v y 33) * 256 + v y 34) * 256 + v y 35) * 256 + v y 36) * 256 ≤ 18446744073709551615)) (.left (decide (0 ≤ v y 37 ∧ v y 37 ≤ 18446744073709551615)) (.left (decide ((0 : Int) ≤ ((((((0 : Int) + v y 32) * 256 + v y 33) * 256 + v y 34) * 256 + v y 35) * 256 + v y 36) * 256 ∧ ((((((0 : Int) + v y 32) * 256 + v y 33) * 256 + v y 34) * 256 + v y 35) * 256 + v y 36) * 256 % 256 = 0 ∧ ((((((0 : Int) + v y 32) * 256 + v y 33) * 256 + v y 34) * 256 + v y 35) * 256 + v y 36) * 256 ≤ 18446744073709551360 ∧ 0 ≤ v y 37 ∧ v y 37 < 256)) (.left (decide ((38 : Int) < 48)) (.left (decide ((0 : Int) ≤ 38 ∧ 38 < 48)) (.left (decide ((0 : Int) ≤ (((((((0 : Int) + v y 32) * 256 + v y 33) * 256 + v y 34) * 256 + v y 35) * 256 + v y 36) * 256 + v y 37) * 256 ∧ (((((((0 : Int) + v y 32) * 256 + v y 33) * 256 + v y 34) * 256 + v y 35) * 256 + v y 36) * 256 + v y 37) * 256 ≤ 18446744073709551615)) (.left (decide (0 ≤ v y 38 ∧ v y 38 ≤ 18446744073709551615)) (.left (decide ((0 : Int) ≤ (((((((0 : Int) + v y 32) * 256 + v y 33) * 256 + v y 34) * 256 + v y 35) * 256 + v y 36) * 256 + v y 37) * 256 ∧ (((((((0 : Int) + v y 32) * 256 + v y 33) * 256 + v y 34) * 256 + v y 35) * 256 + v y 36) * 256 + v y 37) * 256 % 256 = 0 ∧ (((((((0 : Int) + v y 32) * 256 + v y 33) * 256 + v y 34) * 256 + v y 35) * 256 + v y 36) * 256 + v y 37) * 256 ≤ 18446744073709551360 ∧ 0 ≤ v y 38 ∧ v y 38 < 256)) (.left (decide ((39 : Int) < 48)) (.left (decide ((0 : Int) ≤ 39 ∧ 39 < 48)) (.left (decide ((0 : Int) ≤ ((((((((0 : Int) + v y 32) * 256 + v y 33) * 256 + v y 34) * 256 + v y 35) * 256 + v y 36) * 256 + v y 37) * 256 + v y 38) * 256 ∧ ((((((((0 : Int) + v y 32) * 256 + v y 33) * 256 + v y 34) * 256 + v y 35) * 256 + v y 36) * 256 + v y 37) * 256 + v y 38) * 256 ≤ 18446744073709551615)) (.left (decide (0 ≤ v y 39 ∧ v y 39 ≤ 18446744073709551615)) (.left (decide ((0 : Int) ≤ ((((((((0 : Int) + v y 32) * 256 + v y 33) * 256 + v y 34) * 256 + v y 35) * 256 + v y 36) * 256 + v y 37) * 256 + v y 38) * 256 ∧ ((((((((0 : Int) + v y 32) * 256 + v y 33) * 256 + v y 34) * 256 + v y 35) * 256 + v y 36) * 256 + v y 37) * 256 + v y 38) * 256 % 256 = 0 ∧ ((((((((0 : Int) + v y 32) * 256 + v y 33) * 256 + v y 34) * 256 + v y 35) * 256 + v y 36) * 256 + v y 37) * 256 + v y 38) * 256 ≤ 18446744073709551360 ∧ 0 ≤ v y 39 ∧ v y 39 < 256)) (.left (decide ((40 : Int) < 48)) (.left (decide ((0 : Int) ≤ 40 ∧ 40 < 48)) (.left (decide (0 ≤ v y 40 ∧ v y 40 ≤ 18446744073709551615)) (.left (decide ((0 : Int) ≤ 0 ∧ (0 : Int) = 0 ∧ (0 : Int) ≤ 18446744073709551360 ∧ 0 ≤ v y 40 ∧ v y 40 < 256)) (.left (decide ((41 : Int) < 48)) (.left (decide ((0 : Int) ≤ 41 ∧ 41 < 48)) (.left (decide ((0 : Int) ≤ ((0 : Int) + v y 40) * 256 ∧ ((0 : Int) + v y 40) * 256 ≤ 18446744073709551615)) (.left (decide (0 ≤ v y 41 ∧ v y 41 ≤ 18446744073709551615)) (.left (decide ((0 : Int) ≤ ((0 : Int) + v y 40) * 256 ∧ ((0 : Int) + v y 40) * 256 % 256 = 0 ∧ ((0 : Int) + v y 40) * 256 ≤ 18446744073709551360 ∧ 0 ≤ v y 41 ∧ v y 41 < 256)) (.left (decide ((42 : Int) < 48)) (.left (decide ((0 : Int) ≤ 42 ∧ 42 < 48)) (.left (decide ((0 : Int) ≤ (((0 : Int) + v y 40) * 256 + v y 41) * 256 ∧ (((0 : Int) + v y 40) * 256 + v y 41) * 256 ≤ 18446744073709551615)) (.left (decide (0 ≤ v y 42 ∧ v y 42 ≤ 18446744073709551615)) (.left (decide ((0 : Int) ≤ (((0 : Int) + v y 40) * 256 + v y 41) * 256 ∧ (((0 : Int) + v y 40) * 256 + v y 41) * 256 % 256 = 0 ∧ (((0 : Int) + v y 40) * 256 + v y 41) * 256 ≤ 18446744073709551360 ∧ 0 ≤ v y 42 ∧ v y 42 < 256)) (.left (decide ((43 : Int) < 48)) (.left (decide ((0 : Int) ≤ 43 ∧ 43 < 48)) (.left (decide ((0 : Int) ≤ ((((0 : Int) + v y 40) * 256 + v y 41) * 256 + v y 42) * 256 ∧ ((((0 : Int) + v y 40) * 256 + v y 41) * 256 + v y 42) * 256 ≤ 18446744073709551615)) (.left (decide (0 ≤ v y 43 ∧ v y 43 ≤ 18446744073709551615)) (.left (decide ((0 : Int) ≤ ((((0 : Int) + v y 40) * 256 + v y 41) * 256 + v y 42) * 256 ∧ ((((0 : Int) + v y 40) * 256 + v y 41) * 256 + v y 42) * 256 % 256 = 0 ∧ ((((0 : Int) + v y 40) * 256 + v y 41) * 256 + v y 42) * 256 ≤ 18446744073709551360 ∧ 0 ≤ v y 43 ∧ v y 43 < 256)) (.left (decide ((44 : Int) < 48)) (.left (decide ((0 : Int) ≤ 44 ∧ 44 < 48)) (.left (decide ((0 : Int) ≤ (((((0 : Int) + v y 40) * 256 + v y 41) * 256 + v y 42) * 256 + v y 43) * 256 ∧ (((((0 : Int) + v y 40) * 256 + v y 41) * 256 + v y 42) * 256 + v y 43) * 256 ≤ 18446744073709551615)) (.left (decide (0 ≤ v y 44 ∧ v y 44 ≤ 18446744073709551615)) (.left (decide ((0 : Int) ≤ (((((0 : Int) + v y 40) * 256 + v y 41) * 256 + v y 42) * 256 + v y 43) * 256 ∧ (((((0 : Int) + v y 40) * 256 + v y 41) * 256 + v y 42) * 256 + v y 43) * 256 % 256 = 0 ∧ (((((0 : Int) + v y 40) * 256 + v y 41) * 256 + v y 42) * 256 + v y 43) * 256 ≤ 18446744073709551360 ∧ 0 ≤ v y 44 ∧ v y 44 < 256)) (.left (decide ((45 : Int) < 48)) (.left (decide ((0 : Int) ≤ 45 ∧ 45 < 48)) (.left (decide ((0 : Int) ≤ ((((((0 : Int) + v y 40) * 256 + v y 41) * 256 + v y 42) * 256 + v y 43) * 256 + v y 44) * 256 ∧ ((((((0 : Int) + v y 40) * 256 + v y 41) * 256 + v y 42) * 256 + v y 43) * 256 + v y 44) * 256 ≤ 18446744073709551615)) (.left (decide (0 ≤ v y 45 ∧ v y 45 ≤ 18446744073709551615)) (.left (decide ((0 : Int) ≤ ((((((0 : Int) + v y 40) * 256 + v y 41) * 256 + v y 42) * 256 + v y 43) * 256 + v y 44) * 256 ∧ ((((((0 : Int) + v y 40) * 256 + v y 41) * 256 + v y 42) * 256 + v y 43) * 256 + v y 44) * 256 % 256 = 0 ∧ ((((((0 : Int) + v y 40) * 256 + v y 41) * 256 + v y 42) * 256 + v y 43) * 256 + v y 44) * 256 ≤ 18446744073709551360 ∧ 0 ≤ v y 45 ∧ v y 45 < 256)) (.left (decide ((46 : Int) < 48)) (.left (decide ((0 : Int) ≤ 46 ∧ 46 < 48)) (.left (decide ((0 : Int) ≤ (((((((0 : Int) + v y 40) * 256 + v y 41) * 256 + v y 42) * 256 + v y 43) * 256 + v y 44) * 256 + v y 45) * 256 ∧ (((((((0 : Int) + v y 40) * 256 + v y 41) * 256 + v y 42) * 256 + v y 43) * 256 + v y 44) * 256 + v y 45) * 256 ≤ 18446744073709551615)) (.left (decide (0 ≤ v y 46 ∧ v y 46 ≤ 18446744073709551615)) (.left (decide ((0 : Int) ≤ (((((((0 : Int) + v y 40) * 256 + v y 41) * 256 + v y 42) * 256 + v y 43) * 256 + v y 44) * 256 + v y 45) * 256 ∧ (((((((0 : Int) + v y 40) * 256 + v y 41) * 256 + v y 42) * 256 + v y 43) * 256 + v y 44) * 256 + v y 45) * 256 % 256 = 0 ∧ (((((((0 : Int) + v y 40) * 256 + v y 41) * 256 + v y 42) * 256 + v y 43) * 256 + v y 44) * 256 + v y 45) * 256 ≤ 18446744073709551360 ∧ 0 ≤ v y 46 ∧ v y 46 < 256)) (.left (decide ((47 : Int) < 48)) (.left (decide ((0 : Int) ≤ 47 ∧ 47 < 48)) (.left (decide ((0 : Int) ≤ ((((((((0 : Int) + v y 40) * 256 + v y 41) * 256 + v y 42) * 256 + v y 43) * 256 + v y 44) * 256 + v y 45) * 256 + v y 46) * 256 ∧ ((((((((0 : Int) + v y 40) * 256 + v y 41) * 256 + v y 42) * 256 + v y 43) * 256 + v y 44) * 256 + v y 45) * 256 + v y 46) * 256 ≤ 18446744073709551615)) (.left (decide (0 ≤ v y 47 ∧ v y 47 ≤ 18446744073709551615)) (.left (decide ((0 : Int) ≤ ((((((((0 : Int) + v y 40) * 256 + v y 41) * 256 + v y 42) * 256 + v y 43) * 256 + v y 44) * 256 + v y 45) * 256 + v y 46) * 256 ∧ ((((((((0 : Int) + v y 40) * 256 + v y 41) * 256 + v y 42) * 256 + v y 43) * 256 + v y 44) * 256 + v y 45) * 256 + v y 46) * 256 % 256 = 0 ∧ ((((((((0 : Int) + v y 40) * 256 + v y 41) * 256 + v y 42) * 256 + v y 43) * 256 + v y 44) * 256 + v y 45) * 256 + v y 46) * 256 ≤ 18446744073709551360 ∧ 0 ≤ v y 47 ∧ v y 47 < 256)) (.right (decide ((48 : Int) < 48)) (.stop (Hd.call 69 [.agg [.sint .u64 (((((((((0 : Int) + (↑(y 0 % 256) : Int)) * 256 + (↑(y 1 % 256) : Int)) * 256 + (↑(y 2 % 256) : Int)) * 256 + (↑(y 3 % 256) : Int)) * 256 + (↑(y 4 % 256) : Int)) * 256 + (↑(y 5 % 256) : Int)) * 256 + (↑(y 6 % 256) : Int)) * 256 + (↑(y 7 % 256) : Int)), .sint .u64 (((((((((0 : Int) + (↑(y 8 % 256) : Int)) * 256 + (↑(y 9 % 256) : Int)) * 256 + (↑(y 10 % 256) : Int)) * 256 + (↑(y 11 % 256) : Int)) * 256 + (↑(y 12 % 256) : Int)) * 256 + (↑(y 13 % 256) : Int)) * 256 + (↑(y 14 % 256) : Int)) * 256 + (↑(y 15 % 256) : Int)), .sint .u64 (((((((((0 : Int) + (↑(y 16 % 256) : Int)) * 256 + (↑(y 17 % 256) : Int)) * 256 + (↑(y 18 % 256) : Int)) * 256 + (↑(y 19 % 256) : Int)) * 256 + (↑(y 20 % 256) : Int)) * 256 + (↑(y 21 % 256) : Int)) * 256 + (↑(y 22 % 256) : Int)) * 256 + (↑(y 23 % 256) : Int)), .sint .u64 (((((((((0 : Int) + (↑(y 24 % 256) : Int)) * 256 + (↑(y 25 % 256) : Int)) * 256 + (↑(y 26 % 256) : Int)) * 256 + (↑(y 27 % 256) : Int)) * 256 + (↑(y 28 % 256) : Int)) * 256 + (↑(y 29 % 256) : Int)) * 256 + (↑(y 30 % 256) : Int)) * 256 + (↑(y 31 % 256) : Int)), .sint .u64 (((((((((0 : Int) + (↑(y 32 % 256) : Int)) * 256 + (↑(y 33 % 256) : Int)) * 256 + (↑(y 34 % 256) : Int)) * 256 + (↑(y 35 % 256) : Int)) * 256 + (↑(y 36 % 256) : Int)) * 256 + (↑(y 37 % 256) : Int)) * 256 + (↑(y 38 % 256) : Int)) * 256 + (↑(y 39 % 256) : Int)), .sint .u64 (((((((((0 : Int) + (↑(y 40 % 256) : Int)) * 256 + (↑(y 41 % 256) : Int)) * 256 + (↑(y 42 % 256) : Int)) * 256 + (↑(y 43 % 256) : Int)) * 256 + (↑(y 44 % 256) : Int)) * 256 + (↑(y 45 % 256) : Int)) * 256 + (↑(y 46 % 256) : Int)) * 256 + (↑(y 47 % 256) : Int))]]) [] ([])))))))))))))))))))))))))))))))))))))))))))))))))))))))))))))))))))))))))))))))))))))))))))))))))))))))))))))))))))))))))))))))))))))))))))))))))))))))))))))))))))))))))))))))))))))))))))))))))))))))))))))))))))))))))))))))))))))))))))))) (by kernel_rfl) ?_
  refine hl (bc fun h0 => by (try unfold v at h0); omega) ?_
  refine hl (bc fun h0 => by (try unfold v at h0); omega) ?_
  refine hl (bc fun h0 => by (try unfold v at h0); omega) ?_
  refine hl (bc fun h0 => by (try unfold v at h0); omega) ?_
  refine hl (bc fun h0 => by (try unfold v at h0); omega) ?_
  refine hl (bc fun h0 => by (try unfold v at h0); omega) ?_
  refine hl (bc fun h0 => by (try unfold v at h0); omega) ?_
  refine hl (bc fun h0 => by (try unfold v at h0); omega) ?_
  refine hl (bc fun h0 => by (try unfold v at h0); omega) ?_
  refine hl (bc fun h0 => by (try unfold v at h0); omega) ?_
  refine hl (bc fun h0 => by (try unfold v at h0); omega) ?_
  refine hl (bc fun h0 => by (try unfold v at h0); omega) ?_
  refine hl (bc fun h0 => by (try unfold v at h0); omega) ?_
  refine hl (bc fun h0 => by (try unfold v at h0); omega) ?_
  refine hl (bc fun h0 => by (try unfold v at h0); omega) ?_
  refine hl (bc fun h0 => by (try unfold v at h0); omega) ?_
  refine hl (bc fun h0 => by (try unfold v at h0); omega) ?_
  refine hl (bc fun h0 => by (try unfold v at h0); omega) ?_
  refine hl (bc fun h0 => by (try unfold v at h0); omega) ?_
  refine hl (bc fun h0 => by (try unfold v at h0); omega) ?_
  refine hl (bc fun h0 => by (try unfold v at h0); omega) ?_
  refine hl (bc fun h0 => by (try unfold v at h0); omega) ?_
  refine hl (bc fun h0 => by (try unfold v at h0); omega) ?_
  refine hl (bc fun h0 => by (try unfold v at h0); omega) ?_
  refine hl (bc fun h0 => by (try unfold v at h0); omega) ?_
  refine hl (bc fun h0 => by (try unfold v at h0); omega) ?_
  refine hl (bc fun h0 => by (try unfold v at h0); omega) ?_
  refine hl (bc fun h0 => by (try unfold v at h0); omega) ?_
  refine hl (bc fun h0 => by (try unfold v at h0); omega) ?_
  refine hl (bc fun h0 => by (try unfold v at h0); omega) ?_
  refine hl (bc fun h0 => by (try unfold v at h0); omega) ?_
  refine hl (bc fun h0 => by (try unfold v at h0); omega) ?_
  refine hl (bc fun h0 => by (try unfold v at h0); omega) ?_
  refine hl (bc fun h0 => by (try unfold v at h0); omega) ?_
  refine hl (bc fun h0 => by (try unfold v at h0); omega) ?_
  refine hl (bc fun h0 => by (try unfold v at h0); omega) ?_
  refine hl (bc fun h0 => by (try unfold v at h0); omega) ?_
  refine hl (bc fun h0 => by (try unfold v at h0); omega) ?_
  refine hl (bc fun h0 => by (try unfold v at h0); omega) ?_
  refine hl (bc fun h0 => by (try unfold v at h0); omega) ?_
  refine hl (bc fun h0 => by (try unfold v at h0); omega) ?_
  refine hl (bc fun h0 => by (try unfold v at h0); omega) ?_
  refine hl (bc fun h0 => by (try unfold v at h0); omega) ?_
  refine hl (bc fun h0 => by (try unfold v at h0); omega) ?_
  refine hl (bc fun h0 => by (try unfold v at h0); omega) ?_
  refine hl (bc fun h0 => by (try unfold v at h0); omega) ?_
  refine hl (bc fun h0 => by (try unfold v at h0); omega) ?_
  refine hl (bc fun h0 => by (try unfold v at h0); omega) ?_
  refine hl (bc fun h0 => by (try unfold v at h0); omega) ?_
  refine hl (bc fun h0 => by (try unfold v at h0); omega) ?_
  refine hl (bc fun h0 => by (try unfold v at h0); omega) ?_
  refine hl (bc fun h0 => by (try unfold v at h0); omega) ?_
  refine hl (bc fun h0 => by (try unfold v at h0); omega) ?_
  refine hl (bc fun h0 => by (try unfold v at h0); omega) ?_
  refine hl (bc fun h0 => by (try unfold v at h0); omega) ?_
  refine hl (bc fun h0 => by (try unfold v at h0); omega) ?_
  refine hl (bc fun h0 => by (try unfold v at h0); omega) ?_
  refine hl (bc fun h0 => by (try unfold v at h0); omega) ?_
  refine hl (bc fun h0 => by (try unfold v at h0); omega) ?_
  refine hl (bc fun h0 => by (try unfold v at h0); omega) ?_
  refine hl (bc fun h0 => by (try unfold v at h0); omega) ?_
  refine hl (bc fun h0 => by (try unfold v at h0); omega) ?_
  refine hl (bc fun h0 => by (try unfold v at h0); omega) ?_
  refine hl (bc fun h0 => by (try unfold v at h0); omega) ?_
  refine hl (bc fun h0 => by (try unfold v at h0); omega) ?_
  refine hl (bc fun h0 => by (try unfold v at h0); omega) ?_
  refine hl (bc fun h0 => by (try unfold v at h0); omega) ?_
  refine hl (bc fun h0 => by (try unfold v at h0); omega) ?_
  refine hl (bc fun h0 => by (try unfold v at h0); omega) ?_
  refine hl (bc fun h0 => by (try unfold v at h0); omega) ?_
  refine hl (bc fun h0 => by (try unfold v at h0); omega) ?_
  refine hl (bc fun h0 => by (try unfold v at h0); omega) ?_
  refine hl (bc fun h0 => by (try unfold v at h0); omega) ?_
  refine hl (bc fun h0 => by (try unfold v at h0); omega) ?_
  refine hl (bc fun h0 => by (try unfold v at h0); omega) ?_
  refine hl (bc fun h0 => by (try unfold v at h0); omega) ?_
  refine hl (bc fun h0 => by (try unfold v at h0); omega) ?_
  refine hl (bc fun h0 => by (try unfold v at h0); omega) ?_
  refine hl (bc fun h0 => by (try unfold v at h0); omega) ?_
  refine hl (bc fun h0 => by (try unfold v at h0); omega) ?_
  refine hl (bc fun h0 => by (try unfold v at h0); omega) ?_
  refine hl (bc fun h0 => by (try unfold v at h0); omega) ?_
  refine hl (bc fun h0 => by (try unfold v at h0); omega) ?_
  refine hl (bc fun h0 => by (try unfold v at h0); omega) ?_
  refine hl (bc fun h0 => by (try unfold v at h0); omega) ?_
  refine hl (bc fun h0 => by (try unfold v at h0); omega) ?_
  refine hl (bc fun h0 => by (try unfold v at h0); omega) ?_
  refine hl (bc fun h0 => by (try unfold v at h0); omega) ?_
  refine hl (bc fun h0 => by (try unfold v at h0); omega) ?_
  refine hl (bc fun h0 => by (try unfold v at h0); omega) ?_
  refine hl (bc fun h0 => by (try unfold v at h0); omega) ?_
  refine hl (bc fun h0 => by (try unfold v at h0); omega) ?_
  refine hl (bc fun h0 => by (try unfold v at h0); omega) ?_
  refine hl (bc fun h0 => by (try unfold v at h0); omega) ?_
  refine hl (bc fun h0 => by (try unfold v at h0); omega) ?_
  refine hl (bc fun h0 => by (try unfold v at h0); omega) ?_
  refine hl (bc fun h0 => by (try unfold v at h0); omega) ?_
  refine hl (bc fun h0 => by (try unfold v at h0); omega) ?_
  refine hl (bc fun h0 => by (try unfold v at h0); omega) ?_
  refine hl (bc fun h0 => by (try unfold v at h0); omega) ?_
  refine hl (bc fun h0 => by (try unfold v at h0); omega) ?_
  refine hl (bc fun h0 => by (try unfold v at h0); omega) ?_
  refine hl (bc fun h0 => by (try unfold v at h0); omega) ?_
  refine hl (bc fun h0 => by (try unfold v at h0); omega) ?_
  refine hl (bc fun h0 => by (try unfold v at h0); omega) ?_
  refine hl (bc fun h0 => by (try unfold v at h0); omega) ?_
  refine hl (bc fun h0 => by (try unfold v at h0); omega) ?_
  refine hl (bc fun h0 => by (try unfold v at h0); omega) ?_
  refine hl (bc fun h0 => by (try unfold v at h0); omega) ?_
  refine hl (bc fun h0 => by (try unfold v at h0); omega) ?_
  refine hl (bc fun h0 => by (try unfold v at h0); omega) ?_
  refine hl (bc fun h0 => by (try unfold v at h0); omega) ?_
  refine hl (bc fun h0 => by (try unfold v at h0); omega) ?_
  refine hl (bc fun h0 => by (try unfold v at h0); omega) ?_
  refine hl (bc fun h0 => by (try unfold v at h0); omega) ?_
  refine hl (bc fun h0 => by (try unfold v at h0); omega) ?_
  refine hl (bc fun h0 => by (try unfold v at h0); omega) ?_
  refine hl (bc fun h0 => by (try unfold v at h0); omega) ?_
  refine hl (bc fun h0 => by (try unfold v at h0); omega) ?_
  refine hl (bc fun h0 => by (try unfold v at h0); omega) ?_
  refine hl (bc fun h0 => by (try unfold v at h0); omega) ?_
  refine hl (bc fun h0 => by (try unfold v at h0); omega) ?_
  refine hl (bc fun h0 => by (try unfold v at h0); omega) ?_
  refine hl (bc fun h0 => by (try unfold v at h0); omega) ?_
  refine hl (bc fun h0 => by (try unfold v at h0); omega) ?_
  refine hl (bc fun h0 => by (try unfold v at h0); omega) ?_
  refine hl (bc fun h0 => by (try unfold v at h0); omega) ?_
  refine hl (bc fun h0 => by (try unfold v at h0); omega) ?_
  refine hl (bc fun h0 => by (try unfold v at h0); omega) ?_
  refine hl (bc fun h0 => by (try unfold v at h0); omega) ?_
  refine hl (bc fun h0 => by (try unfold v at h0); omega) ?_
  refine hl (bc fun h0 => by (try unfold v at h0); omega) ?_
  refine hl (bc fun h0 => by (try unfold v at h0); omega) ?_
  refine hl (bc fun h0 => by (try unfold v at h0); omega) ?_
  refine hl (bc fun h0 => by (try unfold v at h0); omega) ?_
  refine hl (bc fun h0 => by (try unfold v at h0); omega) ?_
  refine hl (bc fun h0 => by (try unfold v at h0); omega) ?_
  refine hl (bc fun h0 => by (try unfold v at h0); omega) ?_
  refine hl (bc fun h0 => by (try unfold v at h0); omega) ?_
  refine hl (bc fun h0 => by (try unfold v at h0); omega) ?_
  refine hl (bc fun h0 => by (try unfold v at h0); omega) ?_
  refine hl (bc fun h0 => by (try unfold v at h0); omega) ?_
  refine hl (bc fun h0 => by (try unfold v at h0); omega) ?_
  refine hl (bc fun h0 => by (try unfold v at h0); omega) ?_
  refine hl (bc fun h0 => by (try unfold v at h0); omega) ?_
  refine hl (bc fun h0 => by (try unfold v at h0); omega) ?_
  refine hl (bc fun h0 => by (try unfold v at h0); omega) ?_
  refine hl (bc fun h0 => by (try unfold v at h0); omega) ?_
  refine hl (bc fun h0 => by (try unfold v at h0); omega) ?_
  refine hl (bc fun h0 => by (try unfold v at h0); omega) ?_
  refine hl (bc fun h0 => by (try unfold v at h0); omega) ?_
  refine hl (bc fun h0 => by (try unfold v at h0); omega) ?_
  refine hl (bc fun h0 => by (try unfold v at h0); omega) ?_
  refine hl (bc fun h0 => by (try unfold v at h0); omega) ?_
  refine hl (bc fun h0 => by (try unfold v at h0); omega) ?_
  refine hl (bc fun h0 => by (try unfold v at h0); omega) ?_
  refine hl (bc fun h0 => by (try unfold v at h0); omega) ?_
  refine hl (bc fun h0 => by (try unfold v at h0); omega) ?_
  refine hl (bc fun h0 => by (try unfold v at h0); omega) ?_
  refine hl (bc fun h0 => by (try unfold v at h0); omega) ?_
  refine hl (bc fun h0 => by (try unfold v at h0); omega) ?_
  refine hl (bc fun h0 => by (try unfold v at h0); omega) ?_
  refine hl (bc fun h0 => by (try unfold v at h0); omega) ?_
  refine hl (bc fun h0 => by (try unfold v at h0); omega) ?_
  refine hl (bc fun h0 => by (try unfold v at h0); omega) ?_
  refine hl (bc fun h0 => by (try unfold v at h0); omega) ?_
  refine hl (bc fun h0 => by (try unfold v at h0); omega) ?_
  refine hl (bc fun h0 => by (try unfold v at h0); omega) ?_
  refine hl (bc fun h0 => by (try unfold v at h0); omega) ?_
  refine hl (bc fun h0 => by (try unfold v at h0); omega) ?_
  refine hl (bc fun h0 => by (try unfold v at h0); omega) ?_
  refine hl (bc fun h0 => by (try unfold v at h0); omega) ?_
  refine hl (bc fun h0 => by (try unfold v at h0); omega) ?_
  refine hl (bc fun h0 => by (try unfold v at h0); omega) ?_
  refine hl (bc fun h0 => by (try unfold v at h0); omega) ?_
  refine hl (bc fun h0 => by (try unfold v at h0); omega) ?_
  refine hl (bc fun h0 => by (try unfold v at h0); omega) ?_
  refine hl (bc fun h0 => by (try unfold v at h0); omega) ?_
  refine hl (bc fun h0 => by (try unfold v at h0); omega) ?_
  refine hl (bc fun h0 => by (try unfold v at h0); omega) ?_
  refine hl (bc fun h0 => by (try unfold v at h0); omega) ?_
  refine hl (bc fun h0 => by (try unfold v at h0); omega) ?_
  refine hl (bc fun h0 => by (try unfold v at h0); omega) ?_
  refine hl (bc fun h0 => by (try unfold v at h0); omega) ?_
  refine hl (bc fun h0 => by (try unfold v at h0); omega) ?_
  refine hl (bc fun h0 => by (try unfold v at h0); omega) ?_
  refine hl (bc fun h0 => by (try unfold v at h0); omega) ?_
  refine hl (bc fun h0 => by (try unfold v at h0); omega) ?_
  refine hl (bc fun h0 => by (try unfold v at h0); omega) ?_
  refine hl (bc fun h0 => by (try unfold v at h0); omega) ?_
  refine hl (bc fun h0 => by (try unfold v at h0); omega) ?_
  refine hl (bc fun h0 => by (try unfold v at h0); omega) ?_
  refine hl (bc fun h0 => by (try unfold v at h0); omega) ?_
  refine hl (bc fun h0 => by (try unfold v at h0); omega) ?_
  refine hl (bc fun h0 => by (try unfold v at h0); omega) ?_
  refine hl (bc fun h0 => by (try unfold v at h0); omega) ?_
  refine hl (bc fun h0 => by (try unfold v at h0); omega) ?_
  refine hl (bc fun h0 => by (try unfold v at h0); omega) ?_
  refine hl (bc fun h0 => by (try unfold v at h0); omega) ?_
  refine hl (bc fun h0 => by (try unfold v at h0); omega) ?_
  refine hl (bc fun h0 => by (try unfold v at h0); omega) ?_
  refine hl (bc fun h0 => by (try unfold v at h0); omega) ?_
  refine hl (bc fun h0 => by (try unfold v at h0); omega) ?_
  refine hl (bc fun h0 => by (try unfold v at h0); omega) ?_
  refine hl (bc fun h0 => by (try unfold v at h0); omega) ?_
  refine hl (bc fun h0 => by (try unfold v at h0); omega) ?_
  refine hl (bc fun h0 => by (try unfold v at h0); omega) ?_
  refine hl (bc fun h0 => by (try unfold v at h0); omega) ?_
  refine hl (bc fun h0 => by (try unfold v at h0); omega) ?_
  refine hl (bc fun h0 => by (try unfold v at h0); omega) ?_
  refine hl (bc fun h0 => by (try unfold v at h0); omega) ?_
  refine hl (bc fun h0 => by (try unfold v at h0); omega) ?_
  refine hl (bc fun h0 => by (try unfold v at h0); omega) ?_
  refine hl (bc fun h0 => by (try unfold v at h0); omega) ?_
  refine hl (bc fun h0 => by (try unfold v at h0); omega) ?_
  refine hl (bc fun h0 => by (try unfold v at h0); omega) ?_
  refine hl (bc fun h0 => by (try unfold v at h0); omega) ?_
  refine hl (bc fun h0 => by (try unfold v at h0); omega) ?_
  refine hl (bc fun h0 => by (try unfold v at h0); omega) ?_
  refine hl (bc fun h0 => by (try unfold v at h0); omega) ?_
  refine hl (bc fun h0 => by (try unfold v at h0); omega) ?_
  refine hl (bc fun h0 => by (try unfold v at h0); omega) ?_
  refine hl (bc fun h0 => by (try unfold v at h0); omega) ?_
  refine hl (bc fun h0 => by (try unfold v at h0); omega) ?_
  refine hl (bc fun h0 => by (try unfold v at h0); omega) ?_
  refine hl (bc fun h0 => by (try unfold v at h0); omega) ?_
  refine hl (bc fun h0 => by (try unfold v at h0); omega) ?_
  refine hl (bc fun h0 => by (try unfold v at h0); omega) ?_
  refine hl (bc fun h0 => by (try unfold v at h0); omega) ?_
  refine hl (bc fun h0 => by (try unfold v at h0); omega) ?_
  refine hl (bc fun h0 => by (try unfold v at h0); omega) ?_
  refine hl (bc fun h0 => by (try unfold v at h0); omega) ?_
  refine hl (bc fun h0 => by (try unfold v at h0); omega) ?_
  refine hl (bc fun h0 => by (try unfold v at h0); omega) ?_
  refine hl (bc fun h0 => by (try unfold v at h0); omega) ?_
  refine hzr (fun h0 => by omega) ?_
  refine hold_stop (fun hd hb => ?_)
  refine ok_call0 hd (vmay (n8 (sh y 0)) (n8 (sh y 8)) (n8 (sh y 16)) (n8 (sh y 24)) (n8 (sh y 32)) (n8 (sh y 40))) rfl ?_
  rintro x G ⟨rfl, ⟨rfl, my⟩ | ⟨rfl, my⟩⟩ <;> refine ⟨rfl, fun g hg => (by cases hg), ?_⟩
  ·
   refine ok_sk (.stop []) (S := .stop (Hd.leaf (.tuple [.agg [.sint .u64 (((((((((0 : Int) + (↑(y 0 % 256) : Int)) * 256 + (↑(y 1 % 256) : Int)) * 256 + (↑(y 2 % 256) : Int)) * 256 + (↑(y 3 % 256) : Int)) * 256 + (↑(y 4 % 256) : Int)) * 256 + (↑(y 5 % 256) : Int)) * 256 + (↑(y 6 % 256) : Int)) * 256 + (↑(y 7 % 256) : Int)), .sint .u64 (((((((((0 : Int) + (↑(y 8 % 256) : Int)) * 256 + (↑(y 9 % 256) : Int)) * 256 + (↑(y 10 % 256) : Int)) * 256 + (↑(y 11 % 256) : Int)) * 256 + (↑(y 12 % 256) : Int)) * 256 + (↑(y 13 % 256) : Int)) * 256 + (↑(y 14 % 256) : Int)) * 256 + (↑(y 15 % 256) : Int)), .sint .u64 (((((((((0 : Int) + (↑(y 16 % 256) : Int)) * 256 + (↑(y 17 % 256) : Int)) * 256 + (↑(y 18 % 256) : Int)) * 256 + (↑(y 19 % 256) : Int)) * 256 + (↑(y 20 % 256) : Int)) * 256 + (↑(y 21 % 256) : Int)) * 256 + (↑(y 22 % 256) : Int)) * 256 + (↑(y 23 % 256) : Int)), .sint .u64 (((((((((0 : Int) + (↑(y 24 % 256) : Int)) * 256 + (↑(y 25 % 256) : Int)) * 256 + (↑(y 26 % 256) : Int)) * 256 + (↑(y 27 % 256) : Int)) * 256 + (↑(y 28 % 256) : Int)) * 256 + (↑(y 29 % 256) : Int)) * 256 + (↑(y 30 % 256) : Int)) * 256 + (↑(y 31 % 256) : Int)), .sint .u64 (((((((((0 : Int) + (↑(y 32 % 256) : Int)) * 256 + (↑(y 33 % 256) : Int)) * 256 + (↑(y 34 % 256) : Int)) * 256 + (↑(y 35 % 256) : Int)) * 256 + (↑(y 36 % 256) : Int)) * 256 + (↑(y 37 % 256) : Int)) * 256 + (↑(y 38 % 256) : Int)) * 256 + (↑(y 39 % 256) : Int)), .sint .u64 (((((((((0 : Int) + (↑(y 40 % 256) : Int)) * 256 + (↑(y 41 % 256) : Int)) * 256 + (↑(y 42 % 256) : Int)) * 256 + (↑(y 43 % 256) : Int)) * 256 + (↑(y 44 % 256) : Int)) * 256 + (↑(y 45 % 256) : Int)) * 256 + (↑(y 46 % 256) : Int)) * 256 + (↑(y 47 % 256) : Int))], .int .i64 (0 : Int)])) [] ([])) (by kernel_rfl) ?_
   refine hold_stop (fun hd hb => ?_)
   exact ok_leaf0 hd rfl ⟨rfl, .inl ⟨rfl, my⟩⟩
  refine ok_sk (.stop []) (S := .stop (Hd.leaf (.tuple [.agg [.int .u64 (0 : Int), .int .u64 (0 : Int), .int .u64 (0 : Int), .int .u64 (0 : Int), .int .u64 (0 : Int), .int .u64 (0 : Int)], .int .i64 (5 : Int)])) [] ([])) (by kernel_rfl) ?_
  refine hold_stop (fun hd hb => ?_)
  exact ok_leaf0 hd rfl ⟨rfl, .inr ⟨rfl, my⟩⟩
end Go.Proofs.Ytjihbjjekhncaaa
namespace Go.Proofs.Ytjihbjjekhncaaa
open Go Go.RowKit Sv
set_option linter.unusedVariables false
set_option maxRecDepth 100000
set_option maxHeartbeats 0
/-- the event whose bytes stand there. -/
def evAt (A : Nat) (y : Nat → Nat) : EvI where
  o := 0 + b8 (fun i => y (A + i)) 0
  s := n8 (fun i => y (A + (1 + i)))
  d0 := n8 (fun i => y (A + (1 + (8 + (0 + (0 + i))))))
  d1 := n8 (fun i => y (A + (1 + (8 + (0 + (8 + i))))))
  d2 := n8 (fun i => y (A + (1 + (8 + (0 + (16 + i))))))
  d3 := n8 (fun i => y (A + (1 + (8 + (0 + (24 + i))))))
  d4 := n8 (fun i => y (A + (1 + (8 + (0 + (32 + i))))))
  d5 := n8 (fun i => y (A + (1 + (8 + (0 + (40 + i))))))
  k := (0 + b8 (fun i => y (A + (1 + (8 + (48 + i))))) 0) % 256
  n := n8 (fun i => y (A + (1 + (8 + (48 + (1 + i))))))
  t := 0 + b8 (fun i => y (A + (1 + (8 + (48 + (1 + (8 + i))))))) 0
  a := n8 (fun i => y (A + (1 + (8 + (48 + (1 + (8 + (1 + i))))))))
  r := n8 (fun i => y (A + (1 + (8 + (48 + (1 + (8 + (1 + (8 + i)))))))))
  f := n8 (fun i => y (A + (1 + (8 + (48 + (1 + (8 + (1 + (8 + (8 + i))))))))))
def evWr (A : Nat) (y : Nat → Nat) : EvI := { evAt A y with a := IntKind.i64.wrap (n8 (fun i => y (A + (1 + (8 + (48 + (1 + (8 + (1 + i))))))))) }
theorem evWr_no (A : Nat) (y : Nat → Nat) (h : ¬ (-9223372036854775808 ≤ n8 (fun i => y (A + (1 + (8 + (48 + (1 + (8 + (1 + i)))))))) ∧ n8 (fun i => y (A + (1 + (8 + (48 + (1 + (8 + (1 + i)))))))) ≤ 9223372036854775807)) : ¬ (evWr A y).may ∧ ¬ (evAt A y).may := by
  have b := n8_bd (fun i => y (A + (1 + (8 + (48 + (1 + (8 + (1 + i))))))))
  have e : (evWr A y).a = IntKind.i64.wrap (n8 (fun i => y (A + (1 + (8 + (48 + (1 + (8 + (1 + i))))))))) := rfl
  have e' : (evAt A y).a = n8 (fun i => y (A + (1 + (8 + (48 + (1 + (8 + (1 + i)))))))) := rfl
  have hw : ∀ z : Int, IntKind.i64.wrap z = (z + 9223372036854775808) % 18446744073709551616 - 9223372036854775808 := fun z => by simp [IntKind.wrap, IntKind.bits, IntKind.signed]; omega
  rw [hw] at e
  refine ⟨fun hm => ?_, fun hm => ?_⟩
  · have h2 := hm.2
    unfold EvI.mf at h2
    omega
  · have h2 := hm.2
    unfold EvI.mf at h2
    omega
theorem evAt_vec (A : Nat) (y : Nat → Nat) (h : (evAt A y).may) : vecMay (fun i => y (A + (1 + (8 + (0 + i))))) := by
  obtain ⟨_, ⟨k0, k1, k2, k3, k4, k5⟩, _⟩ := h.1
  exact ⟨Int.le_of_lt k0, Int.le_of_lt k1, Int.le_of_lt k2, Int.le_of_lt k3, Int.le_of_lt k4, Int.le_of_lt k5⟩
def zrow : List AV := [.int .i64 0, .int .u64 0, .int .u64 0, .int .u64 0, .int .u64 0, .int .u64 0, .int .u64 0, .int .u64 0, .int .u8 0, .int .u64 0, .int .i64 0, .int .i64 0, .int .u64 0, .int .u64 0]
theorem etake (n : Nat) (y : Nat → Nat) (hn : n ≤ 1099511627776) (a : Int) (ha : 0 ≤ a ∧ a ≤ 1099511627776) : Runs Try.prog 16 [.data 1 n (by8 y), .sint .i64 a] fun x G => G = [] ∧
    ((x = .tuple [.agg (evAt a.toNat y).row, .sint .i64 (a + 91), .int .i64 0] ∧ a + 91 ≤ n ∧ (evAt a.toNat y).may) ∨ (∃ e, x = .tuple [.agg zrow, .int .i64 0, .int .i64 e] ∧ ((e = 1 ∧ (n : Int) < a) ∨ e = 5) ∧ ¬ (a + 91 ≤ n ∧ (evAt a.toNat y).may))) := by
  refine runs_treeF plain mixed (fun g => Nat.beq g 21 || Nat.beq g 91 || Nat.beq g 55) (fun _ => false) 60 ?_
  refine ok_sk (.r (.both (.stop []) (.l (.both (.stop []) (.l (.l (.stop []))))))) (S := .right (decide (a < 0)) (.fork (decide ((↑n : Int) < a)) (.stop (Hd.leaf (.tuple [.agg [.int .i64 (0 : Int), .int .u64 (0 : Int), .int .u64 (0 : Int), .int .u64 (0 : Int), .int .u64 (0 : Int), .int .u64 (0 : Int), .int .u64 (0 : Int), .int .u64 (0 : Int), .int .u8 (0 : Int), .int .u64 (0 : Int), .int .i64 (0 : Int), .int .i64 (0 : Int), .int .u64 (0 : Int), .int .u64 (0 : Int)], .int .i64 (0 : Int), .int .i64 (1 : Int)])) [] ([])) (.left (decide ((-9223372036854775808 : Int) ≤ (↑n : Int) - a ∧ (↑n : Int) - a ≤ 9223372036854775807)) (.fork (decide ((↑n : Int) - a < 91)) (.stop (Hd.leaf (.tuple [.agg [.int .i64 (0 : Int), .int .u64 (0 : Int), .int .u64 (0 : Int), .int .u64 (0 : Int), .int .u64 (0 : Int), .int .u64 (0 : Int), .int .u64 (0 : Int), .int .u64 (0 : Int), .int .u8 (0 : Int), .int .u64 (0 : Int), .int .i64 (0 : Int), .int .i64 (0 : Int), .int .u64 (0 : Int), .int .u64 (0 : Int)], .int .i64 (0 : Int), .int .i64 (5 : Int)])) [] ([])) (.left (decide ((-9223372036854775808 : Int) ≤ a + 91 ∧ a + 91 ≤ 9223372036854775807)) (.left (decide (0 ≤ a ∧ a ≤ a + 91 ∧ a + 91 ≤ (↑n : Int))) (.stop (Hd.call 91 [.data 1 ((a + 91).toNat - a.toNat) fun (i : Nat) => [.sint .u8 (↑(y (a.toNat + i) % 256) : Int)], .int .i64 (0 : Int), .int .i64 (1 : Int)]) [] ([])))))))) (by kernel_rfl) ?_
  refine hzr (fun h0 => by omega) ?_
  refine hold_forkD (fun h0 => ?_) (fun h0 => ?_)
  ·
   refine hold_stop (fun hd hb => ?_)
   exact ok_leaf0 hd rfl ⟨rfl, .inr ⟨_, rfl, .inl ⟨rfl, by omega⟩, fun h => by omega⟩⟩
  refine hl (bc fun h1 => by omega) ?_
  refine hold_forkD (fun h1 => ?_) (fun h1 => ?_)
  ·
   refine hold_stop (fun hd hb => ?_)
   exact ok_leaf0 hd rfl ⟨rfl, .inr ⟨_, rfl, .inr rfl, fun h => by omega⟩⟩
  refine hl (bc fun h2 => by omega) ?_
  refine hl (bc fun h2 => by omega) ?_
  refine hold_stop (fun hd hb => ?_)
  first | refine ok_call0 hd (otake8 _ _ ⟨by omega, by omega⟩) rfl ?_ | refine ok_call0 hd (otake1 _ _ ⟨by omega, by omega⟩) rfl ?_
  rintro x G ⟨rfl, rfl, bh2⟩
  refine ⟨rfl, fun g hg => (by cases hg), ?_⟩
  refine ok_sk (.l (.l (.stop []))) (S := .left (decide ((0 : Int) ≤ 1 ∧ 1 ≤ (↑((a + 91).toNat - a.toNat) : Int) ∧ (↑((a + 91).toNat - a.toNat) : Int) ≤ (↑((a + 91).toNat - a.toNat) : Int))) (.left (decide ((-9223372036854775808 : Int) ≤ 0 + b8 (fun (i : Nat) => y (a.toNat + i)) 0 ∧ (0 : Int) + b8 (fun (i : Nat) => y (a.toNat + i)) 0 ≤ 9223372036854775807)) (.stop (Hd.call 91 [.data 1 ((↑((a + 91).toNat - a.toNat) : Int).toNat - 1) fun (i : Nat) => [.sint .u8 (↑(y (a.toNat + (1 + i)) % 256) : Int)], .int .i64 (0 : Int), .int .i64 (8 : Int)]) [] ([])))) (by kernel_rfl) ?_
  refine hl (bc fun h3 => by omega) ?_
  refine hl (bc fun h3 => by omega) ?_
  refine hold_stop (fun hd hb => ?_)
  first | refine ok_call0 hd (otake8 _ _ ⟨by omega, by omega⟩) rfl ?_ | refine ok_call0 hd (otake1 _ _ ⟨by omega, by omega⟩) rfl ?_
  rintro x G ⟨rfl, rfl, bh3⟩
  refine ⟨rfl, fun g hg => (by cases hg), ?_⟩
  refine ok_sk (.l (.l (.stop []))) (S := .left (decide ((0 : Int) ≤ 8 ∧ 8 ≤ (↑((↑((a + 91).toNat - a.toNat) : Int).toNat - 1) : Int) ∧ (↑((↑((a + 91).toNat - a.toNat) : Int).toNat - 1) : Int) ≤ (↑((↑((a + 91).toNat - a.toNat) : Int).toNat - 1) : Int))) (.left (decide ((0 : Int) ≤ 0 ∧ (0 : Int) ≤ 48 ∧ 48 ≤ (↑((↑((↑((a + 91).toNat - a.toNat) : Int).toNat - 1) : Int).toNat - 8) : Int))) (.stop (Hd.call 55 [.data 1 48 fun (i : Nat) => [.sint .u8 (↑(y (a.toNat + (1 + (8 + (0 + i)))) % 256) : Int)]]) [] ([])))) (by kernel_rfl) ?_
  refine hl (bc fun h4 => by omega) ?_
  refine hl (bc fun h4 => by omega) ?_
  refine hold_stop (fun hd hb => ?_)
  refine ok_call0 hd (vof _) rfl ?_
  rintro x G ⟨rfl, ⟨rfl, vv⟩ | ⟨rfl, vv⟩⟩ <;> refine ⟨rfl, fun g hg => (by cases hg), ?_⟩
  ·
   refine ok_sk (.l (.stop [])) (S := .left (decide ((0 : Int) ≤ 48 ∧ 48 ≤ (↑((↑((↑((a + 91).toNat - a.toNat) : Int).toNat - 1) : Int).toNat - 8) : Int) ∧ (↑((↑((↑((a + 91).toNat - a.toNat) : Int).toNat - 1) : Int).toNat - 8) : Int) ≤ (↑((↑((↑((a + 91).toNat - a.toNat) : Int).toNat - 1) : Int).toNat - 8) : Int))) (.stop (Hd.call 91 [.data 1 ((↑((↑((↑((a + 91).toNat - a.toNat) : Int).toNat - 1) : Int).toNat - 8) : Int).toNat - 48) fun (i : Nat) => [.sint .u8 (↑(y (a.toNat + (1 + (8 + (48 + i)))) % 256) : Int)], .int .i64 (0 : Int), .int .i64 (1 : Int)]) [] ([]))) (by kernel_rfl) ?_
   refine hl (bc fun h5 => by omega) ?_
   refine hold_stop (fun hd hb => ?_)
   first | refine ok_call0 hd (otake8 _ _ ⟨by omega, by omega⟩) rfl ?_ | refine ok_call0 hd (otake1 _ _ ⟨by omega, by omega⟩) rfl ?_
   rintro x G ⟨rfl, rfl, bh5⟩
   refine ⟨rfl, fun g hg => (by cases hg), ?_⟩
   refine ok_sk (.l (.stop [])) (S := .left (decide ((0 : Int) ≤ 1 ∧ 1 ≤ (↑((↑((↑((↑((a + 91).toNat - a.toNat) : Int).toNat - 1) : Int).toNat - 8) : Int).toNat - 48) : Int) ∧ (↑((↑((↑((↑((a + 91).toNat - a.toNat) : Int).toNat - 1) : Int).toNat - 8) : Int).toNat - 48) : Int) ≤ (↑((↑((↑((↑((a + 91).toNat - a.toNat) : Int).toNat - 1) : Int).toNat - 8) : Int).toNat - 48) : Int))) (.stop (Hd.call 91 [.data 1 ((↑((↑((↑((↑((a + 91).toNat - a.toNat) : Int).toNat - 1) : Int).toNat - 8) : Int).toNat - 48) : Int).toNat - 1) fun (i : Nat) => [.sint .u8 (↑(y (a.toNat + (1 + (8 + (48 + (1 + i))))) % 256) : Int)], .int .i64 (0 : Int), .int .i64 (8 : Int)]) [] ([]))) (by kernel_rfl) ?_
   refine hl (bc fun h6 => by omega) ?_
   refine hold_stop (fun hd hb => ?_)
   first | refine ok_call0 hd (otake8 _ _ ⟨by omega, by omega⟩) rfl ?_ | refine ok_call0 hd (otake1 _ _ ⟨by omega, by omega⟩) rfl ?_
   rintro x G ⟨rfl, rfl, bh6⟩
   refine ⟨rfl, fun g hg => (by cases hg), ?_⟩
   refine ok_sk (.l (.stop [])) (S := .left (decide ((0 : Int) ≤ 8 ∧ 8 ≤ (↑((↑((↑((↑((↑((a + 91).toNat - a.toNat) : Int).toNat - 1) : Int).toNat - 8) : Int).toNat - 48) : Int).toNat - 1) : Int) ∧ (↑((↑((↑((↑((↑((a + 91).toNat - a.toNat) : Int).toNat - 1) : Int).toNat - 8) : Int).toNat - 48) : Int).toNat - 1) : Int) ≤ (↑((↑((↑((↑((↑((a + 91).toNat - a.toNat) : Int).toNat - 1) : Int).toNat - 8) : Int).toNat - 48) : Int).toNat - 1) : Int))) (.stop (Hd.call 91 [.data 1 ((↑((↑((↑((↑((↑((a + 91).toNat - a.toNat) : Int).toNat - 1) : Int).toNat - 8) : Int).toNat - 48) : Int).toNat - 1) : Int).toNat - 8) fun (i : Nat) => [.sint .u8 (↑(y (a.toNat + (1 + (8 + (48 + (1 + (8 + i)))))) % 256) : Int)], .int .i64 (0 : Int), .int .i64 (1 : Int)]) [] ([]))) (by kernel_rfl) ?_
   refine hl (bc fun h7 => by omega) ?_
   refine hold_stop (fun hd hb => ?_)
   first | refine ok_call0 hd (otake8 _ _ ⟨by omega, by omega⟩) rfl ?_ | refine ok_call0 hd (otake1 _ _ ⟨by omega, by omega⟩) rfl ?_
   rintro x G ⟨rfl, rfl, bh7⟩
   refine ⟨rfl, fun g hg => (by cases hg), ?_⟩
   refine ok_sk (.l (.l (.stop []))) (S := .left (decide ((0 : Int) ≤ 1 ∧ 1 ≤ (↑((↑((↑((↑((↑((↑((a + 91).toNat - a.toNat) : Int).toNat - 1) : Int).toNat - 8) : Int).toNat - 48) : Int).toNat - 1) : Int).toNat - 8) : Int) ∧ (↑((↑((↑((↑((↑((↑((a + 91).toNat - a.toNat) : Int).toNat - 1) : Int).toNat - 8) : Int).toNat - 48) : Int).toNat - 1) : Int).toNat - 8) : Int) ≤ (↑((↑((↑((↑((↑((↑((a + 91).toNat - a.toNat) : Int).toNat - 1) : Int).toNat - 8) : Int).toNat - 48) : Int).toNat - 1) : Int).toNat - 8) : Int))) (.left (decide ((-9223372036854775808 : Int) ≤ 0 + b8 (fun (i : Nat) => y (a.toNat + (1 + (8 + (48 + (1 + (8 + i))))))) 0 ∧ (0 : Int) + b8 (fun (i : Nat) => y (a.toNat + (1 + (8 + (48 + (1 + (8 + i))))))) 0 ≤ 9223372036854775807)) (.stop (Hd.call 91 [.data 1 ((↑((↑((↑((↑((↑((↑((a + 91).toNat - a.toNat) : Int).toNat - 1) : Int).toNat - 8) : Int).toNat - 48) : Int).toNat - 1) : Int).toNat - 8) : Int).toNat - 1) fun (i : Nat) => [.sint .u8 (↑(y (a.toNat + (1 + (8 + (48 + (1 + (8 + (1 + i))))))) % 256) : Int)], .int .i64 (0 : Int), .int .i64 (8 : Int)]) [] ([])))) (by kernel_rfl) ?_
   refine hl (bc fun h8 => by omega) ?_
   refine hl (bc fun h8 => by omega) ?_
   refine hold_stop (fun hd hb => ?_)
   first | refine ok_call0 hd (otake8 _ _ ⟨by omega, by omega⟩) rfl ?_ | refine ok_call0 hd (otake1 _ _ ⟨by omega, by omega⟩) rfl ?_
   rintro x G ⟨rfl, rfl, bh8⟩
   refine ⟨rfl, fun g hg => (by cases hg), ?_⟩
   refine ok_sk (.l (.both (.stop []) (.stop []))) (S := .left (decide ((0 : Int) ≤ 8 ∧ 8 ≤ (↑((↑((↑((↑((↑((↑((↑((a + 91).toNat - a.toNat) : Int).toNat - 1) : Int).toNat - 8) : Int).toNat - 48) : Int).toNat - 1) : Int).toNat - 8) : Int).toNat - 1) : Int) ∧ (↑((↑((↑((↑((↑((↑((↑((a + 91).toNat - a.toNat) : Int).toNat - 1) : Int).toNat - 8) : Int).toNat - 48) : Int).toNat - 1) : Int).toNat - 8) : Int).toNat - 1) : Int) ≤ (↑((↑((↑((↑((↑((↑((↑((a + 91).toNat - a.toNat) : Int).toNat - 1) : Int).toNat - 8) : Int).toNat - 48) : Int).toNat - 1) : Int).toNat - 8) : Int).toNat - 1) : Int))) (.fork (decide (((-9223372036854775808 : Int) ≤ n8 fun (i : Nat) => y (a.toNat + (1 + (8 + (48 + (1 + (8 + (1 + i)))))))) ∧ (n8 fun (i : Nat) => y (a.toNat + (1 + (8 + (48 + (1 + (8 + (1 + i)))))))) ≤ 9223372036854775807)) (.stop (Hd.call 91 [.data 1 ((↑((↑((↑((↑((↑((↑((↑((a + 91).toNat - a.toNat) : Int).toNat - 1) : Int).toNat - 8) : Int).toNat - 48) : Int).toNat - 1) : Int).toNat - 8) : Int).toNat - 1) : Int).toNat - 8) fun (i : Nat) => [.sint .u8 (↑(y (a.toNat + (1 + (8 + (48 + (1 + (8 + (1 + (8 + i)))))))) % 256) : Int)], .int .i64 (0 : Int), .int .i64 (8 : Int)]) [] ([])) (.stop (Hd.call 91 [.data 1 ((↑((↑((↑((↑((↑((↑((↑((a + 91).toNat - a.toNat) : Int).toNat - 1) : Int).toNat - 8) : Int).toNat - 48) : Int).toNat - 1) : Int).toNat - 8) : Int).toNat - 1) : Int).toNat - 8) fun (i : Nat) => [.sint .u8 (↑(y (a.toNat + (1 + (8 + (48 + (1 + (8 + (1 + (8 + i)))))))) % 256) : Int)], .int .i64 (0 : Int), .int .i64 (8 : Int)]) [] ([])))) (by kernel_rfl) ?_
   refine hl (bc fun h9 => by omega) ?_
   refine hold_forkD (fun h9 => ?_) (fun h9 => ?_)
   ·
    refine hold_stop (fun hd hb => ?_)
    first | refine ok_call0 hd (otake8 _ _ ⟨by omega, by omega⟩) rfl ?_ | refine ok_call0 hd (otake1 _ _ ⟨by omega, by omega⟩) rfl ?_
    rintro x G ⟨rfl, rfl, bh10⟩
    refine ⟨rfl, fun g hg => (by cases hg), ?_⟩
    refine ok_sk (.l (.stop [])) (S := .left (decide ((0 : Int) ≤ 8 ∧ 8 ≤ (↑((↑((↑((↑((↑((↑((↑((↑((a + 91).toNat - a.toNat) : Int).toNat - 1) : Int).toNat - 8) : Int).toNat - 48) : Int).toNat - 1) : Int).toNat - 8) : Int).toNat - 1) : Int).toNat - 8) : Int) ∧ (↑((↑((↑((↑((↑((↑((↑((↑((a + 91).toNat - a.toNat) : Int).toNat - 1) : Int).toNat - 8) : Int).toNat - 48) : Int).toNat - 1) : Int).toNat - 8) : Int).toNat - 1) : Int).toNat - 8) : Int) ≤ (↑((↑((↑((↑((↑((↑((↑((↑((a + 91).toNat - a.toNat) : Int).toNat - 1) : Int).toNat - 8) : Int).toNat - 48) : Int).toNat - 1) : Int).toNat - 8) : Int).toNat - 1) : Int).toNat - 8) : Int))) (.stop (Hd.call 91 [.data 1 ((↑((↑((↑((↑((↑((↑((↑((↑((a + 91).toNat - a.toNat) : Int).toNat - 1) : Int).toNat - 8) : Int).toNat - 48) : Int).toNat - 1) : Int).toNat - 8) : Int).toNat - 1) : Int).toNat - 8) : Int).toNat - 8) fun (i : Nat) => [.sint .u8 (↑(y (a.toNat + (1 + (8 + (48 + (1 + (8 + (1 + (8 + (8 + i))))))))) % 256) : Int)], .int .i64 (0 : Int), .int .i64 (8 : Int)]) [] ([]))) (by kernel_rfl) ?_
    refine hl (bc fun h11 => by omega) ?_
    refine hold_stop (fun hd hb => ?_)
    first | refine ok_call0 hd (otake8 _ _ ⟨by omega, by omega⟩) rfl ?_ | refine ok_call0 hd (otake1 _ _ ⟨by omega, by omega⟩) rfl ?_
    rintro x G ⟨rfl, rfl, bh11⟩
    refine ⟨rfl, fun g hg => (by cases hg), ?_⟩
    refine ok_sk (.l (.stop [])) (S := .left (decide ((0 : Int) ≤ 8 ∧ 8 ≤ (↑((↑((↑((↑((↑((↑((↑((↑((↑((a + 91).toNat - a.toNat) : Int).toNat - 1) : Int).toNat - 8) : Int).toNat - 48) : Int).toNat - 1) : Int).toNat - 8) : Int).toNat - 1) : Int).toNat - 8) : Int).toNat - 8) : Int) ∧ (↑((↑((↑((↑((↑((↑((↑((↑((↑((a + 91).toNat - a.toNat) : Int).toNat - 1) : Int).toNat - 8) : Int).toNat - 48) : Int).toNat - 1) : Int).toNat - 8) : Int).toNat - 1) : Int).toNat - 8) : Int).toNat - 8) : Int) ≤ (↑((↑((↑((↑((↑((↑((↑((↑((↑((a + 91).toNat - a.toNat) : Int).toNat - 1) : Int).toNat - 8) : Int).toNat - 48) : Int).toNat - 1) : Int).toNat - 8) : Int).toNat - 1) : Int).toNat - 8) : Int).toNat - 8) : Int))) (.stop (Hd.call 21 [.agg [.sint .i64 ((0 : Int) + b8 (fun (i : Nat) => y (a.toNat + i)) 0), .sint .u64 (n8 fun (i : Nat) => y (a.toNat + (1 + i))), .sint .u64 (n8 fun (i : Nat) => y (a.toNat + (1 + (8 + (0 + (0 + i)))))), .sint .u64 (n8 fun (i : Nat) => y (a.toNat + (1 + (8 + (0 + (8 + i)))))), .sint .u64 (n8 fun (i : Nat) => y (a.toNat + (1 + (8 + (0 + (16 + i)))))), .sint .u64 (n8 fun (i : Nat) => y (a.toNat + (1 + (8 + (0 + (24 + i)))))), .sint .u64 (n8 fun (i : Nat) => y (a.toNat + (1 + (8 + (0 + (32 + i)))))), .sint .u64 (n8 fun (i : Nat) => y (a.toNat + (1 + (8 + (0 + (40 + i)))))), .sint .u8 (((0 : Int) + b8 (fun (i : Nat) => y (a.toNat + (1 + (8 + (48 + i))))) 0) % 256), .sint .u64 (n8 fun (i : Nat) => y (a.toNat + (1 + (8 + (48 + (1 + i)))))), .sint .i64 ((0 : Int) + b8 (fun (i : Nat) => y (a.toNat + (1 + (8 + (48 + (1 + (8 + i))))))) 0), .sint .i64 (n8 fun (i : Nat) => y (a.toNat + (1 + (8 + (48 + (1 + (8 + (1 + i)))))))), .sint .u64 (n8 fun (i : Nat) => y (a.toNat + (1 + (8 + (48 + (1 + (8 + (1 + (8 + i))))))))), .sint .u64 (n8 fun (i : Nat) => y (a.toNat + (1 + (8 + (48 + (1 + (8 + (1 + (8 + (8 + i))))))))))]]) [] ([]))) (by kernel_rfl) ?_
    refine hl (bc fun h12 => by omega) ?_
    refine hold_stop (fun hd hb => ?_)
    first
      | (refine ok_call0 hd (emay (evAt a.toNat y)) rfl ?_
         rintro x G (⟨rfl, rfl, my⟩ | ⟨rfl, rfl, my⟩) <;> refine ⟨rfl, fun g hg => (by cases hg), ?_⟩)
      | (refine ok_call0 hd (emay (evWr a.toNat y)) rfl ?_
         rintro x G (⟨rfl, rfl, my⟩ | ⟨rfl, rfl, my⟩)
         · exact ((evWr_no a.toNat y (by assumption)).1 my).elim
         have mz := (evWr_no a.toNat y (by assumption)).2
         refine ⟨rfl, fun g hg => (by cases hg), ?_⟩)
    ·
     refine ok_sk (.l (.stop [])) (S := .left (decide ((-9223372036854775808 : Int) ≤ a + 91 ∧ a + 91 ≤ 9223372036854775807)) (.stop (Hd.leaf (.tuple [.agg [.sint .i64 ((0 : Int) + b8 (fun (i : Nat) => y (a.toNat + i)) 0), .sint .u64 (n8 fun (i : Nat) => y (a.toNat + (1 + i))), .sint .u64 (n8 fun (i : Nat) => y (a.toNat + (1 + (8 + (0 + (0 + i)))))), .sint .u64 (n8 fun (i : Nat) => y (a.toNat + (1 + (8 + (0 + (8 + i)))))), .sint .u64 (n8 fun (i : Nat) => y (a.toNat + (1 + (8 + (0 + (16 + i)))))), .sint .u64 (n8 fun (i : Nat) => y (a.toNat + (1 + (8 + (0 + (24 + i)))))), .sint .u64 (n8 fun (i : Nat) => y (a.toNat + (1 + (8 + (0 + (32 + i)))))), .sint .u64 (n8 fun (i : Nat) => y (a.toNat + (1 + (8 + (0 + (40 + i)))))), .sint .u8 (((0 : Int) + b8 (fun (i : Nat) => y (a.toNat + (1 + (8 + (48 + i))))) 0) % 256), .sint .u64 (n8 fun (i : Nat) => y (a.toNat + (1 + (8 + (48 + (1 + i)))))), .sint .i64 ((0 : Int) + b8 (fun (i : Nat) => y (a.toNat + (1 + (8 + (48 + (1 + (8 + i))))))) 0), .sint .i64 (n8 fun (i : Nat) => y (a.toNat + (1 + (8 + (48 + (1 + (8 + (1 + i)))))))), .sint .u64 (n8 fun (i : Nat) => y (a.toNat + (1 + (8 + (48 + (1 + (8 + (1 + (8 + i))))))))), .sint .u64 (n8 fun (i : Nat) => y (a.toNat + (1 + (8 + (48 + (1 + (8 + (1 + (8 + (8 + i))))))))))], .sint .i64 (a + 91), .int .i64 (0 : Int)])) [] ([]))) (by kernel_rfl) ?_
     refine hl (bc fun h13 => by omega) ?_
     refine hold_stop (fun hd hb => ?_)
     exact ok_leaf0 hd rfl ⟨rfl, .inl ⟨rfl, by omega, my⟩⟩
    refine ok_sk (.stop []) (S := .stop (Hd.leaf (.tuple [.agg [.int .i64 (0 : Int), .int .u64 (0 : Int), .int .u64 (0 : Int), .int .u64 (0 : Int), .int .u64 (0 : Int), .int .u64 (0 : Int), .int .u64 (0 : Int), .int .u64 (0 : Int), .int .u8 (0 : Int), .int .u64 (0 : Int), .int .i64 (0 : Int), .int .i64 (0 : Int), .int .u64 (0 : Int), .int .u64 (0 : Int)], .int .i64 (0 : Int), .int .i64 (5 : Int)])) [] ([])) (by kernel_rfl) ?_
    refine hold_stop (fun hd hb => ?_)
    exact ok_leaf0 hd rfl ⟨rfl, .inr ⟨_, rfl, .inr rfl, fun h => my h.2⟩⟩
   refine hold_stop (fun hd hb => ?_)
   first | refine ok_call0 hd (otake8 _ _ ⟨by omega, by omega⟩) rfl ?_ | refine ok_call0 hd (otake1 _ _ ⟨by omega, by omega⟩) rfl ?_
   rintro x G ⟨rfl, rfl, bh10⟩
   refine ⟨rfl, fun g hg => (by cases hg), ?_⟩
   refine ok_sk (.l (.stop [])) (S := .left (decide ((0 : Int) ≤ 8 ∧ 8 ≤ (↑((↑((↑((↑((↑((↑((↑((↑((a + 91).toNat - a.toNat) : Int).toNat - 1) : Int).toNat - 8) : Int).toNat - 48) : Int).toNat - 1) : Int).toNat - 8) : Int).toNat - 1) : Int).toNat - 8) : Int) ∧ (↑((↑((↑((↑((↑((↑((↑((↑((a + 91).toNat - a.toNat) : Int).toNat - 1) : Int).toNat - 8) : Int).toNat - 48) : Int).toNat - 1) : Int).toNat - 8) : Int).toNat - 1) : Int).toNat - 8) : Int) ≤ (↑((↑((↑((↑((↑((↑((↑((↑((a + 91).toNat - a.toNat) : Int).toNat - 1) : Int).toNat - 8) : Int).toNat - 48) : Int).toNat - 1) : Int).toNat - 8) : Int).toNat - 1) : Int).toNat - 8) : Int))) (.stop (Hd.call 91 [.data 1 ((↑((↑((↑((↑((↑((↑((↑((↑((a + 91).toNat - a.toNat) : Int).toNat - 1) : Int).toNat - 8) : Int).toNat - 48) : Int).toNat - 1) : Int).toNat - 8) : Int).toNat - 1) : Int).toNat - 8) : Int).toNat - 8) fun (i : Nat) => [.sint .u8 (↑(y (a.toNat + (1 + (8 + (48 + (1 + (8 + (1 + (8 + (8 + i))))))))) % 256) : Int)], .int .i64 (0 : Int), .int .i64 (8 : Int)]) [] ([]))) (by kernel_rfl) ?_
   refine hl (bc fun h11 => by omega) ?_
   refine hold_stop (fun hd hb => ?_)
   first | refine ok_call0 hd (otake8 _ _ ⟨by omega, by omega⟩) rfl ?_ | refine ok_call0 hd (otake1 _ _ ⟨by omega, by omega⟩) rfl ?_
   rintro x G ⟨rfl, rfl, bh11⟩
   refine ⟨rfl, fun g hg => (by cases hg), ?_⟩
   refine ok_sk (.l (.stop [])) (S := .left (decide ((0 : Int) ≤ 8 ∧ 8 ≤ (↑((↑((↑((↑((↑((↑((↑((↑((↑((a + 91).toNat - a.toNat) : Int).toNat - 1) : Int).toNat - 8) : Int).toNat - 48) : Int).toNat - 1) : Int).toNat - 8) : Int).toNat - 1) : Int).toNat - 8) : Int).toNat - 8) : Int) ∧ (↑((↑((↑((↑((↑((↑((↑((↑((↑((a + 91).toNat - a.toNat) : Int).toNat - 1) : Int).toNat - 8) : Int).toNat - 48) : Int).toNat - 1) : Int).toNat - 8) : Int).toNat - 1) : Int).toNat - 8) : Int).toNat - 8) : Int) ≤ (↑((↑((↑((↑((↑((↑((↑((↑((↑((a + 91).toNat - a.toNat) : Int).toNat - 1) : Int).toNat - 8) : Int).toNat - 48) : Int).toNat - 1) : Int).toNat - 8) : Int).toNat - 1) : Int).toNat - 8) : Int).toNat - 8) : Int))) (.stop (Hd.call 21 [.agg [.sint .i64 ((0 : Int) + b8 (fun (i : Nat) => y (a.toNat + i)) 0), .sint .u64 (n8 fun (i : Nat) => y (a.toNat + (1 + i))), .sint .u64 (n8 fun (i : Nat) => y (a.toNat + (1 + (8 + (0 + (0 + i)))))), .sint .u64 (n8 fun (i : Nat) => y (a.toNat + (1 + (8 + (0 + (8 + i)))))), .sint .u64 (n8 fun (i : Nat) => y (a.toNat + (1 + (8 + (0 + (16 + i)))))), .sint .u64 (n8 fun (i : Nat) => y (a.toNat + (1 + (8 + (0 + (24 + i)))))), .sint .u64 (n8 fun (i : Nat) => y (a.toNat + (1 + (8 + (0 + (32 + i)))))), .sint .u64 (n8 fun (i : Nat) => y (a.toNat + (1 + (8 + (0 + (40 + i)))))), .sint .u8 (((0 : Int) + b8 (fun (i : Nat) => y (a.toNat + (1 + (8 + (48 + i))))) 0) % 256), .sint .u64 (n8 fun (i : Nat) => y (a.toNat + (1 + (8 + (48 + (1 + i)))))), .sint .i64 ((0 : Int) + b8 (fun (i : Nat) => y (a.toNat + (1 + (8 + (48 + (1 + (8 + i))))))) 0), .sint .i64 (IntKind.i64.wrap (n8 fun (i : Nat) => y (a.toNat + (1 + (8 + (48 + (1 + (8 + (1 + i))))))))), .sint .u64 (n8 fun (i : Nat) => y (a.toNat + (1 + (8 + (48 + (1 + (8 + (1 + (8 + i))))))))), .sint .u64 (n8 fun (i : Nat) => y (a.toNat + (1 + (8 + (48 + (1 + (8 + (1 + (8 + (8 + i))))))))))]]) [] ([]))) (by kernel_rfl) ?_
   refine hl (bc fun h12 => by omega) ?_
   refine hold_stop (fun hd hb => ?_)
   first
     | (refine ok_call0 hd (emay (evAt a.toNat y)) rfl ?_
        rintro x G (⟨rfl, rfl, my⟩ | ⟨rfl, rfl, my⟩) <;> refine ⟨rfl, fun g hg => (by cases hg), ?_⟩)
     | (refine ok_call0 hd (emay (evWr a.toNat y)) rfl ?_
        rintro x G (⟨rfl, rfl, my⟩ | ⟨rfl, rfl, my⟩)
        · exact ((evWr_no a.toNat y (by assumption)).1 my).elim
        have mz := (evWr_no a.toNat y (by assumption)).2
        refine ⟨rfl, fun g hg => (by cases hg), ?_⟩)
   refine ok_sk (.stop []) (S := .stop (Hd.leaf (.tuple [.agg [.int .i64 (0 : Int), .int .u64 (0 : Int), .int .u64 (0 : Int), .int .u64 (0 : Int), .int .u64 (0 : Int), .int .u64 (0 : Int), .int .u64 (0 : Int), .int .u64 (0 : Int), .int .u8 (0 : Int), .int .u64 (0 : Int), .int .i64 (0 : Int), .int .i64 (0 : Int), .int .u64 (0 : Int), .int .u64 (0 : Int)], .int .i64 (0 : Int), .int .i64 (5 : Int)])) [] ([])) (by kernel_rfl) ?_
   refine hold_stop (fun hd hb => ?_)
   exact ok_leaf0 hd rfl ⟨rfl, .inr ⟨_, rfl, .inr rfl, fun h => mz h.2⟩⟩
  refine ok_sk (.stop []) (S := .stop (Hd.leaf (.tuple [.agg [.int .i64 (0 : Int), .int .u64 (0 : Int), .int .u64 (0 : Int), .int .u64 (0 : Int), .int .u64 (0 : Int), .int .u64 (0 : Int), .int .u64 (0 : Int), .int .u64 (0 : Int), .int .u8 (0 : Int), .int .u64 (0 : Int), .int .i64 (0 : Int), .int .i64 (0 : Int), .int .u64 (0 : Int), .int .u64 (0 : Int)], .int .i64 (0 : Int), .int .i64 (5 : Int)])) [] ([])) (by kernel_rfl) ?_
  refine hold_stop (fun hd hb => ?_)
  exact ok_leaf0 hd rfl ⟨rfl, .inr ⟨_, rfl, .inr rfl, fun h => vv (evAt_vec _ _ h.2)⟩⟩
end Go.Proofs.Ytjihbjjekhncaaa
namespace Go.Proofs.Ytjihbjjekhncaaa
open Go Go.RowKit Sv
set_option linter.unusedVariables false
set_option maxRecDepth 100000
set_option maxHeartbeats 0
def allS (n : Nat) (y : Nat → Nat) (q : Nat) : List AV := [.data 1 n (by8 y), .top, .top, .top, .gsl 0 q, .sint .i64 (91 * q), .top, .top, .top, .top, .top, .top, .top, .top, .top, .top, .top, .top, .top, .top, .top, .top, .top, .top, .top, .top, .top, .top, .top, .top]
def allF (y : Nat → Nat) (j : Nat) : List AV := (evAt (91 * j) y).row
def allG (y : Nat → Nat) (q : Nat) : List NewB := [.seq 14 q (allF y)]
def allMay (y : Nat → Nat) (q : Nat) : Prop := ∀ j, j < q → (evAt (91 * j) y).may
theorem all_next {y : Nat → Nat} {q : Nat} (h : allMay y q) (k : (evAt (91 * (q : Int)).toNat y).may) : allMay y (q + 1) := fun j hj => by
  by_cases e : j < q
  · exact h j e
  · obtain rfl : j = q := by omega
    rw [show (91 * (j : Int)).toNat = 91 * j by omega] at k
    exact k
theorem all_no {n q : Nat} {y : Nat → Nat} (k : ¬ (91 * (q : Int) + 91 ≤ (n : Int) ∧ (evAt (91 * (q : Int)).toNat y).may)) (hq : 91 * q < n) : ¬ ∃ q, n = 91 * q ∧ allMay y q := by
  rintro ⟨r, h1, h2⟩
  refine k ⟨by omega, ?_⟩
  rw [show (91 * (q : Int)).toNat = 91 * q by omega]
  exact h2 q (by omega)
theorem all_glue (y : Nat → Nat) (q : Nat) {g : Nat → List AV} (hg : g 0 = (evAt (91 * (q : Int)).toNat y).row) : ∀ i, i < q + 1 → allF y i = glue q (allF y) g i ∧ nfs (allF y i) = true := fun i hi => by
  refine ⟨?_, rfl⟩
  unfold glue
  by_cases h : i < q
  · rw [if_pos h]
  · obtain rfl : i = q := by omega
    rw [if_neg h, Nat.sub_self, hg, show (91 * (i : Int)).toNat = 91 * i by omega]
    rfl
theorem eall (n : Nat) (y : Nat → Nat) (hn : n ≤ 5000) : Runs Try.prog 18 [.data 1 n (by8 y)] fun x G =>
    (∃ q, n = 91 * q ∧ allMay y q ∧ x = .tuple [.gsl 0 q, .int .i64 0] ∧ G = allG y q) ∨ (x = .tuple [.nilSlice, .int .i64 5] ∧ G = [] ∧ ¬ ∃ q, n = 91 * q ∧ allMay y q) ∨ (x = .tuple [.nilSlice, .int .i64 0] ∧ G = [] ∧ n = 0) := by
  refine runs_treeF plain mixed (fun g => Nat.beq g 16) (fun _ => true) 60 ?_
  refine ok_sk (.stop []) (S := .stop (Hd.loop 54 [.data 1 n (by8 y), .tuple [], .nilSlice, .int .i64 (0 : Int), .nilSlice, .int .i64 (0 : Int), .tuple [], .tuple [], .tuple [], .tuple [], .tuple [], .tuple [], .tuple [], .tuple [], .tuple [], .tuple [], .tuple [], .tuple [], .tuple [], .tuple [], .tuple [], .tuple [], .tuple [], .tuple [], .tuple [], .tuple [], .tuple [], .tuple [], .tuple [], .tuple []]) [] ([])) (by kernel_rfl) ?_
  refine hold_stop (fun hd hb => ?_)
  refine ok_loop hd (X := {q : Nat // 91 * q ≤ n ∧ allMay y q}) (fun q => allS n y q.1) (fun q => allG y q.1) (fun q => n - 91 * q.1) [none] ⟨0, by omega, fun j hj => absurd hj (Nat.not_lt_zero j)⟩ (fits_none (by simp [allS, fitsA, fitA, nf])) ?_
  rintro ⟨q, q1, qm⟩
  refine ok_sk (.both (.stop []) (.stop [0])) (S := .fork (decide ((91 : Int) * (↑q : Int) < (↑n : Int))) (.stop (Hd.call 16 [.data 1 n (by8 y), .sint .i64 ((91 : Int) * (↑q : Int))]) [] ([])) (.stop (Hd.leaf (.tuple [.gsl 0 q, .int .i64 (0 : Int)])) [0] ([(some (Blk.seq 0 14 q (allF y)), some (14, q, allF y))]))) (by kernel_rfl) ?_
  refine hold_forkD (fun h1 => ?_) (fun h1 => ?_)
  ·
   refine hold_stop (fun hd hb => ?_)
   refine ok_call0 hd (etake n y (by omega) (91 * (q : Int)) ⟨by omega, by omega⟩) rfl ?_
   rintro x G ⟨rfl, ⟨rfl, k1, km⟩ | ⟨e, rfl, ⟨rfl, ke⟩ | rfl, km⟩⟩ <;> first | (exfalso; omega) | refine ⟨rfl, fun g hg => (by cases hg), ?_⟩
   ·
    refine ok_sk (.l (.l (.l (.stop [3, 1, 0, 2])))) (S := .left (@decide (1 < 65536 ∧ RowsOK 14 1 fun (i : Nat) => List.take 14 (List.drop (i * 14) [.sint .i64 (evAt ((91 : Int) * (↑q : Int)).toNat y).o, .sint .u64 (evAt ((91 : Int) * (↑q : Int)).toNat y).s, .sint .u64 (evAt ((91 : Int) * (↑q : Int)).toNat y).d0, .sint .u64 (evAt ((91 : Int) * (↑q : Int)).toNat y).d1, .sint .u64 (evAt ((91 : Int) * (↑q : Int)).toNat y).d2, .sint .u64 (evAt ((91 : Int) * (↑q : Int)).toNat y).d3, .sint .u64 (evAt ((91 : Int) * (↑q : Int)).toNat y).d4, .sint .u64 (evAt ((91 : Int) * (↑q : Int)).toNat y).d5, .sint .u8 (evAt ((91 : Int) * (↑q : Int)).toNat y).k, .sint .u64 (evAt ((91 : Int) * (↑q : Int)).toNat y).n, .sint .i64 (evAt ((91 : Int) * (↑q : Int)).toNat y).t, .sint .i64 (evAt ((91 : Int) * (↑q : Int)).toNat y).a, .sint .u64 (evAt ((91 : Int) * (↑q : Int)).toNat y).r, .sint .u64 (evAt ((91 : Int) * (↑q : Int)).toNat y).f])) pd) (.left (decide (q ≤ q ∧ q < 65536)) (.left (decide ((-9223372036854775808 : Int) ≤ 91 * (↑q : Int) + 91 ∧ (91 : Int) * (↑q : Int) + 91 ≤ 9223372036854775807)) (.stop (Hd.again (again' (fun (q : { q : Nat // 91 * q ≤ n ∧ allMay y q }) => allS n y q.val) (fun (q : { q : Nat // 91 * q ≤ n ∧ allMay y q }) => allG y q.val) (fun (q : { q : Nat // 91 * q ≤ n ∧ allMay y q }) => n - 91 * q.val) ⟨q, ⟨q1, qm⟩⟩) [.data 1 n (by8 y), .top, .top, .top, .gsl 3 (q + 1), .sint .i64 ((91 : Int) * (↑q : Int) + 91), .ptr 1 0, .sint .i64 ((91 : Int) * (↑q : Int) + 91), .int .i64 (0 : Int), .sint .i64 ((91 : Int) * (↑q : Int)), .data 1 n (by8 y), .sint .i64 (↑n : Int), .bool true, .sint .i64 ((91 : Int) * (↑q : Int)), .sint .i64 ((91 : Int) * (↑q : Int) + 91), .tuple [.agg [.sint .i64 (evAt ((91 : Int) * (↑q : Int)).toNat y).o, .sint .u64 (evAt ((91 : Int) * (↑q : Int)).toNat y).s, .sint .u64 (evAt ((91 : Int) * (↑q : Int)).toNat y).d0, .sint .u64 (evAt ((91 : Int) * (↑q : Int)).toNat y).d1, .sint .u64 (evAt ((91 : Int) * (↑q : Int)).toNat y).d2, .sint .u64 (evAt ((91 : Int) * (↑q : Int)).toNat y).d3, .sint .u64 (evAt ((91 : Int) * (↑q : Int)).toNat y).d4, .sint .u64 (evAt ((91 : Int) * (↑q : Int)).toNat y).d5, .sint .u8 (evAt ((91 : Int) * (↑q : Int)).toNat y).k, .sint .u64 (evAt ((91 : Int) * (↑q : Int)).toNat y).n, .sint .i64 (evAt ((91 : Int) * (↑q : Int)).toNat y).t, .sint .i64 (evAt ((91 : Int) * (↑q : Int)).toNat y).a, .sint .u64 (evAt ((91 : Int) * (↑q : Int)).toNat y).r, .sint .u64 (evAt ((91 : Int) * (↑q : Int)).toNat y).f], .sint .i64 ((91 : Int) * (↑q : Int) + 91), .int .i64 (0 : Int)], .data 1 n (by8 y), .sint .i64 ((91 : Int) * (↑q : Int)), .tuple [.agg [.sint .i64 (evAt ((91 : Int) * (↑q : Int)).toNat y).o, .sint .u64 (evAt ((91 : Int) * (↑q : Int)).toNat y).s, .sint .u64 (evAt ((91 : Int) * (↑q : Int)).toNat y).d0, .sint .u64 (evAt ((91 : Int) * (↑q : Int)).toNat y).d1, .sint .u64 (evAt ((91 : Int) * (↑q : Int)).toNat y).d2, .sint .u64 (evAt ((91 : Int) * (↑q : Int)).toNat y).d3, .sint .u64 (evAt ((91 : Int) * (↑q : Int)).toNat y).d4, .sint .u64 (evAt ((91 : Int) * (↑q : Int)).toNat y).d5, .sint .u8 (evAt ((91 : Int) * (↑q : Int)).toNat y).k, .sint .u64 (evAt ((91 : Int) * (↑q : Int)).toNat y).n, .sint .i64 (evAt ((91 : Int) * (↑q : Int)).toNat y).t, .sint .i64 (evAt ((91 : Int) * (↑q : Int)).toNat y).a, .sint .u64 (evAt ((91 : Int) * (↑q : Int)).toNat y).r, .sint .u64 (evAt ((91 : Int) * (↑q : Int)).toNat y).f], .sint .i64 ((91 : Int) * (↑q : Int) + 91), .int .i64 (0 : Int)], .agg [.sint .i64 (evAt ((91 : Int) * (↑q : Int)).toNat y).o, .sint .u64 (evAt ((91 : Int) * (↑q : Int)).toNat y).s, .sint .u64 (evAt ((91 : Int) * (↑q : Int)).toNat y).d0, .sint .u64 (evAt ((91 : Int) * (↑q : Int)).toNat y).d1, .sint .u64 (evAt ((91 : Int) * (↑q : Int)).toNat y).d2, .sint .u64 (evAt ((91 : Int) * (↑q : Int)).toNat y).d3, .sint .u64 (evAt ((91 : Int) * (↑q : Int)).toNat y).d4, .sint .u64 (evAt ((91 : Int) * (↑q : Int)).toNat y).d5, .sint .u8 (evAt ((91 : Int) * (↑q : Int)).toNat y).k, .sint .u64 (evAt ((91 : Int) * (↑q : Int)).toNat y).n, .sint .i64 (evAt ((91 : Int) * (↑q : Int)).toNat y).t, .sint .i64 (evAt ((91 : Int) * (↑q : Int)).toNat y).a, .sint .u64 (evAt ((91 : Int) * (↑q : Int)).toNat y).r, .sint .u64 (evAt ((91 : Int) * (↑q : Int)).toNat y).f], .sint .i64 ((91 : Int) * (↑q : Int) + 91), .int .i64 (0 : Int), .int .i64 (0 : Int), .bool false, .top, .gsl 0 q, .agg [.sint .i64 (evAt ((91 : Int) * (↑q : Int)).toNat y).o, .sint .u64 (evAt ((91 : Int) * (↑q : Int)).toNat y).s, .sint .u64 (evAt ((91 : Int) * (↑q : Int)).toNat y).d0, .sint .u64 (evAt ((91 : Int) * (↑q : Int)).toNat y).d1, .sint .u64 (evAt ((91 : Int) * (↑q : Int)).toNat y).d2, .sint .u64 (evAt ((91 : Int) * (↑q : Int)).toNat y).d3, .sint .u64 (evAt ((91 : Int) * (↑q : Int)).toNat y).d4, .sint .u64 (evAt ((91 : Int) * (↑q : Int)).toNat y).d5, .sint .u8 (evAt ((91 : Int) * (↑q : Int)).toNat y).k, .sint .u64 (evAt ((91 : Int) * (↑q : Int)).toNat y).n, .sint .i64 (evAt ((91 : Int) * (↑q : Int)).toNat y).t, .sint .i64 (evAt ((91 : Int) * (↑q : Int)).toNat y).a, .sint .u64 (evAt ((91 : Int) * (↑q : Int)).toNat y).r, .sint .u64 (evAt ((91 : Int) * (↑q : Int)).toNat y).f], .slice 2 0 1 1 true, .gsl 3 (q + 1), .top]) [3, 1, 0, 2] ([(some (Blk.seq 3 14 (q + 1) (glue q (allF y) fun (i : Nat) => List.take 14 (List.drop (i * 14) [.sint .i64 (evAt ((91 : Int) * (↑q : Int)).toNat y).o, .sint .u64 (evAt ((91 : Int) * (↑q : Int)).toNat y).s, .sint .u64 (evAt ((91 : Int) * (↑q : Int)).toNat y).d0, .sint .u64 (evAt ((91 : Int) * (↑q : Int)).toNat y).d1, .sint .u64 (evAt ((91 : Int) * (↑q : Int)).toNat y).d2, .sint .u64 (evAt ((91 : Int) * (↑q : Int)).toNat y).d3, .sint .u64 (evAt ((91 : Int) * (↑q : Int)).toNat y).d4, .sint .u64 (evAt ((91 : Int) * (↑q : Int)).toNat y).d5, .sint .u8 (evAt ((91 : Int) * (↑q : Int)).toNat y).k, .sint .u64 (evAt ((91 : Int) * (↑q : Int)).toNat y).n, .sint .i64 (evAt ((91 : Int) * (↑q : Int)).toNat y).t, .sint .i64 (evAt ((91 : Int) * (↑q : Int)).toNat y).a, .sint .u64 (evAt ((91 : Int) * (↑q : Int)).toNat y).r, .sint .u64 (evAt ((91 : Int) * (↑q : Int)).toNat y).f]))), some (14, q + 1, glue q (allF y) fun (i : Nat) => List.take 14 (List.drop (i * 14) [.sint .i64 (evAt ((91 : Int) * (↑q : Int)).toNat y).o, .sint .u64 (evAt ((91 : Int) * (↑q : Int)).toNat y).s, .sint .u64 (evAt ((91 : Int) * (↑q : Int)).toNat y).d0, .sint .u64 (evAt ((91 : Int) * (↑q : Int)).toNat y).d1, .sint .u64 (evAt ((91 : Int) * (↑q : Int)).toNat y).d2, .sint .u64 (evAt ((91 : Int) * (↑q : Int)).toNat y).d3, .sint .u64 (evAt ((91 : Int) * (↑q : Int)).toNat y).d4, .sint .u64 (evAt ((91 : Int) * (↑q : Int)).toNat y).d5, .sint .u8 (evAt ((91 : Int) * (↑q : Int)).toNat y).k, .sint .u64 (evAt ((91 : Int) * (↑q : Int)).toNat y).n, .sint .i64 (evAt ((91 : Int) * (↑q : Int)).toNat y).t, .sint .i64 (evAt ((91 : Int) * (↑q : Int)).toNat y).a, .sint .u64 (evAt ((91 : Int) * (↑q : Int)).toNat y).r, .sint .u64 (evAt ((91 : Int) * (↑q : Int)).toNat y).f]))), (some (Blk.cells 1 none [.sint .i64 (evAt ((91 : Int) * (↑q : Int)).toNat y).o, .sint .u64 (evAt ((91 : Int) * (↑q : Int)).toNat y).s, .sint .u64 (evAt ((91 : Int) * (↑q : Int)).toNat y).d0, .sint .u64 (evAt ((91 : Int) * (↑q : Int)).toNat y).d1, .sint .u64 (evAt ((91 : Int) * (↑q : Int)).toNat y).d2, .sint .u64 (evAt ((91 : Int) * (↑q : Int)).toNat y).d3, .sint .u64 (evAt ((91 : Int) * (↑q : Int)).toNat y).d4, .sint .u64 (evAt ((91 : Int) * (↑q : Int)).toNat y).d5, .sint .u8 (evAt ((91 : Int) * (↑q : Int)).toNat y).k, .sint .u64 (evAt ((91 : Int) * (↑q : Int)).toNat y).n, .sint .i64 (evAt ((91 : Int) * (↑q : Int)).toNat y).t, .sint .i64 (evAt ((91 : Int) * (↑q : Int)).toNat y).a, .sint .u64 (evAt ((91 : Int) * (↑q : Int)).toNat y).r, .sint .u64 (evAt ((91 : Int) * (↑q : Int)).toNat y).f]), none), (some Blk.dead, none), (some (Blk.cells 2 none [.sint .i64 (evAt ((91 : Int) * (↑q : Int)).toNat y).o, .sint .u64 (evAt ((91 : Int) * (↑q : Int)).toNat y).s, .sint .u64 (evAt ((91 : Int) * (↑q : Int)).toNat y).d0, .sint .u64 (evAt ((91 : Int) * (↑q : Int)).toNat y).d1, .sint .u64 (evAt ((91 : Int) * (↑q : Int)).toNat y).d2, .sint .u64 (evAt ((91 : Int) * (↑q : Int)).toNat y).d3, .sint .u64 (evAt ((91 : Int) * (↑q : Int)).toNat y).d4, .sint .u64 (evAt ((91 : Int) * (↑q : Int)).toNat y).d5, .sint .u8 (evAt ((91 : Int) * (↑q : Int)).toNat y).k, .sint .u64 (evAt ((91 : Int) * (↑q : Int)).toNat y).n, .sint .i64 (evAt ((91 : Int) * (↑q : Int)).toNat y).t, .sint .i64 (evAt ((91 : Int) * (↑q : Int)).toNat y).a, .sint .u64 (evAt ((91 : Int) * (↑q : Int)).toNat y).r, .sint .u64 (evAt ((91 : Int) * (↑q : Int)).toNat y).f]), none)]))))) (by kernel_rfl) ?_
    refine hl (bc fun h3 => by exact h3 ⟨by omega, fun i hi => (by obtain rfl : i = 0 := (by omega); exact ⟨rfl, rfl⟩)⟩) ?_
    refine hl (bc fun h3 => by omega) ?_
    refine hl (bc fun h3 => by omega) ?_
    refine hold_stop (fun hd hb => ?_)
    refine ok_again hd _ ⟨q + 1, by omega, all_next qm km⟩ ?_ (fits_seq (look_hd hb) ?_ (Nat.le_refl _) (all_glue y q ?_))
    · show n - 91 * (q + 1) < n - 91 * q
      omega
    · simp [allS, fitsA, fitA, nf] <;> omega
    · rfl
   refine ok_sk (.stop []) (S := .stop (Hd.leaf (.tuple [.nilSlice, .int .i64 (5 : Int)])) [] ([])) (by kernel_rfl) ?_
   refine hold_stop (fun hd hb => ?_)
   exact ok_leaf0 hd rfl (.inr (.inl ⟨rfl, rfl, all_no km (by omega)⟩))
  refine hold_stop (fun hd hb => ?_)
  exact ok_leafG hd hb (y := .tuple [.gsl 0 q, .int .i64 0]) (by simp [fitA, fitsA, nf]) (Nat.le_refl _) (fun i hi => ⟨rfl, rfl⟩) (.inl ⟨q, by omega, qm, rfl, rfl⟩)
end Go.Proofs.Ytjihbjjekhncaaa
