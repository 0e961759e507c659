import Derived.Test.YtkdmlpmjfnjnmaaZ3
set_option linter.unusedSimpArgs false
namespace Go.Proofs.Ytkdmlpmjfnjnmaa
open Go Go.RowKit Sv
set_option linter.unusedVariables false
set_option maxRecDepth 100000
set_option maxHeartbeats 0
def EvI.rng (e : EvI) : Prop := (0 ≤ e.s ∧ e.s ≤ 18446744073709551615) ∧ (0 ≤ e.d0 ∧ e.d0 ≤ 18446744073709551615) ∧ (0 ≤ e.d1 ∧ e.d1 ≤ 18446744073709551615) ∧ (0 ≤ e.d2 ∧ e.d2 ≤ 18446744073709551615) ∧ (0 ≤ e.d3 ∧ e.d3 ≤ 18446744073709551615) ∧ (0 ≤ e.d4 ∧ e.d4 ≤ 18446744073709551615) ∧ (0 ≤ e.d5 ∧ e.d5 ≤ 18446744073709551615) ∧ (0 ≤ e.k ∧ e.k ≤ 255) ∧ (0 ≤ e.n ∧ e.n ≤ 18446744073709551615) ∧ (0 ≤ e.r ∧ e.r ≤ 18446744073709551615) ∧ (0 ≤ e.f ∧ e.f ≤ 18446744073709551615)
def MsI.rng (m : MsI) : Prop := (0 ≤ m.v0 ∧ m.v0 ≤ 18446744073709551615) ∧ (0 ≤ m.v1 ∧ m.v1 ≤ 18446744073709551615) ∧ (0 ≤ m.v2 ∧ m.v2 ≤ 18446744073709551615) ∧ (0 ≤ m.v3 ∧ m.v3 ≤ 18446744073709551615) ∧ (0 ≤ m.v4 ∧ m.v4 ≤ 18446744073709551615) ∧ (0 ≤ m.v5 ∧ m.v5 ≤ 18446744073709551615) ∧ (0 ≤ m.n ∧ m.n ≤ 18446744073709551615)
/-! what the document's answer for layer 8 does. -/
def EvI.fl (e : EvI) : Prop :=
  (e.k = 1 ∧ 0 ≤ e.a ∧ e.a ≤ 1125899906842624) ∨
  (e.k = 2 ∧ 1 ≤ e.a ∧ e.a ≤ 1125899906842624) ∨
  (e.k = 3 ∧ 1 ≤ e.a ∧ e.a ≤ 1125899906842624 ∧ 1 ≤ e.r) ∨
  (e.k = 4 ∧ 1 ≤ e.r ∧ 1 ≤ e.f ∧ e.r ≠ e.f) ∨
  (e.k = 5 ∧ 1 ≤ e.a ∧ e.a ≤ 1125899906842624 ∧ 1 ≤ e.t ∧ e.t ≤ 6 ∧ e.t ≠ e.o) ∨
  (e.k = 6 ∧ 1 ≤ e.t ∧ e.t ≤ 6 ∧ e.t ≠ e.o) ∨ e.k = 7
theorem rfields (e : EvI) : Runs Try.prog 38 [.agg e.row] fun x G => G = [] ∧ ((x = .bool true ∧ e.fl) ∨ (x = .bool false ∧ ¬ e.fl)) := by
  refine runs_treeF plain mixed (fun _ => false) (fun _ => false) 60 ?_
  refine ok_sk (.both (.both (.both (.both (.both (.both (.l (.l (.stop []))) (.both (.stop []) (.both (.both (.stop []) (.stop [])) (.both (.both (.both (.both (.stop []) (.stop [])) (.stop [])) (.stop [])) (.both (.stop []) (.both (.stop []) (.both (.stop []) (.stop [])))))))) (.both (.l (.l (.stop []))) (.both (.stop []) (.both (.both (.stop []) (.stop [])) (.both (.both (.both (.both (.stop []) (.stop [])) (.stop [])) (.stop [])) (.both (.stop []) (.both (.stop []) (.both (.stop []) (.stop []))))))))) (.both (.l (.l (.stop []))) (.both (.stop []) (.both (.both (.stop []) (.stop [])) (.both (.both (.both (.both (.stop []) (.stop [])) (.stop [])) (.stop [])) (.both (.stop []) (.both (.stop []) (.both (.stop []) (.stop []))))))))) (.both (.l (.l (.stop []))) (.both (.stop []) (.both (.both (.stop []) (.stop [])) (.both (.both (.both (.both (.stop []) (.stop [])) (.stop [])) (.stop [])) (.both (.stop []) (.both (.stop []) (.both (.stop []) (.stop []))))))))) (.both (.both (.both (.both (.l (.r (.stop []))) (.both (.stop []) (.both (.stop []) (.both (.both (.both (.both (.stop []) (.stop [])) (.stop [])) (.stop [])) (.both (.stop []) (.both (.stop []) (.both (.stop []) (.stop [])))))))) (.both (.l (.r (.stop []))) (.both (.stop []) (.both (.stop []) (.both (.both (.both (.both (.stop []) (.stop [])) (.stop [])) (.stop [])) (.both (.stop []) (.both (.stop []) (.both (.stop []) (.stop []))))))))) (.both (.l (.r (.stop []))) (.both (.stop []) (.both (.stop []) (.both (.both (.both (.both (.stop []) (.stop [])) (.stop [])) (.stop [])) (.both (.stop []) (.both (.stop []) (.both (.stop []) (.stop []))))))))) (.both (.l (.r (.stop []))) (.both (.stop []) (.both (.stop []) (.both (.both (.both (.both (.stop []) (.stop [])) (.stop [])) (.stop [])) (.both (.stop []) (.both (.stop []) (.both (.stop []) (.stop [])))))))))) (.both (.both (.both (.both (.both (.l (.stop [])) (.stop [])) (.both (.stop []) (.both (.stop []) (.both (.both (.both (.both (.stop []) (.stop [])) (.stop [])) (.stop [])) (.both (.stop []) (.both (.stop []) (.both (.stop []) (.stop [])))))))) (.both (.both (.l (.stop [])) (.stop [])) (.both (.stop []) (.both (.stop []) (.both (.both (.both (.both (.stop []) (.stop [])) (.stop [])) (.stop [])) (.both (.stop []) (.both (.stop []) (.both (.stop []) (.stop []))))))))) (.both (.both (.l (.stop [])) (.stop [])) (.both (.stop []) (.both (.stop []) (.both (.both (.both (.both (.stop []) (.stop [])) (.stop [])) (.stop [])) (.both (.stop []) (.both (.stop []) (.both (.stop []) (.stop []))))))))) (.both (.both (.l (.stop [])) (.stop [])) (.both (.stop []) (.both (.stop []) (.both (.both (.both (.both (.stop []) (.stop [])) (.stop [])) (.stop [])) (.both (.stop []) (.both (.stop []) (.both (.stop []) (.stop [])))))))))) (S := .fork (decide (1 ≤ e.a)) (.fork (decide (e.a ≤ 1125899906842624)) (.fork (decide (1 ≤ e.t)) (.fork (decide (e.t ≤ 6)) (.fork (decide (e.t = e.o)) (.fork (decide (e.k = 1)) (.left (decide (0 ≤ e.a)) (.left (decide (e.a ≤ 1125899906842624)) (.stop (.leaf (.bool true)) [] ([])))) (.fork (decide (e.k = 2)) (.stop (.leaf (.bool true)) [] ([])) (.fork (decide (e.k = 3)) (.fork (decide (1 ≤ e.r)) (.stop (.leaf (.bool true)) [] ([])) (.stop (.leaf (.bool false)) [] ([]))) (.fork (decide (e.k = 4)) (.fork (decide (1 ≤ e.r)) (.fork (decide (1 ≤ e.f)) (.fork (decide (e.r = e.f)) (.stop (.leaf (.bool false)) [] ([])) (.stop (.leaf (.bool true)) [] ([]))) (.stop (.leaf (.bool false)) [] ([]))) (.stop (.leaf (.bool false)) [] ([]))) (.fork (decide (e.k = 5)) (.stop (.leaf (.bool false)) [] ([])) (.fork (decide (e.k = 6)) (.stop (.leaf (.bool false)) [] ([])) (.fork (decide (e.k = 7)) (.stop (.leaf (.bool true)) [] ([])) (.stop (.leaf (.bool false)) [] ([]))))))))) (.fork (decide (e.k = 1)) (.left (decide (0 ≤ e.a)) (.left (decide (e.a ≤ 1125899906842624)) (.stop (.leaf (.bool true)) [] ([])))) (.fork (decide (e.k = 2)) (.stop (.leaf (.bool true)) [] ([])) (.fork (decide (e.k = 3)) (.fork (decide (1 ≤ e.r)) (.stop (.leaf (.bool true)) [] ([])) (.stop (.leaf (.bool false)) [] ([]))) (.fork (decide (e.k = 4)) (.fork (decide (1 ≤ e.r)) (.fork (decide (1 ≤ e.f)) (.fork (decide (e.r = e.f)) (.stop (.leaf (.bool false)) [] ([])) (.stop (.leaf (.bool true)) [] ([]))) (.stop (.leaf (.bool false)) [] ([]))) (.stop (.leaf (.bool false)) [] ([]))) (.fork (decide (e.k = 5)) (.stop (.leaf (.bool true)) [] ([])) (.fork (decide (e.k = 6)) (.stop (.leaf (.bool true)) [] ([])) (.fork (decide (e.k = 7)) (.stop (.leaf (.bool true)) [] ([])) (.stop (.leaf (.bool false)) [] ([])))))))))) (.fork (decide (e.k = 1)) (.left (decide (0 ≤ e.a)) (.left (decide (e.a ≤ 1125899906842624)) (.stop (.leaf (.bool true)) [] ([])))) (.fork (decide (e.k = 2)) (.stop (.leaf (.bool true)) [] ([])) (.fork (decide (e.k = 3)) (.fork (decide (1 ≤ e.r)) (.stop (.leaf (.bool true)) [] ([])) (.stop (.leaf (.bool false)) [] ([]))) (.fork (decide (e.k = 4)) (.fork (decide (1 ≤ e.r)) (.fork (decide (1 ≤ e.f)) (.fork (decide (e.r = e.f)) (.stop (.leaf (.bool false)) [] ([])) (.stop (.leaf (.bool true)) [] ([]))) (.stop (.leaf (.bool false)) [] ([]))) (.stop (.leaf (.bool false)) [] ([]))) (.fork (decide (e.k = 5)) (.stop (.leaf (.bool false)) [] ([])) (.fork (decide (e.k = 6)) (.stop (.leaf (.bool false)) [] ([])) (.fork (decide (e.k = 7)) (.stop (.leaf (.bool true)) [] ([])) (.stop (.leaf (.bool false)) [] ([])))))))))) (.fork (decide (e.k = 1)) (.left (decide (0 ≤ e.a)) (.left (decide (e.a ≤ 1125899906842624)) (.stop (.leaf (.bool true)) [] ([])))) (.fork (decide (e.k = 2)) (.stop (.leaf (.bool true)) [] ([])) (.fork (decide (e.k = 3)) (.fork (decide (1 ≤ e.r)) (.stop (.leaf (.bool true)) [] ([])) (.stop (.leaf (.bool false)) [] ([]))) (.fork (decide (e.k = 4)) (.fork (decide (1 ≤ e.r)) (.fork (decide (1 ≤ e.f)) (.fork (decide (e.r = e.f)) (.stop (.leaf (.bool false)) [] ([])) (.stop (.leaf (.bool true)) [] ([]))) (.stop (.leaf (.bool false)) [] ([]))) (.stop (.leaf (.bool false)) [] ([]))) (.fork (decide (e.k = 5)) (.stop (.leaf (.bool false)) [] ([])) (.fork (decide (e.k = 6)) (.stop (.leaf (.bool false)) [] ([])) (.fork (decide (e.k = 7)) (.stop (.leaf (.bool true)) [] ([])) (.stop (.leaf (.bool false)) [] ([])))))))))) (.fork (decide (1 ≤ e.t)) (.fork (decide (e.t ≤ 6)) (.fork (decide (e.t = e.o)) (.fork (decide (e.k = 1)) (.left (decide (0 ≤ e.a)) (.right (decide (e.a ≤ 1125899906842624)) (.stop (.leaf (.bool false)) [] ([])))) (.fork (decide (e.k = 2)) (.stop (.leaf (.bool false)) [] ([])) (.fork (decide (e.k = 3)) (.stop (.leaf (.bool false)) [] ([])) (.fork (decide (e.k = 4)) (.fork (decide (1 ≤ e.r)) (.fork (decide (1 ≤ e.f)) (.fork (decide (e.r = e.f)) (.stop (.leaf (.bool false)) [] ([])) (.stop (.leaf (.bool true)) [] ([]))) (.stop (.leaf (.bool false)) [] ([]))) (.stop (.leaf (.bool false)) [] ([]))) (.fork (decide (e.k = 5)) (.stop (.leaf (.bool false)) [] ([])) (.fork (decide (e.k = 6)) (.stop (.leaf (.bool false)) [] ([])) (.fork (decide (e.k = 7)) (.stop (.leaf (.bool true)) [] ([])) (.stop (.leaf (.bool false)) [] ([]))))))))) (.fork (decide (e.k = 1)) (.left (decide (0 ≤ e.a)) (.right (decide (e.a ≤ 1125899906842624)) (.stop (.leaf (.bool false)) [] ([])))) (.fork (decide (e.k = 2)) (.stop (.leaf (.bool false)) [] ([])) (.fork (decide (e.k = 3)) (.stop (.leaf (.bool false)) [] ([])) (.fork (decide (e.k = 4)) (.fork (decide (1 ≤ e.r)) (.fork (decide (1 ≤ e.f)) (.fork (decide (e.r = e.f)) (.stop (.leaf (.bool false)) [] ([])) (.stop (.leaf (.bool true)) [] ([]))) (.stop (.leaf (.bool false)) [] ([]))) (.stop (.leaf (.bool false)) [] ([]))) (.fork (decide (e.k = 5)) (.stop (.leaf (.bool false)) [] ([])) (.fork (decide (e.k = 6)) (.stop (.leaf (.bool true)) [] ([])) (.fork (decide (e.k = 7)) (.stop (.leaf (.bool true)) [] ([])) (.stop (.leaf (.bool false)) [] ([])))))))))) (.fork (decide (e.k = 1)) (.left (decide (0 ≤ e.a)) (.right (decide (e.a ≤ 1125899906842624)) (.stop (.leaf (.bool false)) [] ([])))) (.fork (decide (e.k = 2)) (.stop (.leaf (.bool false)) [] ([])) (.fork (decide (e.k = 3)) (.stop (.leaf (.bool false)) [] ([])) (.fork (decide (e.k = 4)) (.fork (decide (1 ≤ e.r)) (.fork (decide (1 ≤ e.f)) (.fork (decide (e.r = e.f)) (.stop (.leaf (.bool false)) [] ([])) (.stop (.leaf (.bool true)) [] ([]))) (.stop (.leaf (.bool false)) [] ([]))) (.stop (.leaf (.bool false)) [] ([]))) (.fork (decide (e.k = 5)) (.stop (.leaf (.bool false)) [] ([])) (.fork (decide (e.k = 6)) (.stop (.leaf (.bool false)) [] ([])) (.fork (decide (e.k = 7)) (.stop (.leaf (.bool true)) [] ([])) (.stop (.leaf (.bool false)) [] ([])))))))))) (.fork (decide (e.k = 1)) (.left (decide (0 ≤ e.a)) (.right (decide (e.a ≤ 1125899906842624)) (.stop (.leaf (.bool false)) [] ([])))) (.fork (decide (e.k = 2)) (.stop (.leaf (.bool false)) [] ([])) (.fork (decide (e.k = 3)) (.stop (.leaf (.bool false)) [] ([])) (.fork (decide (e.k = 4)) (.fork (decide (1 ≤ e.r)) (.fork (decide (1 ≤ e.f)) (.fork (decide (e.r = e.f)) (.stop (.leaf (.bool false)) [] ([])) (.stop (.leaf (.bool true)) [] ([]))) (.stop (.leaf (.bool false)) [] ([]))) (.stop (.leaf (.bool false)) [] ([]))) (.fork (decide (e.k = 5)) (.stop (.leaf (.bool false)) [] ([])) (.fork (decide (e.k = 6)) (.stop (.leaf (.bool false)) [] ([])) (.fork (decide (e.k = 7)) (.stop (.leaf (.bool true)) [] ([])) (.stop (.leaf (.bool false)) [] ([]))))))))))) (.fork (decide (1 ≤ e.t)) (.fork (decide (e.t ≤ 6)) (.fork (decide (e.t = e.o)) (.fork (decide (e.k = 1)) (.fork (decide (0 ≤ e.a)) (.left (decide (e.a ≤ 1125899906842624)) (.stop (.leaf (.bool true)) [] ([]))) (.stop (.leaf (.bool false)) [] ([]))) (.fork (decide (e.k = 2)) (.stop (.leaf (.bool false)) [] ([])) (.fork (decide (e.k = 3)) (.stop (.leaf (.bool false)) [] ([])) (.fork (decide (e.k = 4)) (.fork (decide (1 ≤ e.r)) (.fork (decide (1 ≤ e.f)) (.fork (decide (e.r = e.f)) (.stop (.leaf (.bool false)) [] ([])) (.stop (.leaf (.bool true)) [] ([]))) (.stop (.leaf (.bool false)) [] ([]))) (.stop (.leaf (.bool false)) [] ([]))) (.fork (decide (e.k = 5)) (.stop (.leaf (.bool false)) [] ([])) (.fork (decide (e.k = 6)) (.stop (.leaf (.bool false)) [] ([])) (.fork (decide (e.k = 7)) (.stop (.leaf (.bool true)) [] ([])) (.stop (.leaf (.bool false)) [] ([]))))))))) (.fork (decide (e.k = 1)) (.fork (decide (0 ≤ e.a)) (.left (decide (e.a ≤ 1125899906842624)) (.stop (.leaf (.bool true)) [] ([]))) (.stop (.leaf (.bool false)) [] ([]))) (.fork (decide (e.k = 2)) (.stop (.leaf (.bool false)) [] ([])) (.fork (decide (e.k = 3)) (.stop (.leaf (.bool false)) [] ([])) (.fork (decide (e.k = 4)) (.fork (decide (1 ≤ e.r)) (.fork (decide (1 ≤ e.f)) (.fork (decide (e.r = e.f)) (.stop (.leaf (.bool false)) [] ([])) (.stop (.leaf (.bool true)) [] ([]))) (.stop (.leaf (.bool false)) [] ([]))) (.stop (.leaf (.bool false)) [] ([]))) (.fork (decide (e.k = 5)) (.stop (.leaf (.bool false)) [] ([])) (.fork (decide (e.k = 6)) (.stop (.leaf (.bool true)) [] ([])) (.fork (decide (e.k = 7)) (.stop (.leaf (.bool true)) [] ([])) (.stop (.leaf (.bool false)) [] ([])))))))))) (.fork (decide (e.k = 1)) (.fork (decide (0 ≤ e.a)) (.left (decide (e.a ≤ 1125899906842624)) (.stop (.leaf (.bool true)) [] ([]))) (.stop (.leaf (.bool false)) [] ([]))) (.fork (decide (e.k = 2)) (.stop (.leaf (.bool false)) [] ([])) (.fork (decide (e.k = 3)) (.stop (.leaf (.bool false)) [] ([])) (.fork (decide (e.k = 4)) (.fork (decide (1 ≤ e.r)) (.fork (decide (1 ≤ e.f)) (.fork (decide (e.r = e.f)) (.stop (.leaf (.bool false)) [] ([])) (.stop (.leaf (.bool true)) [] ([]))) (.stop (.leaf (.bool false)) [] ([]))) (.stop (.leaf (.bool false)) [] ([]))) (.fork (decide (e.k = 5)) (.stop (.leaf (.bool false)) [] ([])) (.fork (decide (e.k = 6)) (.stop (.leaf (.bool false)) [] ([])) (.fork (decide (e.k = 7)) (.stop (.leaf (.bool true)) [] ([])) (.stop (.leaf (.bool false)) [] ([])))))))))) (.fork (decide (e.k = 1)) (.fork (decide (0 ≤ e.a)) (.left (decide (e.a ≤ 1125899906842624)) (.stop (.leaf (.bool true)) [] ([]))) (.stop (.leaf (.bool false)) [] ([]))) (.fork (decide (e.k = 2)) (.stop (.leaf (.bool false)) [] ([])) (.fork (decide (e.k = 3)) (.stop (.leaf (.bool false)) [] ([])) (.fork (decide (e.k = 4)) (.fork (decide (1 ≤ e.r)) (.fork (decide (1 ≤ e.f)) (.fork (decide (e.r = e.f)) (.stop (.leaf (.bool false)) [] ([])) (.stop (.leaf (.bool true)) [] ([]))) (.stop (.leaf (.bool false)) [] ([]))) (.stop (.leaf (.bool false)) [] ([]))) (.fork (decide (e.k = 5)) (.stop (.leaf (.bool false)) [] ([])) (.fork (decide (e.k = 6)) (.stop (.leaf (.bool false)) [] ([])) (.fork (decide (e.k = 7)) (.stop (.leaf (.bool true)) [] ([])) (.stop (.leaf (.bool false)) [] ([]))))))))))) (by kernel_rfl) ?_
  refine hold_forkD (fun h0 => ?_) (fun h0 => ?_)
  ·
   refine hold_forkD (fun h1 => ?_) (fun h1 => ?_)
   ·
    refine hold_forkD (fun h2 => ?_) (fun h2 => ?_)
    ·
     refine hold_forkD (fun h3 => ?_) (fun h3 => ?_)
     ·
      refine hold_forkD (fun h4 => ?_) (fun h4 => ?_)
      ·
       refine hold_forkD (fun h5 => ?_) (fun h5 => ?_)
       ·
        iterate 2 refine hl (bc fun h6 => by omega) ?_
        exact hold_stop fun hd hb => ok_leaf0 hd rfl ⟨rfl, .inl ⟨rfl, by unfold EvI.fl; omega⟩⟩
       refine hold_forkD (fun h6 => ?_) (fun h6 => ?_)
       ·
        exact hold_stop fun hd hb => ok_leaf0 hd rfl ⟨rfl, .inl ⟨rfl, by unfold EvI.fl; omega⟩⟩
       refine hold_forkD (fun h7 => ?_) (fun h7 => ?_)
       ·
        refine hold_forkD (fun h8 => ?_) (fun h8 => ?_)
        ·
         exact hold_stop fun hd hb => ok_leaf0 hd rfl ⟨rfl, .inl ⟨rfl, by unfold EvI.fl; omega⟩⟩
        exact hold_stop fun hd hb => ok_leaf0 hd rfl ⟨rfl, .inr ⟨rfl, by unfold EvI.fl; omega⟩⟩
       refine hold_forkD (fun h8 => ?_) (fun h8 => ?_)
       ·
        refine hold_forkD (fun h9 => ?_) (fun h9 => ?_)
        ·
         refine hold_forkD (fun h10 => ?_) (fun h10 => ?_)
         ·
          refine hold_forkD (fun h11 => ?_) (fun h11 => ?_)
          ·
           exact hold_stop fun hd hb => ok_leaf0 hd rfl ⟨rfl, .inr ⟨rfl, by unfold EvI.fl; omega⟩⟩
          exact hold_stop fun hd hb => ok_leaf0 hd rfl ⟨rfl, .inl ⟨rfl, by unfold EvI.fl; omega⟩⟩
         exact hold_stop fun hd hb => ok_leaf0 hd rfl ⟨rfl, .inr ⟨rfl, by unfold EvI.fl; omega⟩⟩
        exact hold_stop fun hd hb => ok_leaf0 hd rfl ⟨rfl, .inr ⟨rfl, by unfold EvI.fl; omega⟩⟩
       refine hold_forkD (fun h9 => ?_) (fun h9 => ?_)
       ·
        exact hold_stop fun hd hb => ok_leaf0 hd rfl ⟨rfl, .inr ⟨rfl, by unfold EvI.fl; omega⟩⟩
       refine hold_forkD (fun h10 => ?_) (fun h10 => ?_)
       ·
        exact hold_stop fun hd hb => ok_leaf0 hd rfl ⟨rfl, .inr ⟨rfl, by unfold EvI.fl; omega⟩⟩
       refine hold_forkD (fun h11 => ?_) (fun h11 => ?_)
       ·
        exact hold_stop fun hd hb => ok_leaf0 hd rfl ⟨rfl, .inl ⟨rfl, by unfold EvI.fl; omega⟩⟩
       exact hold_stop fun hd hb => ok_leaf0 hd rfl ⟨rfl, .inr ⟨rfl, by unfold EvI.fl; omega⟩⟩
      refine hold_forkD (fun h5 => ?_) (fun h5 => ?_)
      ·
       iterate 2 refine hl (bc fun h6 => by omega) ?_
       exact hold_stop fun hd hb => ok_leaf0 hd rfl ⟨rfl, .inl ⟨rfl, by unfold EvI.fl; omega⟩⟩
      refine hold_forkD (fun h6 => ?_) (fun h6 => ?_)
      ·
       exact hold_stop fun hd hb => ok_leaf0 hd rfl ⟨rfl, .inl ⟨rfl, by unfold EvI.fl; omega⟩⟩
      refine hold_forkD (fun h7 => ?_) (fun h7 => ?_)
      ·
       refine hold_forkD (fun h8 => ?_) (fun h8 => ?_)
       ·
        exact hold_stop fun hd hb => ok_leaf0 hd rfl ⟨rfl, .inl ⟨rfl, by unfold EvI.fl; omega⟩⟩
       exact hold_stop fun hd hb => ok_leaf0 hd rfl ⟨rfl, .inr ⟨rfl, by unfold EvI.fl; omega⟩⟩
      refine hold_forkD (fun h8 => ?_) (fun h8 => ?_)
      ·
       refine hold_forkD (fun h9 => ?_) (fun h9 => ?_)
       ·
        refine hold_forkD (fun h10 => ?_) (fun h10 => ?_)
        ·
         refine hold_forkD (fun h11 => ?_) (fun h11 => ?_)
         ·
          exact hold_stop fun hd hb => ok_leaf0 hd rfl ⟨rfl, .inr ⟨rfl, by unfold EvI.fl; omega⟩⟩
         exact hold_stop fun hd hb => ok_leaf0 hd rfl ⟨rfl, .inl ⟨rfl, by unfold EvI.fl; omega⟩⟩
        exact hold_stop fun hd hb => ok_leaf0 hd rfl ⟨rfl, .inr ⟨rfl, by unfold EvI.fl; omega⟩⟩
       exact hold_stop fun hd hb => ok_leaf0 hd rfl ⟨rfl, .inr ⟨rfl, by unfold EvI.fl; omega⟩⟩
      refine hold_forkD (fun h9 => ?_) (fun h9 => ?_)
      ·
       exact hold_stop fun hd hb => ok_leaf0 hd rfl ⟨rfl, .inl ⟨rfl, by unfold EvI.fl; omega⟩⟩
      refine hold_forkD (fun h10 => ?_) (fun h10 => ?_)
      ·
       exact hold_stop fun hd hb => ok_leaf0 hd rfl ⟨rfl, .inl ⟨rfl, by unfold EvI.fl; omega⟩⟩
      refine hold_forkD (fun h11 => ?_) (fun h11 => ?_)
      ·
       exact hold_stop fun hd hb => ok_leaf0 hd rfl ⟨rfl, .inl ⟨rfl, by unfold EvI.fl; omega⟩⟩
      exact hold_stop fun hd hb => ok_leaf0 hd rfl ⟨rfl, .inr ⟨rfl, by unfold EvI.fl; omega⟩⟩
     refine hold_forkD (fun h4 => ?_) (fun h4 => ?_)
     ·
      iterate 2 refine hl (bc fun h5 => by omega) ?_
      exact hold_stop fun hd hb => ok_leaf0 hd rfl ⟨rfl, .inl ⟨rfl, by unfold EvI.fl; omega⟩⟩
     refine hold_forkD (fun h5 => ?_) (fun h5 => ?_)
     ·
      exact hold_stop fun hd hb => ok_leaf0 hd rfl ⟨rfl, .inl ⟨rfl, by unfold EvI.fl; omega⟩⟩
     refine hold_forkD (fun h6 => ?_) (fun h6 => ?_)
     ·
      refine hold_forkD (fun h7 => ?_) (fun h7 => ?_)
      ·
       exact hold_stop fun hd hb => ok_leaf0 hd rfl ⟨rfl, .inl ⟨rfl, by unfold EvI.fl; omega⟩⟩
      exact hold_stop fun hd hb => ok_leaf0 hd rfl ⟨rfl, .inr ⟨rfl, by unfold EvI.fl; omega⟩⟩
     refine hold_forkD (fun h7 => ?_) (fun h7 => ?_)
     ·
      refine hold_forkD (fun h8 => ?_) (fun h8 => ?_)
      ·
       refine hold_forkD (fun h9 => ?_) (fun h9 => ?_)
       ·
        refine hold_forkD (fun h10 => ?_) (fun h10 => ?_)
        ·
         exact hold_stop fun hd hb => ok_leaf0 hd rfl ⟨rfl, .inr ⟨rfl, by unfold EvI.fl; omega⟩⟩
        exact hold_stop fun hd hb => ok_leaf0 hd rfl ⟨rfl, .inl ⟨rfl, by unfold EvI.fl; omega⟩⟩
       exact hold_stop fun hd hb => ok_leaf0 hd rfl ⟨rfl, .inr ⟨rfl, by unfold EvI.fl; omega⟩⟩
      exact hold_stop fun hd hb => ok_leaf0 hd rfl ⟨rfl, .inr ⟨rfl, by unfold EvI.fl; omega⟩⟩
     refine hold_forkD (fun h8 => ?_) (fun h8 => ?_)
     ·
      exact hold_stop fun hd hb => ok_leaf0 hd rfl ⟨rfl, .inr ⟨rfl, by unfold EvI.fl; omega⟩⟩
     refine hold_forkD (fun h9 => ?_) (fun h9 => ?_)
     ·
      exact hold_stop fun hd hb => ok_leaf0 hd rfl ⟨rfl, .inr ⟨rfl, by unfold EvI.fl; omega⟩⟩
     refine hold_forkD (fun h10 => ?_) (fun h10 => ?_)
     ·
      exact hold_stop fun hd hb => ok_leaf0 hd rfl ⟨rfl, .inl ⟨rfl, by unfold EvI.fl; omega⟩⟩
     exact hold_stop fun hd hb => ok_leaf0 hd rfl ⟨rfl, .inr ⟨rfl, by unfold EvI.fl; omega⟩⟩
    refine hold_forkD (fun h3 => ?_) (fun h3 => ?_)
    ·
     iterate 2 refine hl (bc fun h4 => by omega) ?_
     exact hold_stop fun hd hb => ok_leaf0 hd rfl ⟨rfl, .inl ⟨rfl, by unfold EvI.fl; omega⟩⟩
    refine hold_forkD (fun h4 => ?_) (fun h4 => ?_)
    ·
     exact hold_stop fun hd hb => ok_leaf0 hd rfl ⟨rfl, .inl ⟨rfl, by unfold EvI.fl; omega⟩⟩
    refine hold_forkD (fun h5 => ?_) (fun h5 => ?_)
    ·
     refine hold_forkD (fun h6 => ?_) (fun h6 => ?_)
     ·
      exact hold_stop fun hd hb => ok_leaf0 hd rfl ⟨rfl, .inl ⟨rfl, by unfold EvI.fl; omega⟩⟩
     exact hold_stop fun hd hb => ok_leaf0 hd rfl ⟨rfl, .inr ⟨rfl, by unfold EvI.fl; omega⟩⟩
    refine hold_forkD (fun h6 => ?_) (fun h6 => ?_)
    ·
     refine hold_forkD (fun h7 => ?_) (fun h7 => ?_)
     ·
      refine hold_forkD (fun h8 => ?_) (fun h8 => ?_)
      ·
       refine hold_forkD (fun h9 => ?_) (fun h9 => ?_)
       ·
        exact hold_stop fun hd hb => ok_leaf0 hd rfl ⟨rfl, .inr ⟨rfl, by unfold EvI.fl; omega⟩⟩
       exact hold_stop fun hd hb => ok_leaf0 hd rfl ⟨rfl, .inl ⟨rfl, by unfold EvI.fl; omega⟩⟩
      exact hold_stop fun hd hb => ok_leaf0 hd rfl ⟨rfl, .inr ⟨rfl, by unfold EvI.fl; omega⟩⟩
     exact hold_stop fun hd hb => ok_leaf0 hd rfl ⟨rfl, .inr ⟨rfl, by unfold EvI.fl; omega⟩⟩
    refine hold_forkD (fun h7 => ?_) (fun h7 => ?_)
    ·
     exact hold_stop fun hd hb => ok_leaf0 hd rfl ⟨rfl, .inr ⟨rfl, by unfold EvI.fl; omega⟩⟩
    refine hold_forkD (fun h8 => ?_) (fun h8 => ?_)
    ·
     exact hold_stop fun hd hb => ok_leaf0 hd rfl ⟨rfl, .inr ⟨rfl, by unfold EvI.fl; omega⟩⟩
    refine hold_forkD (fun h9 => ?_) (fun h9 => ?_)
    ·
     exact hold_stop fun hd hb => ok_leaf0 hd rfl ⟨rfl, .inl ⟨rfl, by unfold EvI.fl; omega⟩⟩
    exact hold_stop fun hd hb => ok_leaf0 hd rfl ⟨rfl, .inr ⟨rfl, by unfold EvI.fl; omega⟩⟩
   refine hold_forkD (fun h2 => ?_) (fun h2 => ?_)
   ·
    refine hold_forkD (fun h3 => ?_) (fun h3 => ?_)
    ·
     refine hold_forkD (fun h4 => ?_) (fun h4 => ?_)
     ·
      refine hold_forkD (fun h5 => ?_) (fun h5 => ?_)
      ·
       refine hl (bc fun h6 => by omega) ?_
       refine hzr (fun h6 => by omega) ?_
       exact hold_stop fun hd hb => ok_leaf0 hd rfl ⟨rfl, .inr ⟨rfl, by unfold EvI.fl; omega⟩⟩
      refine hold_forkD (fun h6 => ?_) (fun h6 => ?_)
      ·
       exact hold_stop fun hd hb => ok_leaf0 hd rfl ⟨rfl, .inr ⟨rfl, by unfold EvI.fl; omega⟩⟩
      refine hold_forkD (fun h7 => ?_) (fun h7 => ?_)
      ·
       exact hold_stop fun hd hb => ok_leaf0 hd rfl ⟨rfl, .inr ⟨rfl, by unfold EvI.fl; omega⟩⟩
      refine hold_forkD (fun h8 => ?_) (fun h8 => ?_)
      ·
       refine hold_forkD (fun h9 => ?_) (fun h9 => ?_)
       ·
        refine hold_forkD (fun h10 => ?_) (fun h10 => ?_)
        ·
         refine hold_forkD (fun h11 => ?_) (fun h11 => ?_)
         ·
          exact hold_stop fun hd hb => ok_leaf0 hd rfl ⟨rfl, .inr ⟨rfl, by unfold EvI.fl; omega⟩⟩
         exact hold_stop fun hd hb => ok_leaf0 hd rfl ⟨rfl, .inl ⟨rfl, by unfold EvI.fl; omega⟩⟩
        exact hold_stop fun hd hb => ok_leaf0 hd rfl ⟨rfl, .inr ⟨rfl, by unfold EvI.fl; omega⟩⟩
       exact hold_stop fun hd hb => ok_leaf0 hd rfl ⟨rfl, .inr ⟨rfl, by unfold EvI.fl; omega⟩⟩
      refine hold_forkD (fun h9 => ?_) (fun h9 => ?_)
      ·
       exact hold_stop fun hd hb => ok_leaf0 hd rfl ⟨rfl, .inr ⟨rfl, by unfold EvI.fl; omega⟩⟩
      refine hold_forkD (fun h10 => ?_) (fun h10 => ?_)
      ·
       exact hold_stop fun hd hb => ok_leaf0 hd rfl ⟨rfl, .inr ⟨rfl, by unfold EvI.fl; omega⟩⟩
      refine hold_forkD (fun h11 => ?_) (fun h11 => ?_)
      ·
       exact hold_stop fun hd hb => ok_leaf0 hd rfl ⟨rfl, .inl ⟨rfl, by unfold EvI.fl; omega⟩⟩
      exact hold_stop fun hd hb => ok_leaf0 hd rfl ⟨rfl, .inr ⟨rfl, by unfold EvI.fl; omega⟩⟩
     refine hold_forkD (fun h5 => ?_) (fun h5 => ?_)
     ·
      refine hl (bc fun h6 => by omega) ?_
      refine hzr (fun h6 => by omega) ?_
      exact hold_stop fun hd hb => ok_leaf0 hd rfl ⟨rfl, .inr ⟨rfl, by unfold EvI.fl; omega⟩⟩
     refine hold_forkD (fun h6 => ?_) (fun h6 => ?_)
     ·
      exact hold_stop fun hd hb => ok_leaf0 hd rfl ⟨rfl, .inr ⟨rfl, by unfold EvI.fl; omega⟩⟩
     refine hold_forkD (fun h7 => ?_) (fun h7 => ?_)
     ·
      exact hold_stop fun hd hb => ok_leaf0 hd rfl ⟨rfl, .inr ⟨rfl, by unfold EvI.fl; omega⟩⟩
     refine hold_forkD (fun h8 => ?_) (fun h8 => ?_)
     ·
      refine hold_forkD (fun h9 => ?_) (fun h9 => ?_)
      ·
       refine hold_forkD (fun h10 => ?_) (fun h10 => ?_)
       ·
        refine hold_forkD (fun h11 => ?_) (fun h11 => ?_)
        ·
         exact hold_stop fun hd hb => ok_leaf0 hd rfl ⟨rfl, .inr ⟨rfl, by unfold EvI.fl; omega⟩⟩
        exact hold_stop fun hd hb => ok_leaf0 hd rfl ⟨rfl, .inl ⟨rfl, by unfold EvI.fl; omega⟩⟩
       exact hold_stop fun hd hb => ok_leaf0 hd rfl ⟨rfl, .inr ⟨rfl, by unfold EvI.fl; omega⟩⟩
      exact hold_stop fun hd hb => ok_leaf0 hd rfl ⟨rfl, .inr ⟨rfl, by unfold EvI.fl; omega⟩⟩
     refine hold_forkD (fun h9 => ?_) (fun h9 => ?_)
     ·
      exact hold_stop fun hd hb => ok_leaf0 hd rfl ⟨rfl, .inr ⟨rfl, by unfold EvI.fl; omega⟩⟩
     refine hold_forkD (fun h10 => ?_) (fun h10 => ?_)
     ·
      exact hold_stop fun hd hb => ok_leaf0 hd rfl ⟨rfl, .inl ⟨rfl, by unfold EvI.fl; omega⟩⟩
     refine hold_forkD (fun h11 => ?_) (fun h11 => ?_)
     ·
      exact hold_stop fun hd hb => ok_leaf0 hd rfl ⟨rfl, .inl ⟨rfl, by unfold EvI.fl; omega⟩⟩
     exact hold_stop fun hd hb => ok_leaf0 hd rfl ⟨rfl, .inr ⟨rfl, by unfold EvI.fl; omega⟩⟩
    refine hold_forkD (fun h4 => ?_) (fun h4 => ?_)
    ·
     refine hl (bc fun h5 => by omega) ?_
     refine hzr (fun h5 => by omega) ?_
     exact hold_stop fun hd hb => ok_leaf0 hd rfl ⟨rfl, .inr ⟨rfl, by unfold EvI.fl; omega⟩⟩
    refine hold_forkD (fun h5 => ?_) (fun h5 => ?_)
    ·
     exact hold_stop fun hd hb => ok_leaf0 hd rfl ⟨rfl, .inr ⟨rfl, by unfold EvI.fl; omega⟩⟩
    refine hold_forkD (fun h6 => ?_) (fun h6 => ?_)
    ·
     exact hold_stop fun hd hb => ok_leaf0 hd rfl ⟨rfl, .inr ⟨rfl, by unfold EvI.fl; omega⟩⟩
    refine hold_forkD (fun h7 => ?_) (fun h7 => ?_)
    ·
     refine hold_forkD (fun h8 => ?_) (fun h8 => ?_)
     ·
      refine hold_forkD (fun h9 => ?_) (fun h9 => ?_)
      ·
       refine hold_forkD (fun h10 => ?_) (fun h10 => ?_)
       ·
        exact hold_stop fun hd hb => ok_leaf0 hd rfl ⟨rfl, .inr ⟨rfl, by unfold EvI.fl; omega⟩⟩
       exact hold_stop fun hd hb => ok_leaf0 hd rfl ⟨rfl, .inl ⟨rfl, by unfold EvI.fl; omega⟩⟩
      exact hold_stop fun hd hb => ok_leaf0 hd rfl ⟨rfl, .inr ⟨rfl, by unfold EvI.fl; omega⟩⟩
     exact hold_stop fun hd hb => ok_leaf0 hd rfl ⟨rfl, .inr ⟨rfl, by unfold EvI.fl; omega⟩⟩
    refine hold_forkD (fun h8 => ?_) (fun h8 => ?_)
    ·
     exact hold_stop fun hd hb => ok_leaf0 hd rfl ⟨rfl, .inr ⟨rfl, by unfold EvI.fl; omega⟩⟩
    refine hold_forkD (fun h9 => ?_) (fun h9 => ?_)
    ·
     exact hold_stop fun hd hb => ok_leaf0 hd rfl ⟨rfl, .inr ⟨rfl, by unfold EvI.fl; omega⟩⟩
    refine hold_forkD (fun h10 => ?_) (fun h10 => ?_)
    ·
     exact hold_stop fun hd hb => ok_leaf0 hd rfl ⟨rfl, .inl ⟨rfl, by unfold EvI.fl; omega⟩⟩
    exact hold_stop fun hd hb => ok_leaf0 hd rfl ⟨rfl, .inr ⟨rfl, by unfold EvI.fl; omega⟩⟩
   refine hold_forkD (fun h3 => ?_) (fun h3 => ?_)
   ·
    refine hl (bc fun h4 => by omega) ?_
    refine hzr (fun h4 => by omega) ?_
    exact hold_stop fun hd hb => ok_leaf0 hd rfl ⟨rfl, .inr ⟨rfl, by unfold EvI.fl; omega⟩⟩
   refine hold_forkD (fun h4 => ?_) (fun h4 => ?_)
   ·
    exact hold_stop fun hd hb => ok_leaf0 hd rfl ⟨rfl, .inr ⟨rfl, by unfold EvI.fl; omega⟩⟩
   refine hold_forkD (fun h5 => ?_) (fun h5 => ?_)
   ·
    exact hold_stop fun hd hb => ok_leaf0 hd rfl ⟨rfl, .inr ⟨rfl, by unfold EvI.fl; omega⟩⟩
   refine hold_forkD (fun h6 => ?_) (fun h6 => ?_)
   ·
    refine hold_forkD (fun h7 => ?_) (fun h7 => ?_)
    ·
     refine hold_forkD (fun h8 => ?_) (fun h8 => ?_)
     ·
      refine hold_forkD (fun h9 => ?_) (fun h9 => ?_)
      ·
       exact hold_stop fun hd hb => ok_leaf0 hd rfl ⟨rfl, .inr ⟨rfl, by unfold EvI.fl; omega⟩⟩
      exact hold_stop fun hd hb => ok_leaf0 hd rfl ⟨rfl, .inl ⟨rfl, by unfold EvI.fl; omega⟩⟩
     exact hold_stop fun hd hb => ok_leaf0 hd rfl ⟨rfl, .inr ⟨rfl, by unfold EvI.fl; omega⟩⟩
    exact hold_stop fun hd hb => ok_leaf0 hd rfl ⟨rfl, .inr ⟨rfl, by unfold EvI.fl; omega⟩⟩
   refine hold_forkD (fun h7 => ?_) (fun h7 => ?_)
   ·
    exact hold_stop fun hd hb => ok_leaf0 hd rfl ⟨rfl, .inr ⟨rfl, by unfold EvI.fl; omega⟩⟩
   refine hold_forkD (fun h8 => ?_) (fun h8 => ?_)
   ·
    exact hold_stop fun hd hb => ok_leaf0 hd rfl ⟨rfl, .inr ⟨rfl, by unfold EvI.fl; omega⟩⟩
   refine hold_forkD (fun h9 => ?_) (fun h9 => ?_)
   ·
    exact hold_stop fun hd hb => ok_leaf0 hd rfl ⟨rfl, .inl ⟨rfl, by unfold EvI.fl; omega⟩⟩
   exact hold_stop fun hd hb => ok_leaf0 hd rfl ⟨rfl, .inr ⟨rfl, by unfold EvI.fl; omega⟩⟩
  refine hold_forkD (fun h1 => ?_) (fun h1 => ?_)
  ·
   refine hold_forkD (fun h2 => ?_) (fun h2 => ?_)
   ·
    refine hold_forkD (fun h3 => ?_) (fun h3 => ?_)
    ·
     refine hold_forkD (fun h4 => ?_) (fun h4 => ?_)
     ·
      refine hold_forkD (fun h5 => ?_) (fun h5 => ?_)
      ·
       refine hl (bc fun h6 => by omega) ?_
       exact hold_stop fun hd hb => ok_leaf0 hd rfl ⟨rfl, .inl ⟨rfl, by unfold EvI.fl; omega⟩⟩
      exact hold_stop fun hd hb => ok_leaf0 hd rfl ⟨rfl, .inr ⟨rfl, by unfold EvI.fl; omega⟩⟩
     refine hold_forkD (fun h5 => ?_) (fun h5 => ?_)
     ·
      exact hold_stop fun hd hb => ok_leaf0 hd rfl ⟨rfl, .inr ⟨rfl, by unfold EvI.fl; omega⟩⟩
     refine hold_forkD (fun h6 => ?_) (fun h6 => ?_)
     ·
      exact hold_stop fun hd hb => ok_leaf0 hd rfl ⟨rfl, .inr ⟨rfl, by unfold EvI.fl; omega⟩⟩
     refine hold_forkD (fun h7 => ?_) (fun h7 => ?_)
     ·
      refine hold_forkD (fun h8 => ?_) (fun h8 => ?_)
      ·
       refine hold_forkD (fun h9 => ?_) (fun h9 => ?_)
       ·
        refine hold_forkD (fun h10 => ?_) (fun h10 => ?_)
        ·
         exact hold_stop fun hd hb => ok_leaf0 hd rfl ⟨rfl, .inr ⟨rfl, by unfold EvI.fl; omega⟩⟩
        exact hold_stop fun hd hb => ok_leaf0 hd rfl ⟨rfl, .inl ⟨rfl, by unfold EvI.fl; omega⟩⟩
       exact hold_stop fun hd hb => ok_leaf0 hd rfl ⟨rfl, .inr ⟨rfl, by unfold EvI.fl; omega⟩⟩
      exact hold_stop fun hd hb => ok_leaf0 hd rfl ⟨rfl, .inr ⟨rfl, by unfold EvI.fl; omega⟩⟩
     refine hold_forkD (fun h8 => ?_) (fun h8 => ?_)
     ·
      exact hold_stop fun hd hb => ok_leaf0 hd rfl ⟨rfl, .inr ⟨rfl, by unfold EvI.fl; omega⟩⟩
     refine hold_forkD (fun h9 => ?_) (fun h9 => ?_)
     ·
      exact hold_stop fun hd hb => ok_leaf0 hd rfl ⟨rfl, .inr ⟨rfl, by unfold EvI.fl; omega⟩⟩
     refine hold_forkD (fun h10 => ?_) (fun h10 => ?_)
     ·
      exact hold_stop fun hd hb => ok_leaf0 hd rfl ⟨rfl, .inl ⟨rfl, by unfold EvI.fl; omega⟩⟩
     exact hold_stop fun hd hb => ok_leaf0 hd rfl ⟨rfl, .inr ⟨rfl, by unfold EvI.fl; omega⟩⟩
    refine hold_forkD (fun h4 => ?_) (fun h4 => ?_)
    ·
     refine hold_forkD (fun h5 => ?_) (fun h5 => ?_)
     ·
      refine hl (bc fun h6 => by omega) ?_
      exact hold_stop fun hd hb => ok_leaf0 hd rfl ⟨rfl, .inl ⟨rfl, by unfold EvI.fl; omega⟩⟩
     exact hold_stop fun hd hb => ok_leaf0 hd rfl ⟨rfl, .inr ⟨rfl, by unfold EvI.fl; omega⟩⟩
    refine hold_forkD (fun h5 => ?_) (fun h5 => ?_)
    ·
     exact hold_stop fun hd hb => ok_leaf0 hd rfl ⟨rfl, .inr ⟨rfl, by unfold EvI.fl; omega⟩⟩
    refine hold_forkD (fun h6 => ?_) (fun h6 => ?_)
    ·
     exact hold_stop fun hd hb => ok_leaf0 hd rfl ⟨rfl, .inr ⟨rfl, by unfold EvI.fl; omega⟩⟩
    refine hold_forkD (fun h7 => ?_) (fun h7 => ?_)
    ·
     refine hold_forkD (fun h8 => ?_) (fun h8 => ?_)
     ·
      refine hold_forkD (fun h9 => ?_) (fun h9 => ?_)
      ·
       refine hold_forkD (fun h10 => ?_) (fun h10 => ?_)
       ·
        exact hold_stop fun hd hb => ok_leaf0 hd rfl ⟨rfl, .inr ⟨rfl, by unfold EvI.fl; omega⟩⟩
       exact hold_stop fun hd hb => ok_leaf0 hd rfl ⟨rfl, .inl ⟨rfl, by unfold EvI.fl; omega⟩⟩
      exact hold_stop fun hd hb => ok_leaf0 hd rfl ⟨rfl, .inr ⟨rfl, by unfold EvI.fl; omega⟩⟩
     exact hold_stop fun hd hb => ok_leaf0 hd rfl ⟨rfl, .inr ⟨rfl, by unfold EvI.fl; omega⟩⟩
    refine hold_forkD (fun h8 => ?_) (fun h8 => ?_)
    ·
     exact hold_stop fun hd hb => ok_leaf0 hd rfl ⟨rfl, .inr ⟨rfl, by unfold EvI.fl; omega⟩⟩
    refine hold_forkD (fun h9 => ?_) (fun h9 => ?_)
    ·
     exact hold_stop fun hd hb => ok_leaf0 hd rfl ⟨rfl, .inl ⟨rfl, by unfold EvI.fl; omega⟩⟩
    refine hold_forkD (fun h10 => ?_) (fun h10 => ?_)
    ·
     exact hold_stop fun hd hb => ok_leaf0 hd rfl ⟨rfl, .inl ⟨rfl, by unfold EvI.fl; omega⟩⟩
    exact hold_stop fun hd hb => ok_leaf0 hd rfl ⟨rfl, .inr ⟨rfl, by unfold EvI.fl; omega⟩⟩
   refine hold_forkD (fun h3 => ?_) (fun h3 => ?_)
   ·
    refine hold_forkD (fun h4 => ?_) (fun h4 => ?_)
    ·
     refine hl (bc fun h5 => by omega) ?_
     exact hold_stop fun hd hb => ok_leaf0 hd rfl ⟨rfl, .inl ⟨rfl, by unfold EvI.fl; omega⟩⟩
    exact hold_stop fun hd hb => ok_leaf0 hd rfl ⟨rfl, .inr ⟨rfl, by unfold EvI.fl; omega⟩⟩
   refine hold_forkD (fun h4 => ?_) (fun h4 => ?_)
   ·
    exact hold_stop fun hd hb => ok_leaf0 hd rfl ⟨rfl, .inr ⟨rfl, by unfold EvI.fl; omega⟩⟩
   refine hold_forkD (fun h5 => ?_) (fun h5 => ?_)
   ·
    exact hold_stop fun hd hb => ok_leaf0 hd rfl ⟨rfl, .inr ⟨rfl, by unfold EvI.fl; omega⟩⟩
   refine hold_forkD (fun h6 => ?_) (fun h6 => ?_)
   ·
    refine hold_forkD (fun h7 => ?_) (fun h7 => ?_)
    ·
     refine hold_forkD (fun h8 => ?_) (fun h8 => ?_)
     ·
      refine hold_forkD (fun h9 => ?_) (fun h9 => ?_)
      ·
       exact hold_stop fun hd hb => ok_leaf0 hd rfl ⟨rfl, .inr ⟨rfl, by unfold EvI.fl; omega⟩⟩
      exact hold_stop fun hd hb => ok_leaf0 hd rfl ⟨rfl, .inl ⟨rfl, by unfold EvI.fl; omega⟩⟩
     exact hold_stop fun hd hb => ok_leaf0 hd rfl ⟨rfl, .inr ⟨rfl, by unfold EvI.fl; omega⟩⟩
    exact hold_stop fun hd hb => ok_leaf0 hd rfl ⟨rfl, .inr ⟨rfl, by unfold EvI.fl; omega⟩⟩
   refine hold_forkD (fun h7 => ?_) (fun h7 => ?_)
   ·
    exact hold_stop fun hd hb => ok_leaf0 hd rfl ⟨rfl, .inr ⟨rfl, by unfold EvI.fl; omega⟩⟩
   refine hold_forkD (fun h8 => ?_) (fun h8 => ?_)
   ·
    exact hold_stop fun hd hb => ok_leaf0 hd rfl ⟨rfl, .inr ⟨rfl, by unfold EvI.fl; omega⟩⟩
   refine hold_forkD (fun h9 => ?_) (fun h9 => ?_)
   ·
    exact hold_stop fun hd hb => ok_leaf0 hd rfl ⟨rfl, .inl ⟨rfl, by unfold EvI.fl; omega⟩⟩
   exact hold_stop fun hd hb => ok_leaf0 hd rfl ⟨rfl, .inr ⟨rfl, by unfold EvI.fl; omega⟩⟩
  refine hold_forkD (fun h2 => ?_) (fun h2 => ?_)
  ·
   refine hold_forkD (fun h3 => ?_) (fun h3 => ?_)
   ·
    refine hl (bc fun h4 => by omega) ?_
    exact hold_stop fun hd hb => ok_leaf0 hd rfl ⟨rfl, .inl ⟨rfl, by unfold EvI.fl; omega⟩⟩
   exact hold_stop fun hd hb => ok_leaf0 hd rfl ⟨rfl, .inr ⟨rfl, by unfold EvI.fl; omega⟩⟩
  refine hold_forkD (fun h3 => ?_) (fun h3 => ?_)
  ·
   exact hold_stop fun hd hb => ok_leaf0 hd rfl ⟨rfl, .inr ⟨rfl, by unfold EvI.fl; omega⟩⟩
  refine hold_forkD (fun h4 => ?_) (fun h4 => ?_)
  ·
   exact hold_stop fun hd hb => ok_leaf0 hd rfl ⟨rfl, .inr ⟨rfl, by unfold EvI.fl; omega⟩⟩
  refine hold_forkD (fun h5 => ?_) (fun h5 => ?_)
  ·
   refine hold_forkD (fun h6 => ?_) (fun h6 => ?_)
   ·
    refine hold_forkD (fun h7 => ?_) (fun h7 => ?_)
    ·
     refine hold_forkD (fun h8 => ?_) (fun h8 => ?_)
     ·
      exact hold_stop fun hd hb => ok_leaf0 hd rfl ⟨rfl, .inr ⟨rfl, by unfold EvI.fl; omega⟩⟩
     exact hold_stop fun hd hb => ok_leaf0 hd rfl ⟨rfl, .inl ⟨rfl, by unfold EvI.fl; omega⟩⟩
    exact hold_stop fun hd hb => ok_leaf0 hd rfl ⟨rfl, .inr ⟨rfl, by unfold EvI.fl; omega⟩⟩
   exact hold_stop fun hd hb => ok_leaf0 hd rfl ⟨rfl, .inr ⟨rfl, by unfold EvI.fl; omega⟩⟩
  refine hold_forkD (fun h6 => ?_) (fun h6 => ?_)
  ·
   exact hold_stop fun hd hb => ok_leaf0 hd rfl ⟨rfl, .inr ⟨rfl, by unfold EvI.fl; omega⟩⟩
  refine hold_forkD (fun h7 => ?_) (fun h7 => ?_)
  ·
   exact hold_stop fun hd hb => ok_leaf0 hd rfl ⟨rfl, .inr ⟨rfl, by unfold EvI.fl; omega⟩⟩
  refine hold_forkD (fun h8 => ?_) (fun h8 => ?_)
  ·
   exact hold_stop fun hd hb => ok_leaf0 hd rfl ⟨rfl, .inl ⟨rfl, by unfold EvI.fl; omega⟩⟩
  exact hold_stop fun hd hb => ok_leaf0 hd rfl ⟨rfl, .inr ⟨rfl, by unfold EvI.fl; omega⟩⟩
def EvI.ow (e x : EvI) : Prop :=
  (x.o = e.o ∧ x.s = e.s ∧ x.d0 = e.d0 ∧ x.d1 = e.d1 ∧ x.d2 = e.d2 ∧ x.d3 = e.d3 ∧ x.d4 = e.d4 ∧ x.d5 = e.d5 ∧ x.k = e.k) ∧
  ((e.k = 1 ∨ e.k = 2) ∧ x.n = e.n ∧ x.t = 0 ∧ x.a = e.a ∧ x.r = 0 ∧ x.f = 0 ∨
  e.k = 3 ∧ x.n = e.n ∧ x.t = 0 ∧ x.a = e.a ∧ x.r = e.r ∧ x.f = 0 ∨
  e.k = 4 ∧ x.n = 0 ∧ x.t = 0 ∧ x.a = 0 ∧ x.r = e.r ∧ x.f = e.f ∨
  e.k = 5 ∧ x.n = e.n ∧ x.t = e.t ∧ x.a = e.a ∧ x.r = 0 ∧ x.f = 0 ∨
  e.k = 6 ∧ x.n = 0 ∧ x.t = e.t ∧ x.a = 0 ∧ x.r = 0 ∧ x.f = 0 ∨
  (e.k < 1 ∨ 6 < e.k) ∧ x.n = 0 ∧ x.t = 0 ∧ x.a = 0 ∧ x.r = 0 ∧ x.f = 0)
theorem leaf_own {o lp : Nat → Bool} {n0 : Nat} {t : T} {x : AV} {e : EvI} (z : EvI) (hd : t.hd = .leaf x) (hz : fitA [] (.agg z.row) x) (ho : e.ow z) : t.ok Try.prog o lp n0 (fun x G => G = [] ∧ ∃ z : EvI, x = .agg z.row ∧ e.ow z) :=
  ok_leaf (ns := []) (G := []) hd ⟨⟨hz, trivial⟩, trivial, .nil⟩ ⟨rfl, z, rfl, ho⟩
theorem rown (e : EvI) : Runs Try.prog 37 [.agg e.row] fun x G => G = [] ∧ ∃ z : EvI, x = .agg z.row ∧ e.ow z := by
  refine runs_treeF plain mixed (fun _ => false) (fun _ => false) 60 ?_
  refine ok_sk (.both (.stop []) (.both (.stop []) (.both (.stop []) (.both (.stop []) (.both (.stop []) (.both (.stop []) (.stop []))))))) (S := .fork (decide (e.k = 1)) (.stop (.leaf (.agg [.sint .i64 e.o, .sint .u64 e.s, .sint .u64 e.d0, .sint .u64 e.d1, .sint .u64 e.d2, .sint .u64 e.d3, .sint .u64 e.d4, .sint .u64 e.d5, .sint .u8 e.k, .sint .u64 e.n, .int .i64 (0 : Int), .sint .i64 e.a, .int .u64 (0 : Int), .int .u64 (0 : Int)])) [] ([])) (.fork (decide (e.k = 2)) (.stop (.leaf (.agg [.sint .i64 e.o, .sint .u64 e.s, .sint .u64 e.d0, .sint .u64 e.d1, .sint .u64 e.d2, .sint .u64 e.d3, .sint .u64 e.d4, .sint .u64 e.d5, .sint .u8 e.k, .sint .u64 e.n, .int .i64 (0 : Int), .sint .i64 e.a, .int .u64 (0 : Int), .int .u64 (0 : Int)])) [] ([])) (.fork (decide (e.k = 3)) (.stop (.leaf (.agg [.sint .i64 e.o, .sint .u64 e.s, .sint .u64 e.d0, .sint .u64 e.d1, .sint .u64 e.d2, .sint .u64 e.d3, .sint .u64 e.d4, .sint .u64 e.d5, .sint .u8 e.k, .sint .u64 e.n, .int .i64 (0 : Int), .sint .i64 e.a, .sint .u64 e.r, .int .u64 (0 : Int)])) [] ([])) (.fork (decide (e.k = 4)) (.stop (.leaf (.agg [.sint .i64 e.o, .sint .u64 e.s, .sint .u64 e.d0, .sint .u64 e.d1, .sint .u64 e.d2, .sint .u64 e.d3, .sint .u64 e.d4, .sint .u64 e.d5, .sint .u8 e.k, .int .u64 (0 : Int), .int .i64 (0 : Int), .int .i64 (0 : Int), .sint .u64 e.r, .sint .u64 e.f])) [] ([])) (.fork (decide (e.k = 5)) (.stop (.leaf (.agg [.sint .i64 e.o, .sint .u64 e.s, .sint .u64 e.d0, .sint .u64 e.d1, .sint .u64 e.d2, .sint .u64 e.d3, .sint .u64 e.d4, .sint .u64 e.d5, .sint .u8 e.k, .sint .u64 e.n, .sint .i64 e.t, .sint .i64 e.a, .int .u64 (0 : Int), .int .u64 (0 : Int)])) [] ([])) (.fork (decide (e.k = 6)) (.stop (.leaf (.agg [.sint .i64 e.o, .sint .u64 e.s, .sint .u64 e.d0, .sint .u64 e.d1, .sint .u64 e.d2, .sint .u64 e.d3, .sint .u64 e.d4, .sint .u64 e.d5, .sint .u8 e.k, .int .u64 (0 : Int), .sint .i64 e.t, .int .i64 (0 : Int), .int .u64 (0 : Int), .int .u64 (0 : Int)])) [] ([])) (.stop (.leaf (.agg [.sint .i64 e.o, .sint .u64 e.s, .sint .u64 e.d0, .sint .u64 e.d1, .sint .u64 e.d2, .sint .u64 e.d3, .sint .u64 e.d4, .sint .u64 e.d5, .sint .u8 e.k, .int .u64 (0 : Int), .int .i64 (0 : Int), .int .i64 (0 : Int), .int .u64 (0 : Int), .int .u64 (0 : Int)])) [] ([])))))))) (by kernel_rfl) ?_
  refine hold_forkD (fun h0 => ?_) (fun h0 => ?_)
  ·
   exact hold_stop fun hd hb => leaf_own { e with t := 0, r := 0, f := 0 } hd (by simp [EvI.row, fitA, fitsA, nf]) ⟨⟨rfl, rfl, rfl, rfl, rfl, rfl, rfl, rfl, rfl⟩, .inl ⟨by omega, rfl, rfl, rfl, rfl, rfl⟩⟩
  refine hold_forkD (fun h1 => ?_) (fun h1 => ?_)
  ·
   exact hold_stop fun hd hb => leaf_own { e with t := 0, r := 0, f := 0 } hd (by simp [EvI.row, fitA, fitsA, nf]) ⟨⟨rfl, rfl, rfl, rfl, rfl, rfl, rfl, rfl, rfl⟩, .inl ⟨by omega, rfl, rfl, rfl, rfl, rfl⟩⟩
  refine hold_forkD (fun h2 => ?_) (fun h2 => ?_)
  ·
   exact hold_stop fun hd hb => leaf_own { e with t := 0, f := 0 } hd (by simp [EvI.row, fitA, fitsA, nf]) ⟨⟨rfl, rfl, rfl, rfl, rfl, rfl, rfl, rfl, rfl⟩, .inr (.inl ⟨by omega, rfl, rfl, rfl, rfl, rfl⟩)⟩
  refine hold_forkD (fun h3 => ?_) (fun h3 => ?_)
  ·
   exact hold_stop fun hd hb => leaf_own { e with n := 0, t := 0, a := 0 } hd (by simp [EvI.row, fitA, fitsA, nf]) ⟨⟨rfl, rfl, rfl, rfl, rfl, rfl, rfl, rfl, rfl⟩, .inr (.inr (.inl ⟨by omega, rfl, rfl, rfl, rfl, rfl⟩))⟩
  refine hold_forkD (fun h4 => ?_) (fun h4 => ?_)
  ·
   exact hold_stop fun hd hb => leaf_own { e with r := 0, f := 0 } hd (by simp [EvI.row, fitA, fitsA, nf]) ⟨⟨rfl, rfl, rfl, rfl, rfl, rfl, rfl, rfl, rfl⟩, .inr (.inr (.inr (.inl ⟨by omega, rfl, rfl, rfl, rfl, rfl⟩)))⟩
  refine hold_forkD (fun h5 => ?_) (fun h5 => ?_)
  ·
   exact hold_stop fun hd hb => leaf_own { e with n := 0, a := 0, r := 0, f := 0 } hd (by simp [EvI.row, fitA, fitsA, nf]) ⟨⟨rfl, rfl, rfl, rfl, rfl, rfl, rfl, rfl, rfl⟩, .inr (.inr (.inr (.inr (.inl ⟨by omega, rfl, rfl, rfl, rfl, rfl⟩))))⟩
  exact hold_stop fun hd hb => leaf_own { e with n := 0, t := 0, a := 0, r := 0, f := 0 } hd (by simp [EvI.row, fitA, fitsA, nf]) ⟨⟨rfl, rfl, rfl, rfl, rfl, rfl, rfl, rfl, rfl⟩, .inr (.inr (.inr (.inr (.inr ⟨by omega, rfl, rfl, rfl, rfl, rfl⟩))))⟩
theorem ev_mf {e z : EvI} (hr : e.rng) (h : e.ow z) (heq : e.n = z.n ∧ e.t = z.t ∧ e.a = z.a ∧ e.r = z.r ∧ e.f = z.f) (hf : e.fl) : e.mf := by
  obtain ⟨_, _, _, _, _, _, _, hk, hn, hr1, hf1⟩ := hr
  obtain ⟨_, h2⟩ := h
  unfold EvI.mf
  rcases hf with hf | hf | hf | hf | hf | hf | hf <;> rcases h2 with h2 | h2 | h2 | h2 | h2 | h2 <;> first | (exfalso; omega) | exact ⟨by omega, fun _ => by omega, fun _ => by omega, fun _ => by omega, fun _ => by omega, fun _ => by omega, fun _ => by omega, fun _ => by omega⟩
theorem mf_fl {e : EvI} (hr : e.rng) (h : e.mf) : e.fl := by
  obtain ⟨_, _, _, _, _, _, _, hk, hn, hr1, hf1⟩ := hr
  obtain ⟨h0, h1, h2, h3, h4, h5, h6, h7⟩ := h
  have hk : e.k = 1 ∨ e.k = 2 ∨ e.k = 3 ∨ e.k = 4 ∨ e.k = 5 ∨ e.k = 6 ∨ e.k = 7 := by clear h1 h2 h3 h4 h5 h6 h7; omega
  rcases hk with k | k | k | k | k | k | k
  · have := h1 k
    exact .inl (by clear h1 h2 h3 h4 h5 h6 h7; omega)
  · have := h2 k
    exact .inr (.inl (by clear h1 h2 h3 h4 h5 h6 h7; omega))
  · have := h3 k
    exact .inr (.inr (.inl (by clear h1 h2 h3 h4 h5 h6 h7; omega)))
  · have := h4 k
    exact .inr (.inr (.inr (.inl (by clear h1 h2 h3 h4 h5 h6 h7; omega))))
  · have := h5 k
    exact .inr (.inr (.inr (.inr (.inl (by clear h1 h2 h3 h4 h5 h6 h7; omega)))))
  · have := h6 k
    exact .inr (.inr (.inr (.inr (.inr (.inl (by clear h1 h2 h3 h4 h5 h6 h7; omega))))))
  · exact .inr (.inr (.inr (.inr (.inr (.inr k)))))
theorem mf_eq {e z : EvI} (h : e.ow z) (hf : e.mf) : e.o = z.o ∧ e.s = z.s ∧ e.d0 = z.d0 ∧ e.d1 = z.d1 ∧ e.d2 = z.d2 ∧ e.d3 = z.d3 ∧ e.d4 = z.d4 ∧ e.d5 = z.d5 ∧ e.k = z.k ∧ e.n = z.n ∧ e.t = z.t ∧ e.a = z.a ∧ e.r = z.r ∧ e.f = z.f := by
  obtain ⟨⟨a0, a1, a2, a3, a4, a5, a6, a7, a8⟩, h⟩ := h
  obtain ⟨h0, h1, h2, h3, h4, h5, h6, h7⟩ := hf
  refine ⟨a0.symm, a1.symm, a2.symm, a3.symm, a4.symm, a5.symm, a6.symm, a7.symm, a8.symm, ?_⟩
  rcases h with ⟨k | k, h⟩ | ⟨k, h⟩ | ⟨k, h⟩ | ⟨k, h⟩ | ⟨k, h⟩ | ⟨k, h⟩
  · have := h1 k
    clear h1 h2 h3 h4 h5 h6 h7
    omega
  · have := h2 k
    clear h1 h2 h3 h4 h5 h6 h7
    omega
  · have := h3 k
    clear h1 h2 h3 h4 h5 h6 h7
    omega
  · have := h4 k
    clear h1 h2 h3 h4 h5 h6 h7
    omega
  · have := h5 k
    clear h1 h2 h3 h4 h5 h6 h7
    omega
  · have := h6 k
    clear h1 h2 h3 h4 h5 h6 h7
    omega
  · have k : e.k = 7 := by clear h1 h2 h3 h4 h5 h6 h7; omega
    have := h7 k
    clear h1 h2 h3 h4 h5 h6 h7
    omega
theorem rmay (e : EvI) (hr : e.rng) : Runs Try.prog 34 [.agg e.row] fun x G => G = [] ∧ ((x = .bool true ∧ e.may) ∨ (x = .bool false ∧ ¬ e.may)) := by
  have hr0 := hr
  unfold EvI.rng at hr
  refine runs_treeF plain mixed (fun g => Nat.beq g 38 || Nat.beq g 37) (fun _ => false) 60 ?_
  refine ok_sk (.both (.both (.both (.stop []) (.both (.stop []) (.l (.both (.l (.both (.both (.stop []) (.both (.stop []) (.both (.stop []) (.both (.stop []) (.both (.stop []) (.r (.stop []))))))) (.stop []))) (.both (.l (.both (.both (.stop []) (.both (.stop []) (.both (.stop []) (.both (.stop []) (.r (.both (.stop []) (.stop []))))))) (.stop []))) (.both (.l (.both (.both (.stop []) (.both (.stop []) (.both (.stop []) (.r (.both (.stop []) (.both (.stop []) (.stop []))))))) (.stop []))) (.both (.l (.both (.both (.stop []) (.both (.stop []) (.r (.both (.stop []) (.both (.stop []) (.both (.stop []) (.stop []))))))) (.stop []))) (.both (.l (.both (.both (.stop []) (.r (.both (.stop []) (.both (.stop []) (.both (.stop []) (.both (.stop []) (.stop []))))))) (.stop []))) (.l (.l (.both (.r (.both (.stop []) (.both (.stop []) (.both (.stop []) (.both (.stop []) (.both (.stop []) (.stop []))))))) (.stop [])))))))))))) (.stop [])) (.stop [])) (S := .fork (decide (1 ≤ e.o)) (.fork (decide (e.o ≤ 6)) (.fork (decide (e.s < 1)) (.stop (.leaf (.bool false)) [] ([])) (.fork (decide (1099511627776 ≤ e.s)) (.stop (.leaf (.bool false)) [] ([])) (.left (decide ((-9223372036854775808 : Int) ≤ e.o - 1 ∧ e.o - 1 ≤ 9223372036854775807)) (.fork (decide (e.o - 1 = 5)) (.left (decide (0 ≤ e.s - 1 ∧ e.s - 1 ≤ 18446744073709551615)) (.fork (decide (e.d5 = e.s - 1)) (.fork (decide (1099511627776 ≤ e.d0)) (.stop (.leaf (.bool false)) [] ([])) (.fork (decide (1099511627776 ≤ e.d1)) (.stop (.leaf (.bool false)) [] ([])) (.fork (decide (1099511627776 ≤ e.d2)) (.stop (.leaf (.bool false)) [] ([])) (.fork (decide (1099511627776 ≤ e.d3)) (.stop (.leaf (.bool false)) [] ([])) (.fork (decide (1099511627776 ≤ e.d4)) (.stop (.leaf (.bool false)) [] ([])) (.right (decide (1099511627776 ≤ e.d5)) (.stop (.call 37 [.agg e.row]) [] ([])))))))) (.stop (.leaf (.bool false)) [] ([])))) (.fork (decide (e.o - 1 = 4)) (.left (decide (0 ≤ e.s - 1 ∧ e.s - 1 ≤ 18446744073709551615)) (.fork (decide (e.d4 = e.s - 1)) (.fork (decide (1099511627776 ≤ e.d0)) (.stop (.leaf (.bool false)) [] ([])) (.fork (decide (1099511627776 ≤ e.d1)) (.stop (.leaf (.bool false)) [] ([])) (.fork (decide (1099511627776 ≤ e.d2)) (.stop (.leaf (.bool false)) [] ([])) (.fork (decide (1099511627776 ≤ e.d3)) (.stop (.leaf (.bool false)) [] ([])) (.right (decide (1099511627776 ≤ e.d4)) (.fork (decide (1099511627776 ≤ e.d5)) (.stop (.leaf (.bool false)) [] ([])) (.stop (.call 37 [.agg e.row]) [] ([])))))))) (.stop (.leaf (.bool false)) [] ([])))) (.fork (decide (e.o - 1 = 3)) (.left (decide (0 ≤ e.s - 1 ∧ e.s - 1 ≤ 18446744073709551615)) (.fork (decide (e.d3 = e.s - 1)) (.fork (decide (1099511627776 ≤ e.d0)) (.stop (.leaf (.bool false)) [] ([])) (.fork (decide (1099511627776 ≤ e.d1)) (.stop (.leaf (.bool false)) [] ([])) (.fork (decide (1099511627776 ≤ e.d2)) (.stop (.leaf (.bool false)) [] ([])) (.right (decide (1099511627776 ≤ e.d3)) (.fork (decide (1099511627776 ≤ e.d4)) (.stop (.leaf (.bool false)) [] ([])) (.fork (decide (1099511627776 ≤ e.d5)) (.stop (.leaf (.bool false)) [] ([])) (.stop (.call 37 [.agg e.row]) [] ([])))))))) (.stop (.leaf (.bool false)) [] ([])))) (.fork (decide (e.o - 1 = 2)) (.left (decide (0 ≤ e.s - 1 ∧ e.s - 1 ≤ 18446744073709551615)) (.fork (decide (e.d2 = e.s - 1)) (.fork (decide (1099511627776 ≤ e.d0)) (.stop (.leaf (.bool false)) [] ([])) (.fork (decide (1099511627776 ≤ e.d1)) (.stop (.leaf (.bool false)) [] ([])) (.right (decide (1099511627776 ≤ e.d2)) (.fork (decide (1099511627776 ≤ e.d3)) (.stop (.leaf (.bool false)) [] ([])) (.fork (decide (1099511627776 ≤ e.d4)) (.stop (.leaf (.bool false)) [] ([])) (.fork (decide (1099511627776 ≤ e.d5)) (.stop (.leaf (.bool false)) [] ([])) (.stop (.call 37 [.agg e.row]) [] ([])))))))) (.stop (.leaf (.bool false)) [] ([])))) (.fork (decide (e.o - 1 = 1)) (.left (decide (0 ≤ e.s - 1 ∧ e.s - 1 ≤ 18446744073709551615)) (.fork (decide (e.d1 = e.s - 1)) (.fork (decide (1099511627776 ≤ e.d0)) (.stop (.leaf (.bool false)) [] ([])) (.right (decide (1099511627776 ≤ e.d1)) (.fork (decide (1099511627776 ≤ e.d2)) (.stop (.leaf (.bool false)) [] ([])) (.fork (decide (1099511627776 ≤ e.d3)) (.stop (.leaf (.bool false)) [] ([])) (.fork (decide (1099511627776 ≤ e.d4)) (.stop (.leaf (.bool false)) [] ([])) (.fork (decide (1099511627776 ≤ e.d5)) (.stop (.leaf (.bool false)) [] ([])) (.stop (.call 37 [.agg e.row]) [] ([])))))))) (.stop (.leaf (.bool false)) [] ([])))) (.left (decide (e.o - 1 = 0)) (.left (decide (0 ≤ e.s - 1 ∧ e.s - 1 ≤ 18446744073709551615)) (.fork (decide (e.d0 = e.s - 1)) (.right (decide (1099511627776 ≤ e.d0)) (.fork (decide (1099511627776 ≤ e.d1)) (.stop (.leaf (.bool false)) [] ([])) (.fork (decide (1099511627776 ≤ e.d2)) (.stop (.leaf (.bool false)) [] ([])) (.fork (decide (1099511627776 ≤ e.d3)) (.stop (.leaf (.bool false)) [] ([])) (.fork (decide (1099511627776 ≤ e.d4)) (.stop (.leaf (.bool false)) [] ([])) (.fork (decide (1099511627776 ≤ e.d5)) (.stop (.leaf (.bool false)) [] ([])) (.stop (.call 37 [.agg e.row]) [] ([])))))))) (.stop (.leaf (.bool false)) [] ([]))))))))))))) (.stop (.leaf (.bool false)) [] ([]))) (.stop (.leaf (.bool false)) [] ([]))) (by kernel_rfl) ?_
  refine hold_forkD (fun h0 => ?_) (fun h0 => ?_)
  ·
   refine hold_forkD (fun h1 => ?_) (fun h1 => ?_)
   ·
    refine hold_forkD (fun h2 => ?_) (fun h2 => ?_)
    ·
     exact hold_stop fun hd hb => ok_leaf0 hd rfl ⟨rfl, .inr ⟨rfl, fun hm => by have hm := hm.1; unfold EvI.at_ at hm; omega⟩⟩
    refine hold_forkD (fun h3 => ?_) (fun h3 => ?_)
    ·
     exact hold_stop fun hd hb => ok_leaf0 hd rfl ⟨rfl, .inr ⟨rfl, fun hm => by have hm := hm.1; unfold EvI.at_ at hm; omega⟩⟩
    refine hl (bc fun h4 => by omega) ?_
    refine hold_forkD (fun h4 => ?_) (fun h4 => ?_)
    ·
     refine hl (bc fun h5 => by omega) ?_
     refine hold_forkD (fun h5 => ?_) (fun h5 => ?_)
     ·
      refine hold_forkD (fun h6 => ?_) (fun h6 => ?_)
      ·
       exact hold_stop fun hd hb => ok_leaf0 hd rfl ⟨rfl, .inr ⟨rfl, fun hm => by have hm := hm.1; unfold EvI.at_ at hm; omega⟩⟩
      refine hold_forkD (fun h7 => ?_) (fun h7 => ?_)
      ·
       exact hold_stop fun hd hb => ok_leaf0 hd rfl ⟨rfl, .inr ⟨rfl, fun hm => by have hm := hm.1; unfold EvI.at_ at hm; omega⟩⟩
      refine hold_forkD (fun h8 => ?_) (fun h8 => ?_)
      ·
       exact hold_stop fun hd hb => ok_leaf0 hd rfl ⟨rfl, .inr ⟨rfl, fun hm => by have hm := hm.1; unfold EvI.at_ at hm; omega⟩⟩
      refine hold_forkD (fun h9 => ?_) (fun h9 => ?_)
      ·
       exact hold_stop fun hd hb => ok_leaf0 hd rfl ⟨rfl, .inr ⟨rfl, fun hm => by have hm := hm.1; unfold EvI.at_ at hm; omega⟩⟩
      refine hold_forkD (fun h10 => ?_) (fun h10 => ?_)
      ·
       exact hold_stop fun hd hb => ok_leaf0 hd rfl ⟨rfl, .inr ⟨rfl, fun hm => by have hm := hm.1; unfold EvI.at_ at hm; omega⟩⟩
      refine hzr (fun h11 => by omega) ?_
      refine hold_stop (fun hd hb => ?_)
      refine ok_call0 hd (rown e) rfl ?_
      rintro x G ⟨rfl, z, rfl, ow⟩
      refine ⟨rfl, fun g hg => (by cases hg), ?_⟩
      refine ok_sk (.l (.l (.l (.l (.l (.l (.l (.l (.l (.l (.l (.l (.l (.l (.both (.stop []) (.stop [])))))))))))))))) (S := .left (decide (e.o = e.o)) (.left (decide (e.s = e.s)) (.left (decide (e.d0 = e.d0)) (.left (decide (e.d1 = e.d1)) (.left (decide (e.d2 = e.d2)) (.left (decide (e.d3 = e.d3)) (.left (decide (e.d4 = e.d4)) (.left (decide (e.d5 = e.d5)) (.left (decide (e.k = e.k)) (.left (decide (e.n = e.n)) (.left (decide (e.t = e.t)) (.left (decide (e.a = e.a)) (.left (decide (e.r = e.r)) (.left (decide (e.f = e.f)) (.fork (@decide (e.o = z.o ∧ e.s = z.s ∧ e.d0 = z.d0 ∧ e.d1 = z.d1 ∧ e.d2 = z.d2 ∧ e.d3 = z.d3 ∧ e.d4 = z.d4 ∧ e.d5 = z.d5 ∧ e.k = z.k ∧ e.n = z.n ∧ e.t = z.t ∧ e.a = z.a ∧ e.r = z.r ∧ e.f = z.f) pd) (.stop (.call 38 [.agg e.row]) [] ([])) (.stop (.leaf (.bool false)) [] ([]))))))))))))))))) (by kernel_rfl) ?_
      iterate 14 refine hl (bc fun h12 => by omega) ?_
      refine hold_forkD (fun h12 => ?_) (fun h12 => ?_)
      ·
       refine hold_stop (fun hd hb => ?_)
       refine ok_call0 hd (rfields e) rfl ?_
       rintro x G ⟨rfl, ⟨rfl, fl⟩ | ⟨rfl, fl⟩⟩ <;> refine ⟨rfl, fun g hg => (by cases hg), ?_⟩
       ·
        refine ok_sk (.stop []) (S := .stop (.leaf (.bool true)) [] ([])) (by kernel_rfl) ?_
        exact hold_stop fun hd hb => ok_leaf0 hd rfl ⟨rfl, .inl ⟨rfl, by unfold EvI.at_; omega, ev_mf hr0 ow (by omega) fl⟩⟩
       refine ok_sk (.stop []) (S := .stop (.leaf (.bool false)) [] ([])) (by kernel_rfl) ?_
       exact hold_stop fun hd hb => ok_leaf0 hd rfl ⟨rfl, .inr ⟨rfl, fun hm => fl (mf_fl hr0 hm.2)⟩⟩
      exact hold_stop fun hd hb => ok_leaf0 hd rfl ⟨rfl, .inr ⟨rfl, fun hm => absurd (mf_eq ow hm.2) (by assumption)⟩⟩
     exact hold_stop fun hd hb => ok_leaf0 hd rfl ⟨rfl, .inr ⟨rfl, fun hm => by have hm := hm.1; unfold EvI.at_ at hm; omega⟩⟩
    refine hold_forkD (fun h5 => ?_) (fun h5 => ?_)
    ·
     refine hl (bc fun h6 => by omega) ?_
     refine hold_forkD (fun h6 => ?_) (fun h6 => ?_)
     ·
      refine hold_forkD (fun h7 => ?_) (fun h7 => ?_)
      ·
       exact hold_stop fun hd hb => ok_leaf0 hd rfl ⟨rfl, .inr ⟨rfl, fun hm => by have hm := hm.1; unfold EvI.at_ at hm; omega⟩⟩
      refine hold_forkD (fun h8 => ?_) (fun h8 => ?_)
      ·
       exact hold_stop fun hd hb => ok_leaf0 hd rfl ⟨rfl, .inr ⟨rfl, fun hm => by have hm := hm.1; unfold EvI.at_ at hm; omega⟩⟩
      refine hold_forkD (fun h9 => ?_) (fun h9 => ?_)
      ·
       exact hold_stop fun hd hb => ok_leaf0 hd rfl ⟨rfl, .inr ⟨rfl, fun hm => by have hm := hm.1; unfold EvI.at_ at hm; omega⟩⟩
      refine hold_forkD (fun h10 => ?_) (fun h10 => ?_)
      ·
       exact hold_stop fun hd hb => ok_leaf0 hd rfl ⟨rfl, .inr ⟨rfl, fun hm => by have hm := hm.1; unfold EvI.at_ at hm; omega⟩⟩
      refine hzr (fun h11 => by omega) ?_
      refine hold_forkD (fun h11 => ?_) (fun h11 => ?_)
      ·
       exact hold_stop fun hd hb => ok_leaf0 hd rfl ⟨rfl, .inr ⟨rfl, fun hm => by have hm := hm.1; unfold EvI.at_ at hm; omega⟩⟩
      refine hold_stop (fun hd hb => ?_)
      refine ok_call0 hd (rown e) rfl ?_
      rintro x G ⟨rfl, z, rfl, ow⟩
      refine ⟨rfl, fun g hg => (by cases hg), ?_⟩
      refine ok_sk (.l (.l (.l (.l (.l (.l (.l (.l (.l (.l (.l (.l (.l (.l (.both (.stop []) (.stop [])))))))))))))))) (S := .left (decide (e.o = e.o)) (.left (decide (e.s = e.s)) (.left (decide (e.d0 = e.d0)) (.left (decide (e.d1 = e.d1)) (.left (decide (e.d2 = e.d2)) (.left (decide (e.d3 = e.d3)) (.left (decide (e.d4 = e.d4)) (.left (decide (e.d5 = e.d5)) (.left (decide (e.k = e.k)) (.left (decide (e.n = e.n)) (.left (decide (e.t = e.t)) (.left (decide (e.a = e.a)) (.left (decide (e.r = e.r)) (.left (decide (e.f = e.f)) (.fork (@decide (e.o = z.o ∧ e.s = z.s ∧ e.d0 = z.d0 ∧ e.d1 = z.d1 ∧ e.d2 = z.d2 ∧ e.d3 = z.d3 ∧ e.d4 = z.d4 ∧ e.d5 = z.d5 ∧ e.k = z.k ∧ e.n = z.n ∧ e.t = z.t ∧ e.a = z.a ∧ e.r = z.r ∧ e.f = z.f) pd) (.stop (.call 38 [.agg e.row]) [] ([])) (.stop (.leaf (.bool false)) [] ([]))))))))))))))))) (by kernel_rfl) ?_
      iterate 14 refine hl (bc fun h13 => by omega) ?_
      refine hold_forkD (fun h13 => ?_) (fun h13 => ?_)
      ·
       refine hold_stop (fun hd hb => ?_)
       refine ok_call0 hd (rfields e) rfl ?_
       rintro x G ⟨rfl, ⟨rfl, fl⟩ | ⟨rfl, fl⟩⟩ <;> refine ⟨rfl, fun g hg => (by cases hg), ?_⟩
       ·
        refine ok_sk (.stop []) (S := .stop (.leaf (.bool true)) [] ([])) (by kernel_rfl) ?_
        exact hold_stop fun hd hb => ok_leaf0 hd rfl ⟨rfl, .inl ⟨rfl, by unfold EvI.at_; omega, ev_mf hr0 ow (by omega) fl⟩⟩
       refine ok_sk (.stop []) (S := .stop (.leaf (.bool false)) [] ([])) (by kernel_rfl) ?_
       exact hold_stop fun hd hb => ok_leaf0 hd rfl ⟨rfl, .inr ⟨rfl, fun hm => fl (mf_fl hr0 hm.2)⟩⟩
      exact hold_stop fun hd hb => ok_leaf0 hd rfl ⟨rfl, .inr ⟨rfl, fun hm => absurd (mf_eq ow hm.2) (by assumption)⟩⟩
     exact hold_stop fun hd hb => ok_leaf0 hd rfl ⟨rfl, .inr ⟨rfl, fun hm => by have hm := hm.1; unfold EvI.at_ at hm; omega⟩⟩
    refine hold_forkD (fun h6 => ?_) (fun h6 => ?_)
    ·
     refine hl (bc fun h7 => by omega) ?_
     refine hold_forkD (fun h7 => ?_) (fun h7 => ?_)
     ·
      refine hold_forkD (fun h8 => ?_) (fun h8 => ?_)
      ·
       exact hold_stop fun hd hb => ok_leaf0 hd rfl ⟨rfl, .inr ⟨rfl, fun hm => by have hm := hm.1; unfold EvI.at_ at hm; omega⟩⟩
      refine hold_forkD (fun h9 => ?_) (fun h9 => ?_)
      ·
       exact hold_stop fun hd hb => ok_leaf0 hd rfl ⟨rfl, .inr ⟨rfl, fun hm => by have hm := hm.1; unfold EvI.at_ at hm; omega⟩⟩
      refine hold_forkD (fun h10 => ?_) (fun h10 => ?_)
      ·
       exact hold_stop fun hd hb => ok_leaf0 hd rfl ⟨rfl, .inr ⟨rfl, fun hm => by have hm := hm.1; unfold EvI.at_ at hm; omega⟩⟩
      refine hzr (fun h11 => by omega) ?_
      refine hold_forkD (fun h11 => ?_) (fun h11 => ?_)
      ·
       exact hold_stop fun hd hb => ok_leaf0 hd rfl ⟨rfl, .inr ⟨rfl, fun hm => by have hm := hm.1; unfold EvI.at_ at hm; omega⟩⟩
      refine hold_forkD (fun h12 => ?_) (fun h12 => ?_)
      ·
       exact hold_stop fun hd hb => ok_leaf0 hd rfl ⟨rfl, .inr ⟨rfl, fun hm => by have hm := hm.1; unfold EvI.at_ at hm; omega⟩⟩
      refine hold_stop (fun hd hb => ?_)
      refine ok_call0 hd (rown e) rfl ?_
      rintro x G ⟨rfl, z, rfl, ow⟩
      refine ⟨rfl, fun g hg => (by cases hg), ?_⟩
      refine ok_sk (.l (.l (.l (.l (.l (.l (.l (.l (.l (.l (.l (.l (.l (.l (.both (.stop []) (.stop [])))))))))))))))) (S := .left (decide (e.o = e.o)) (.left (decide (e.s = e.s)) (.left (decide (e.d0 = e.d0)) (.left (decide (e.d1 = e.d1)) (.left (decide (e.d2 = e.d2)) (.left (decide (e.d3 = e.d3)) (.left (decide (e.d4 = e.d4)) (.left (decide (e.d5 = e.d5)) (.left (decide (e.k = e.k)) (.left (decide (e.n = e.n)) (.left (decide (e.t = e.t)) (.left (decide (e.a = e.a)) (.left (decide (e.r = e.r)) (.left (decide (e.f = e.f)) (.fork (@decide (e.o = z.o ∧ e.s = z.s ∧ e.d0 = z.d0 ∧ e.d1 = z.d1 ∧ e.d2 = z.d2 ∧ e.d3 = z.d3 ∧ e.d4 = z.d4 ∧ e.d5 = z.d5 ∧ e.k = z.k ∧ e.n = z.n ∧ e.t = z.t ∧ e.a = z.a ∧ e.r = z.r ∧ e.f = z.f) pd) (.stop (.call 38 [.agg e.row]) [] ([])) (.stop (.leaf (.bool false)) [] ([]))))))))))))))))) (by kernel_rfl) ?_
      iterate 14 refine hl (bc fun h14 => by omega) ?_
      refine hold_forkD (fun h14 => ?_) (fun h14 => ?_)
      ·
       refine hold_stop (fun hd hb => ?_)
       refine ok_call0 hd (rfields e) rfl ?_
       rintro x G ⟨rfl, ⟨rfl, fl⟩ | ⟨rfl, fl⟩⟩ <;> refine ⟨rfl, fun g hg => (by cases hg), ?_⟩
       ·
        refine ok_sk (.stop []) (S := .stop (.leaf (.bool true)) [] ([])) (by kernel_rfl) ?_
        exact hold_stop fun hd hb => ok_leaf0 hd rfl ⟨rfl, .inl ⟨rfl, by unfold EvI.at_; omega, ev_mf hr0 ow (by omega) fl⟩⟩
       refine ok_sk (.stop []) (S := .stop (.leaf (.bool false)) [] ([])) (by kernel_rfl) ?_
       exact hold_stop fun hd hb => ok_leaf0 hd rfl ⟨rfl, .inr ⟨rfl, fun hm => fl (mf_fl hr0 hm.2)⟩⟩
      exact hold_stop fun hd hb => ok_leaf0 hd rfl ⟨rfl, .inr ⟨rfl, fun hm => absurd (mf_eq ow hm.2) (by assumption)⟩⟩
     exact hold_stop fun hd hb => ok_leaf0 hd rfl ⟨rfl, .inr ⟨rfl, fun hm => by have hm := hm.1; unfold EvI.at_ at hm; omega⟩⟩
    refine hold_forkD (fun h7 => ?_) (fun h7 => ?_)
    ·
     refine hl (bc fun h8 => by omega) ?_
     refine hold_forkD (fun h8 => ?_) (fun h8 => ?_)
     ·
      refine hold_forkD (fun h9 => ?_) (fun h9 => ?_)
      ·
       exact hold_stop fun hd hb => ok_leaf0 hd rfl ⟨rfl, .inr ⟨rfl, fun hm => by have hm := hm.1; unfold EvI.at_ at hm; omega⟩⟩
      refine hold_forkD (fun h10 => ?_) (fun h10 => ?_)
      ·
       exact hold_stop fun hd hb => ok_leaf0 hd rfl ⟨rfl, .inr ⟨rfl, fun hm => by have hm := hm.1; unfold EvI.at_ at hm; omega⟩⟩
      refine hzr (fun h11 => by omega) ?_
      refine hold_forkD (fun h11 => ?_) (fun h11 => ?_)
      ·
       exact hold_stop fun hd hb => ok_leaf0 hd rfl ⟨rfl, .inr ⟨rfl, fun hm => by have hm := hm.1; unfold EvI.at_ at hm; omega⟩⟩
      refine hold_forkD (fun h12 => ?_) (fun h12 => ?_)
      ·
       exact hold_stop fun hd hb => ok_leaf0 hd rfl ⟨rfl, .inr ⟨rfl, fun hm => by have hm := hm.1; unfold EvI.at_ at hm; omega⟩⟩
      refine hold_forkD (fun h13 => ?_) (fun h13 => ?_)
      ·
       exact hold_stop fun hd hb => ok_leaf0 hd rfl ⟨rfl, .inr ⟨rfl, fun hm => by have hm := hm.1; unfold EvI.at_ at hm; omega⟩⟩
      refine hold_stop (fun hd hb => ?_)
      refine ok_call0 hd (rown e) rfl ?_
      rintro x G ⟨rfl, z, rfl, ow⟩
      refine ⟨rfl, fun g hg => (by cases hg), ?_⟩
      refine ok_sk (.l (.l (.l (.l (.l (.l (.l (.l (.l (.l (.l (.l (.l (.l (.both (.stop []) (.stop [])))))))))))))))) (S := .left (decide (e.o = e.o)) (.left (decide (e.s = e.s)) (.left (decide (e.d0 = e.d0)) (.left (decide (e.d1 = e.d1)) (.left (decide (e.d2 = e.d2)) (.left (decide (e.d3 = e.d3)) (.left (decide (e.d4 = e.d4)) (.left (decide (e.d5 = e.d5)) (.left (decide (e.k = e.k)) (.left (decide (e.n = e.n)) (.left (decide (e.t = e.t)) (.left (decide (e.a = e.a)) (.left (decide (e.r = e.r)) (.left (decide (e.f = e.f)) (.fork (@decide (e.o = z.o ∧ e.s = z.s ∧ e.d0 = z.d0 ∧ e.d1 = z.d1 ∧ e.d2 = z.d2 ∧ e.d3 = z.d3 ∧ e.d4 = z.d4 ∧ e.d5 = z.d5 ∧ e.k = z.k ∧ e.n = z.n ∧ e.t = z.t ∧ e.a = z.a ∧ e.r = z.r ∧ e.f = z.f) pd) (.stop (.call 38 [.agg e.row]) [] ([])) (.stop (.leaf (.bool false)) [] ([]))))))))))))))))) (by kernel_rfl) ?_
      iterate 14 refine hl (bc fun h15 => by omega) ?_
      refine hold_forkD (fun h15 => ?_) (fun h15 => ?_)
      ·
       refine hold_stop (fun hd hb => ?_)
       refine ok_call0 hd (rfields e) rfl ?_
       rintro x G ⟨rfl, ⟨rfl, fl⟩ | ⟨rfl, fl⟩⟩ <;> refine ⟨rfl, fun g hg => (by cases hg), ?_⟩
       ·
        refine ok_sk (.stop []) (S := .stop (.leaf (.bool true)) [] ([])) (by kernel_rfl) ?_
        exact hold_stop fun hd hb => ok_leaf0 hd rfl ⟨rfl, .inl ⟨rfl, by unfold EvI.at_; omega, ev_mf hr0 ow (by omega) fl⟩⟩
       refine ok_sk (.stop []) (S := .stop (.leaf (.bool false)) [] ([])) (by kernel_rfl) ?_
       exact hold_stop fun hd hb => ok_leaf0 hd rfl ⟨rfl, .inr ⟨rfl, fun hm => fl (mf_fl hr0 hm.2)⟩⟩
      exact hold_stop fun hd hb => ok_leaf0 hd rfl ⟨rfl, .inr ⟨rfl, fun hm => absurd (mf_eq ow hm.2) (by assumption)⟩⟩
     exact hold_stop fun hd hb => ok_leaf0 hd rfl ⟨rfl, .inr ⟨rfl, fun hm => by have hm := hm.1; unfold EvI.at_ at hm; omega⟩⟩
    refine hold_forkD (fun h8 => ?_) (fun h8 => ?_)
    ·
     refine hl (bc fun h9 => by omega) ?_
     refine hold_forkD (fun h9 => ?_) (fun h9 => ?_)
     ·
      refine hold_forkD (fun h10 => ?_) (fun h10 => ?_)
      ·
       exact hold_stop fun hd hb => ok_leaf0 hd rfl ⟨rfl, .inr ⟨rfl, fun hm => by have hm := hm.1; unfold EvI.at_ at hm; omega⟩⟩
      refine hzr (fun h11 => by omega) ?_
      refine hold_forkD (fun h11 => ?_) (fun h11 => ?_)
      ·
       exact hold_stop fun hd hb => ok_leaf0 hd rfl ⟨rfl, .inr ⟨rfl, fun hm => by have hm := hm.1; unfold EvI.at_ at hm; omega⟩⟩
      refine hold_forkD (fun h12 => ?_) (fun h12 => ?_)
      ·
       exact hold_stop fun hd hb => ok_leaf0 hd rfl ⟨rfl, .inr ⟨rfl, fun hm => by have hm := hm.1; unfold EvI.at_ at hm; omega⟩⟩
      refine hold_forkD (fun h13 => ?_) (fun h13 => ?_)
      ·
       exact hold_stop fun hd hb => ok_leaf0 hd rfl ⟨rfl, .inr ⟨rfl, fun hm => by have hm := hm.1; unfold EvI.at_ at hm; omega⟩⟩
      refine hold_forkD (fun h14 => ?_) (fun h14 => ?_)
      ·
       exact hold_stop fun hd hb => ok_leaf0 hd rfl ⟨rfl, .inr ⟨rfl, fun hm => by have hm := hm.1; unfold EvI.at_ at hm; omega⟩⟩
      refine hold_stop (fun hd hb => ?_)
      refine ok_call0 hd (rown e) rfl ?_
      rintro x G ⟨rfl, z, rfl, ow⟩
      refine ⟨rfl, fun g hg => (by cases hg), ?_⟩
      refine ok_sk (.l (.l (.l (.l (.l (.l (.l (.l (.l (.l (.l (.l (.l (.l (.both (.stop []) (.stop [])))))))))))))))) (S := .left (decide (e.o = e.o)) (.left (decide (e.s = e.s)) (.left (decide (e.d0 = e.d0)) (.left (decide (e.d1 = e.d1)) (.left (decide (e.d2 = e.d2)) (.left (decide (e.d3 = e.d3)) (.left (decide (e.d4 = e.d4)) (.left (decide (e.d5 = e.d5)) (.left (decide (e.k = e.k)) (.left (decide (e.n = e.n)) (.left (decide (e.t = e.t)) (.left (decide (e.a = e.a)) (.left (decide (e.r = e.r)) (.left (decide (e.f = e.f)) (.fork (@decide (e.o = z.o ∧ e.s = z.s ∧ e.d0 = z.d0 ∧ e.d1 = z.d1 ∧ e.d2 = z.d2 ∧ e.d3 = z.d3 ∧ e.d4 = z.d4 ∧ e.d5 = z.d5 ∧ e.k = z.k ∧ e.n = z.n ∧ e.t = z.t ∧ e.a = z.a ∧ e.r = z.r ∧ e.f = z.f) pd) (.stop (.call 38 [.agg e.row]) [] ([])) (.stop (.leaf (.bool false)) [] ([]))))))))))))))))) (by kernel_rfl) ?_
      iterate 14 refine hl (bc fun h16 => by omega) ?_
      refine hold_forkD (fun h16 => ?_) (fun h16 => ?_)
      ·
       refine hold_stop (fun hd hb => ?_)
       refine ok_call0 hd (rfields e) rfl ?_
       rintro x G ⟨rfl, ⟨rfl, fl⟩ | ⟨rfl, fl⟩⟩ <;> refine ⟨rfl, fun g hg => (by cases hg), ?_⟩
       ·
        refine ok_sk (.stop []) (S := .stop (.leaf (.bool true)) [] ([])) (by kernel_rfl) ?_
        exact hold_stop fun hd hb => ok_leaf0 hd rfl ⟨rfl, .inl ⟨rfl, by unfold EvI.at_; omega, ev_mf hr0 ow (by omega) fl⟩⟩
       refine ok_sk (.stop []) (S := .stop (.leaf (.bool false)) [] ([])) (by kernel_rfl) ?_
       exact hold_stop fun hd hb => ok_leaf0 hd rfl ⟨rfl, .inr ⟨rfl, fun hm => fl (mf_fl hr0 hm.2)⟩⟩
      exact hold_stop fun hd hb => ok_leaf0 hd rfl ⟨rfl, .inr ⟨rfl, fun hm => absurd (mf_eq ow hm.2) (by assumption)⟩⟩
     exact hold_stop fun hd hb => ok_leaf0 hd rfl ⟨rfl, .inr ⟨rfl, fun hm => by have hm := hm.1; unfold EvI.at_ at hm; omega⟩⟩
    iterate 2 refine hl (bc fun h9 => by omega) ?_
    refine hold_forkD (fun h9 => ?_) (fun h9 => ?_)
    ·
     refine hzr (fun h10 => by omega) ?_
     refine hold_forkD (fun h10 => ?_) (fun h10 => ?_)
     ·
      exact hold_stop fun hd hb => ok_leaf0 hd rfl ⟨rfl, .inr ⟨rfl, fun hm => by have hm := hm.1; unfold EvI.at_ at hm; omega⟩⟩
     refine hold_forkD (fun h11 => ?_) (fun h11 => ?_)
     ·
      exact hold_stop fun hd hb => ok_leaf0 hd rfl ⟨rfl, .inr ⟨rfl, fun hm => by have hm := hm.1; unfold EvI.at_ at hm; omega⟩⟩
     refine hold_forkD (fun h12 => ?_) (fun h12 => ?_)
     ·
      exact hold_stop fun hd hb => ok_leaf0 hd rfl ⟨rfl, .inr ⟨rfl, fun hm => by have hm := hm.1; unfold EvI.at_ at hm; omega⟩⟩
     refine hold_forkD (fun h13 => ?_) (fun h13 => ?_)
     ·
      exact hold_stop fun hd hb => ok_leaf0 hd rfl ⟨rfl, .inr ⟨rfl, fun hm => by have hm := hm.1; unfold EvI.at_ at hm; omega⟩⟩
     refine hold_forkD (fun h14 => ?_) (fun h14 => ?_)
     ·
      exact hold_stop fun hd hb => ok_leaf0 hd rfl ⟨rfl, .inr ⟨rfl, fun hm => by have hm := hm.1; unfold EvI.at_ at hm; omega⟩⟩
     refine hold_stop (fun hd hb => ?_)
     refine ok_call0 hd (rown e) rfl ?_
     rintro x G ⟨rfl, z, rfl, ow⟩
     refine ⟨rfl, fun g hg => (by cases hg), ?_⟩
     refine ok_sk (.l (.l (.l (.l (.l (.l (.l (.l (.l (.l (.l (.l (.l (.l (.both (.stop []) (.stop [])))))))))))))))) (S := .left (decide (e.o = e.o)) (.left (decide (e.s = e.s)) (.left (decide (e.d0 = e.d0)) (.left (decide (e.d1 = e.d1)) (.left (decide (e.d2 = e.d2)) (.left (decide (e.d3 = e.d3)) (.left (decide (e.d4 = e.d4)) (.left (decide (e.d5 = e.d5)) (.left (decide (e.k = e.k)) (.left (decide (e.n = e.n)) (.left (decide (e.t = e.t)) (.left (decide (e.a = e.a)) (.left (decide (e.r = e.r)) (.left (decide (e.f = e.f)) (.fork (@decide (e.o = z.o ∧ e.s = z.s ∧ e.d0 = z.d0 ∧ e.d1 = z.d1 ∧ e.d2 = z.d2 ∧ e.d3 = z.d3 ∧ e.d4 = z.d4 ∧ e.d5 = z.d5 ∧ e.k = z.k ∧ e.n = z.n ∧ e.t = z.t ∧ e.a = z.a ∧ e.r = z.r ∧ e.f = z.f) pd) (.stop (.call 38 [.agg e.row]) [] ([])) (.stop (.leaf (.bool false)) [] ([]))))))))))))))))) (by kernel_rfl) ?_
     iterate 14 refine hl (bc fun h16 => by omega) ?_
     refine hold_forkD (fun h16 => ?_) (fun h16 => ?_)
     ·
      refine hold_stop (fun hd hb => ?_)
      refine ok_call0 hd (rfields e) rfl ?_
      rintro x G ⟨rfl, ⟨rfl, fl⟩ | ⟨rfl, fl⟩⟩ <;> refine ⟨rfl, fun g hg => (by cases hg), ?_⟩
      ·
       refine ok_sk (.stop []) (S := .stop (.leaf (.bool true)) [] ([])) (by kernel_rfl) ?_
       exact hold_stop fun hd hb => ok_leaf0 hd rfl ⟨rfl, .inl ⟨rfl, by unfold EvI.at_; omega, ev_mf hr0 ow (by omega) fl⟩⟩
      refine ok_sk (.stop []) (S := .stop (.leaf (.bool false)) [] ([])) (by kernel_rfl) ?_
      exact hold_stop fun hd hb => ok_leaf0 hd rfl ⟨rfl, .inr ⟨rfl, fun hm => fl (mf_fl hr0 hm.2)⟩⟩
     exact hold_stop fun hd hb => ok_leaf0 hd rfl ⟨rfl, .inr ⟨rfl, fun hm => absurd (mf_eq ow hm.2) (by assumption)⟩⟩
    exact hold_stop fun hd hb => ok_leaf0 hd rfl ⟨rfl, .inr ⟨rfl, fun hm => by have hm := hm.1; unfold EvI.at_ at hm; omega⟩⟩
   exact hold_stop fun hd hb => ok_leaf0 hd rfl ⟨rfl, .inr ⟨rfl, fun hm => by have hm := hm.1; unfold EvI.at_ at hm; omega⟩⟩
  exact hold_stop fun hd hb => ok_leaf0 hd rfl ⟨rfl, .inr ⟨rfl, fun hm => by have hm := hm.1; unfold EvI.at_ at hm; omega⟩⟩
def rmM (i : Nat) : List AV := [.top, .ptr 0 0, .top, .sint .i64 (i : Int), .top, .top, .top, .top, .top, .top, .top, .top, .top, .top, .top, .top, .top, .top, .top, .top, .top, .top, .top, .top, .top, .top, .top, .top, .top, .top, .top, .top, .top, .top, .top, .top, .top, .top, .top, .top, .top, .top, .top, .top, .top, .top, .top, .top, .top, .top, .top, .top, .top, .top, .top, .top, .top, .top, .top, .top, .top, .top, .top, .top, .top, .top, .top, .top, .top, .top, .top, .top, .top, .top, .top, .top, .top, .top, .top, .top, .top, .top]
theorem rmayM (m : MsI) (q : Nat) (E : Nat → EvI) (hq : q ≤ 1099511627776) (hr : m.rng) (hE : ∀ j, j < q → (E j).rng) : Runs Try.prog 23 [.agg (m.row (evs q E))] fun x G => G = [] ∧ ((x = .bool true ∧ m.may q E) ∨ (x = .bool false ∧ ¬ m.may q E)) := by
  unfold MsI.rng at hr
  refine runs_treeF plain mixed (fun g => Nat.beq g 34) (fun _ => true) 60 ?_
  refine ok_sk (.both (.both (.both (.both (.both (.stop []) (.both (.stop []) (.both (.stop []) (.both (.stop []) (.both (.stop []) (.both (.stop []) (.both (.stop []) (.both (.both (.both (.stop []) (.both (.both (.stop []) (.stop [])) (.stop []))) (.stop [])) (.both (.both (.stop []) (.both (.both (.stop [0]) (.stop [])) (.stop []))) (.stop [])))))))))) (.stop [])) (.stop [])) (.stop [])) (.stop [])) (S := .fork (decide (1 ≤ m.f)) (.fork (decide (m.f ≤ 6)) (.fork (decide (1 ≤ m.t)) (.fork (decide (m.t ≤ 6)) (.fork (decide (m.f = m.t)) (.stop (.leaf (.bool false)) [] ([])) (.fork (decide (1099511627776 < m.v0)) (.stop (.leaf (.bool false)) [] ([])) (.fork (decide (1099511627776 < m.v1)) (.stop (.leaf (.bool false)) [] ([])) (.fork (decide (1099511627776 < m.v2)) (.stop (.leaf (.bool false)) [] ([])) (.fork (decide (1099511627776 < m.v3)) (.stop (.leaf (.bool false)) [] ([])) (.fork (decide (1099511627776 < m.v4)) (.stop (.leaf (.bool false)) [] ([])) (.fork (decide (1099511627776 < m.v5)) (.stop (.leaf (.bool false)) [] ([])) (.fork (decide (m.k = 2)) (.fork (decide ((↑q : Int) = 0)) (.fork (decide (m.n = 0)) (.stop (.leaf (.bool false)) [] ([])) (.fork (decide (1 ≤ m.a)) (.fork (decide (m.a ≤ 1125899906842624)) (.stop (.leaf (.bool true)) [] ([])) (.stop (.leaf (.bool false)) [] ([]))) (.stop (.leaf (.bool false)) [] ([])))) (.stop (.leaf (.bool false)) [] ([]))) (.fork (decide (m.k = 1)) (.fork (decide (16 < (↑q : Int))) (.stop (.leaf (.bool false)) [] ([])) (.fork (decide (m.n = 0)) (.fork (decide (m.a = 0)) (.stop (.loop 52 [.agg (m.row (.data 14 q fun i => (E i).row)), .ptr 0 0, .bool false, .int .i64 (0 : Int), .ptr 0 1, .sint .i64 m.f, .bool true, .bool false, .bool false, .ptr 0 2, .sint .i64 m.t, .bool true, .bool false, .bool false, .bool false, .ptr 0 1, .sint .i64 m.f, .ptr 0 2, .sint .i64 m.t, .bool false, .bool false, .bool false, .ptr 0 3, .agg [.sint .u64 m.v0, .sint .u64 m.v1, .sint .u64 m.v2, .sint .u64 m.v3, .sint .u64 m.v4, .sint .u64 m.v5], .bool true, .bool false, .bool false, .ptr 0 0, .sint .u8 m.k, .bool false, .tuple [], .tuple [], .tuple [], .tuple [], .tuple [], .tuple [], .tuple [], .tuple [], .tuple [], .tuple [], .tuple [], .tuple [], .tuple [], .tuple [], .tuple [], .tuple [], .tuple [], .tuple [], .tuple [], .ptr 0 0, .sint .u8 m.k, .bool false, .bool false, .ptr 0 9, .data 14 q fun i => (E i).row, .sint .i64 (↑q : Int), .bool false, .bool false, .bool false, .ptr 0 10, .sint .u64 m.n, .bool false, .bool false, .bool false, .ptr 0 11, .sint .i64 m.a, .bool false, .bool false, .tuple [], .tuple [], .tuple [], .tuple [], .tuple [], .tuple [], .tuple [], .tuple [], .tuple [], .tuple [], .tuple [], .tuple [], .tuple [], .tuple []]) [0] ([(some (.cells 0 none (m.row (.data 14 q fun i => (E i).row))), none)])) (.stop (.leaf (.bool false)) [] ([]))) (.stop (.leaf (.bool false)) [] ([])))) (.stop (.leaf (.bool false)) [] ([]))))))))))) (.stop (.leaf (.bool false)) [] ([]))) (.stop (.leaf (.bool false)) [] ([]))) (.stop (.leaf (.bool false)) [] ([]))) (.stop (.leaf (.bool false)) [] ([]))) (by kernel_rfl) ?_
  refine hold_forkD (fun h0 => ?_) (fun h0 => ?_)
  ·
   refine hold_forkD (fun h1 => ?_) (fun h1 => ?_)
   ·
    refine hold_forkD (fun h2 => ?_) (fun h2 => ?_)
    ·
     refine hold_forkD (fun h3 => ?_) (fun h3 => ?_)
     ·
      refine hold_forkD (fun h4 => ?_) (fun h4 => ?_)
      ·
       exact hold_stop fun hd hb => ok_leaf0 hd rfl ⟨rfl, .inr ⟨rfl, by unfold MsI.may; omega⟩⟩
      refine hold_forkD (fun h5 => ?_) (fun h5 => ?_)
      ·
       exact hold_stop fun hd hb => ok_leaf0 hd rfl ⟨rfl, .inr ⟨rfl, by unfold MsI.may; omega⟩⟩
      refine hold_forkD (fun h6 => ?_) (fun h6 => ?_)
      ·
       exact hold_stop fun hd hb => ok_leaf0 hd rfl ⟨rfl, .inr ⟨rfl, by unfold MsI.may; omega⟩⟩
      refine hold_forkD (fun h7 => ?_) (fun h7 => ?_)
      ·
       exact hold_stop fun hd hb => ok_leaf0 hd rfl ⟨rfl, .inr ⟨rfl, by unfold MsI.may; omega⟩⟩
      refine hold_forkD (fun h8 => ?_) (fun h8 => ?_)
      ·
       exact hold_stop fun hd hb => ok_leaf0 hd rfl ⟨rfl, .inr ⟨rfl, by unfold MsI.may; omega⟩⟩
      refine hold_forkD (fun h9 => ?_) (fun h9 => ?_)
      ·
       exact hold_stop fun hd hb => ok_leaf0 hd rfl ⟨rfl, .inr ⟨rfl, by unfold MsI.may; omega⟩⟩
      refine hold_forkD (fun h10 => ?_) (fun h10 => ?_)
      ·
       exact hold_stop fun hd hb => ok_leaf0 hd rfl ⟨rfl, .inr ⟨rfl, by unfold MsI.may; omega⟩⟩
      refine hold_forkD (fun h11 => ?_) (fun h11 => ?_)
      ·
       refine hold_forkD (fun h12 => ?_) (fun h12 => ?_)
       ·
        refine hold_forkD (fun h13 => ?_) (fun h13 => ?_)
        ·
         exact hold_stop fun hd hb => ok_leaf0 hd rfl ⟨rfl, .inr ⟨rfl, by unfold MsI.may; omega⟩⟩
        refine hold_forkD (fun h14 => ?_) (fun h14 => ?_)
        ·
         refine hold_forkD (fun h15 => ?_) (fun h15 => ?_)
         ·
          exact hold_stop fun hd hb => ok_leaf0 hd rfl ⟨rfl, .inl ⟨rfl, by unfold MsI.may; omega⟩⟩
         exact hold_stop fun hd hb => ok_leaf0 hd rfl ⟨rfl, .inr ⟨rfl, by unfold MsI.may; omega⟩⟩
        exact hold_stop fun hd hb => ok_leaf0 hd rfl ⟨rfl, .inr ⟨rfl, by unfold MsI.may; omega⟩⟩
       exact hold_stop fun hd hb => ok_leaf0 hd rfl ⟨rfl, .inr ⟨rfl, by unfold MsI.may; omega⟩⟩
      refine hold_forkD (fun h12 => ?_) (fun h12 => ?_)
      ·
       refine hold_forkD (fun h13 => ?_) (fun h13 => ?_)
       ·
        exact hold_stop fun hd hb => ok_leaf0 hd rfl ⟨rfl, .inr ⟨rfl, by unfold MsI.may; omega⟩⟩
       refine hold_forkD (fun h14 => ?_) (fun h14 => ?_)
       ·
        refine hold_forkD (fun h15 => ?_) (fun h15 => ?_)
        ·
         refine hold_stop (fun hd hb => ?_)
         refine ok_loop hd (X := {i : Nat // i ≤ q ∧ ∀ j, j < i → (E j).may}) (fun i => rmM i.1) (fun _ => [.cells none (m.row (evs q E))]) (fun i => q - i.1) [some 0] ⟨0, by omega, fun j hj => absurd hj (Nat.not_lt_zero j)⟩ (fits_cells (look_hd hb) (by simp [rmM, fitsA, fitA, nf]) (by simp [MsI.row, evs, fitsA, fitA, nf])) ?_
         rintro ⟨i, i1, im⟩
         refine ok_sk (.both (.l (.stop [])) (.stop [])) (S := .fork (decide ((↑i : Int) < (↑q : Int))) (.left (decide (0 ≤ (↑i : Int) ∧ (↑i : Int).toNat < q)) (.stop (.call 34 [.agg (E (↑i : Int).toNat).row]) [] ([]))) (.stop (.leaf (.bool true)) [] ([]))) (by kernel_rfl) ?_
         refine hold_forkD (fun h17 => ?_) (fun h17 => ?_)
         ·
          refine hl (bc fun h18 => by omega) ?_
          refine hold_stop (fun hd hb => ?_)
          refine ok_call0 hd (rmay (E (i : Int).toNat) (hE _ (by omega))) rfl ?_
          rintro x G ⟨rfl, ⟨rfl, my⟩ | ⟨rfl, my⟩⟩ <;> refine ⟨rfl, fun g hg => (by cases hg), ?_⟩
          ·
           refine ok_sk (.l (.stop [0])) (S := .left (decide ((-9223372036854775808 : Int) ≤ (↑i : Int) + 1 ∧ (↑i : Int) + 1 ≤ 9223372036854775807)) (.stop (.again (again' (fun (i : { i : Nat // i ≤ q ∧ ∀ (j : Nat), j < i → (E j).may }) => rmM i.val) (fun (x : { i : Nat // i ≤ q ∧ ∀ (j : Nat), j < i → (E j).may }) => [NewB.cells none (m.row (evs q E))]) (fun (i : { i : Nat // i ≤ q ∧ ∀ (j : Nat), j < i → (E j).may }) => q - i.val) ⟨i, ⟨i1, im⟩⟩) [.top, .ptr 0 0, .top, .sint .i64 ((↑i : Int) + 1), .top, .top, .top, .top, .top, .top, .top, .top, .top, .top, .top, .top, .top, .top, .top, .top, .top, .top, .top, .top, .top, .top, .top, .top, .top, .top, .top, .top, .top, .top, .top, .top, .top, .top, .top, .top, .top, .top, .top, .top, .top, .top, .top, .top, .top, .top, .top, .top, .top, .top, .top, .top, .top, .top, .top, .top, .top, .top, .top, .top, .top, .top, .top, .top, .sint .i64 (↑i : Int), .ptr 0 9, .data 14 q fun i => (E i).row, .sint .i64 (↑q : Int), .bool true, .sint .i64 (↑i : Int), .sint .i64 ((↑i : Int) + 1), .ptr 0 9, .data 14 q fun i => (E i).row, .sint .i64 (↑i : Int), .dptr (E (↑i : Int).toNat).row, .agg (E (↑i : Int).toNat).row, .bool true, .bool false]) [0] ([(some (.cells 0 none (m.row (.data 14 q fun i => (E i).row))), none)]))) (by kernel_rfl) ?_
           refine hl (bc fun h19 => by omega) ?_
           refine hold_stop (fun hd hb => ?_)
           refine ok_again hd [some 0] ⟨i + 1, by omega, malMay im my⟩ (by show q - (i + 1) < q - i; omega) (fits_cells (look_hd hb) (by simp [rmM, fitsA, fitA, nf]) (by simp [MsI.row, evs, fitsA, fitA, nf]))
          refine ok_sk (.stop []) (S := .stop (.leaf (.bool false)) [] ([])) (by kernel_rfl) ?_
          exact hold_stop fun hd hb => ok_leaf0 hd rfl ⟨rfl, .inr ⟨rfl, fun h => by rcases h.2.2 with k | k <;> first | omega | exact my (k.2.2.2.2 _ (by omega))⟩⟩
         exact hold_stop fun hd hb => ok_leaf0 hd rfl ⟨rfl, .inl ⟨rfl, ⟨by omega, by omega, .inl ⟨by omega, by omega, by omega, by omega, fun j hj => im j (by omega)⟩⟩⟩⟩
        exact hold_stop fun hd hb => ok_leaf0 hd rfl ⟨rfl, .inr ⟨rfl, by unfold MsI.may; omega⟩⟩
       exact hold_stop fun hd hb => ok_leaf0 hd rfl ⟨rfl, .inr ⟨rfl, by unfold MsI.may; omega⟩⟩
      exact hold_stop fun hd hb => ok_leaf0 hd rfl ⟨rfl, .inr ⟨rfl, by unfold MsI.may; omega⟩⟩
     exact hold_stop fun hd hb => ok_leaf0 hd rfl ⟨rfl, .inr ⟨rfl, by unfold MsI.may; omega⟩⟩
    exact hold_stop fun hd hb => ok_leaf0 hd rfl ⟨rfl, .inr ⟨rfl, by unfold MsI.may; omega⟩⟩
   exact hold_stop fun hd hb => ok_leaf0 hd rfl ⟨rfl, .inr ⟨rfl, by unfold MsI.may; omega⟩⟩
  exact hold_stop fun hd hb => ok_leaf0 hd rfl ⟨rfl, .inr ⟨rfl, by unfold MsI.may; omega⟩⟩
end Go.Proofs.Ytkdmlpmjfnjnmaa
