import Derived.Test.YtjihbjjekhncaaaXb
namespace Go.Proofs.Ytjihbjjekhncaaa
open Go Go.RowKit Sv
set_option linter.unusedVariables false
set_option maxRecDepth 100000
set_option maxHeartbeats 0
/-! what the document's answer for layer 8 does. -/
def EvI.fl (e : EvI) : Prop :=
  (e.k = 1 ∧ 0 ≤ e.a ∧ e.a ≤ 1125899906842624) ∨
  (e.k = 2 ∧ 1 ≤ e.a ∧ e.a ≤ 1125899906842624) ∨
  (e.k = 3 ∧ 1 ≤ e.a ∧ e.a ≤ 1125899906842624 ∧ 1 ≤ e.r) ∨
  (e.k = 4 ∧ 1 ≤ e.r ∧ 1 ≤ e.f ∧ e.r ≠ e.f) ∨
  (e.k = 5 ∧ 1 ≤ e.a ∧ e.a ≤ 1125899906842624 ∧ 1 ≤ e.t ∧ e.t ≤ 6 ∧ e.t ≠ e.o) ∨
  (e.k = 6 ∧ 1 ≤ e.t ∧ e.t ≤ 6 ∧ e.t ≠ e.o) ∨ e.k = 7
theorem rfields (e : EvI) : Runs Try.prog 61 [.agg e.row] fun x G => G = [] ∧ ((x = .bool true ∧ e.fl) ∨ (x = .bool false ∧ ¬ e.fl)) := by
  refine runs_treeF plain mixed (fun _ => false) (fun _ => false) 60 ?_
  refine ok_sk (.both (.both (.both (.both (.both (.both (.l (.l (.stop []))) (.both (.stop []) (.both (.both (.stop []) (.stop [])) (.both (.both (.both (.both (.stop []) (.stop [])) (.stop [])) (.stop [])) (.both (.stop []) (.both (.stop []) (.both (.stop []) (.stop [])))))))) (.both (.l (.l (.stop []))) (.both (.stop []) (.both (.both (.stop []) (.stop [])) (.both (.both (.both (.both (.stop []) (.stop [])) (.stop [])) (.stop [])) (.both (.stop []) (.both (.stop []) (.both (.stop []) (.stop []))))))))) (.both (.l (.l (.stop []))) (.both (.stop []) (.both (.both (.stop []) (.stop [])) (.both (.both (.both (.both (.stop []) (.stop [])) (.stop [])) (.stop [])) (.both (.stop []) (.both (.stop []) (.both (.stop []) (.stop []))))))))) (.both (.l (.l (.stop []))) (.both (.stop []) (.both (.both (.stop []) (.stop [])) (.both (.both (.both (.both (.stop []) (.stop [])) (.stop [])) (.stop [])) (.both (.stop []) (.both (.stop []) (.both (.stop []) (.stop []))))))))) (.both (.both (.both (.both (.l (.r (.stop []))) (.both (.stop []) (.both (.stop []) (.both (.both (.both (.both (.stop []) (.stop [])) (.stop [])) (.stop [])) (.both (.stop []) (.both (.stop []) (.both (.stop []) (.stop [])))))))) (.both (.l (.r (.stop []))) (.both (.stop []) (.both (.stop []) (.both (.both (.both (.both (.stop []) (.stop [])) (.stop [])) (.stop [])) (.both (.stop []) (.both (.stop []) (.both (.stop []) (.stop []))))))))) (.both (.l (.r (.stop []))) (.both (.stop []) (.both (.stop []) (.both (.both (.both (.both (.stop []) (.stop [])) (.stop [])) (.stop [])) (.both (.stop []) (.both (.stop []) (.both (.stop []) (.stop []))))))))) (.both (.l (.r (.stop []))) (.both (.stop []) (.both (.stop []) (.both (.both (.both (.both (.stop []) (.stop [])) (.stop [])) (.stop [])) (.both (.stop []) (.both (.stop []) (.both (.stop []) (.stop [])))))))))) (.both (.both (.both (.both (.both (.l (.stop [])) (.stop [])) (.both (.stop []) (.both (.stop []) (.both (.both (.both (.both (.stop []) (.stop [])) (.stop [])) (.stop [])) (.both (.stop []) (.both (.stop []) (.both (.stop []) (.stop [])))))))) (.both (.both (.l (.stop [])) (.stop [])) (.both (.stop []) (.both (.stop []) (.both (.both (.both (.both (.stop []) (.stop [])) (.stop [])) (.stop [])) (.both (.stop []) (.both (.stop []) (.both (.stop []) (.stop []))))))))) (.both (.both (.l (.stop [])) (.stop [])) (.both (.stop []) (.both (.stop []) (.both (.both (.both (.both (.stop []) (.stop [])) (.stop [])) (.stop [])) (.both (.stop []) (.both (.stop []) (.both (.stop []) (.stop []))))))))) (.both (.both (.l (.stop [])) (.stop [])) (.both (.stop []) (.both (.stop []) (.both (.both (.both (.both (.stop []) (.stop [])) (.stop [])) (.stop [])) (.both (.stop []) (.both (.stop []) (.both (.stop []) (.stop [])))))))))) (S := .fork (decide (1 ≤ e.a)) (.fork (decide (e.a ≤ 1125899906842624)) (.fork (decide (1 ≤ e.t)) (.fork (decide (e.t ≤ 6)) (.fork (decide (e.t = e.o)) (.fork (decide (e.k = 1)) (.left (decide (0 ≤ e.a)) (.left (decide (e.a ≤ 1125899906842624)) (.stop (Hd.leaf (.bool true)) [] ([])))) (.fork (decide (e.k = 2)) (.stop (Hd.leaf (.bool true)) [] ([])) (.fork (decide (e.k = 3)) (.fork (decide (1 ≤ e.r)) (.stop (Hd.leaf (.bool true)) [] ([])) (.stop (Hd.leaf (.bool false)) [] ([]))) (.fork (decide (e.k = 4)) (.fork (decide (1 ≤ e.r)) (.fork (decide (1 ≤ e.f)) (.fork (decide (e.r = e.f)) (.stop (Hd.leaf (.bool false)) [] ([])) (.stop (Hd.leaf (.bool true)) [] ([]))) (.stop (Hd.leaf (.bool false)) [] ([]))) (.stop (Hd.leaf (.bool false)) [] ([]))) (.fork (decide (e.k = 5)) (.stop (Hd.leaf (.bool false)) [] ([])) (.fork (decide (e.k = 6)) (.stop (Hd.leaf (.bool false)) [] ([])) (.fork (decide (e.k = 7)) (.stop (Hd.leaf (.bool true)) [] ([])) (.stop (Hd.leaf (.bool false)) [] ([]))))))))) (.fork (decide (e.k = 1)) (.left (decide (0 ≤ e.a)) (.left (decide (e.a ≤ 1125899906842624)) (.stop (Hd.leaf (.bool true)) [] ([])))) (.fork (decide (e.k = 2)) (.stop (Hd.leaf (.bool true)) [] ([])) (.fork (decide (e.k = 3)) (.fork (decide (1 ≤ e.r)) (.stop (Hd.leaf (.bool true)) [] ([])) (.stop (Hd.leaf (.bool false)) [] ([]))) (.fork (decide (e.k = 4)) (.fork (decide (1 ≤ e.r)) (.fork (decide (1 ≤ e.f)) (.fork (decide (e.r = e.f)) (.stop (Hd.leaf (.bool false)) [] ([])) (.stop (Hd.leaf (.bool true)) [] ([]))) (.stop (Hd.leaf (.bool false)) [] ([]))) (.stop (Hd.leaf (.bool false)) [] ([]))) (.fork (decide (e.k = 5)) (.stop (Hd.leaf (.bool true)) [] ([])) (.fork (decide (e.k = 6)) (.stop (Hd.leaf (.bool true)) [] ([])) (.fork (decide (e.k = 7)) (.stop (Hd.leaf (.bool true)) [] ([])) (.stop (Hd.leaf (.bool false)) [] ([])))))))))) (.fork (decide (e.k = 1)) (.left (decide (0 ≤ e.a)) (.left (decide (e.a ≤ 1125899906842624)) (.stop (Hd.leaf (.bool true)) [] ([])))) (.fork (decide (e.k = 2)) (.stop (Hd.leaf (.bool true)) [] ([])) (.fork (decide (e.k = 3)) (.fork (decide (1 ≤ e.r)) (.stop (Hd.leaf (.bool true)) [] ([])) (.stop (Hd.leaf (.bool false)) [] ([]))) (.fork (decide (e.k = 4)) (.fork (decide (1 ≤ e.r)) (.fork (decide (1 ≤ e.f)) (.fork (decide (e.r = e.f)) (.stop (Hd.leaf (.bool false)) [] ([])) (.stop (Hd.leaf (.bool true)) [] ([]))) (.stop (Hd.leaf (.bool false)) [] ([]))) (.stop (Hd.leaf (.bool false)) [] ([]))) (.fork (decide (e.k = 5)) (.stop (Hd.leaf (.bool false)) [] ([])) (.fork (decide (e.k = 6)) (.stop (Hd.leaf (.bool false)) [] ([])) (.fork (decide (e.k = 7)) (.stop (Hd.leaf (.bool true)) [] ([])) (.stop (Hd.leaf (.bool false)) [] ([])))))))))) (.fork (decide (e.k = 1)) (.left (decide (0 ≤ e.a)) (.left (decide (e.a ≤ 1125899906842624)) (.stop (Hd.leaf (.bool true)) [] ([])))) (.fork (decide (e.k = 2)) (.stop (Hd.leaf (.bool true)) [] ([])) (.fork (decide (e.k = 3)) (.fork (decide (1 ≤ e.r)) (.stop (Hd.leaf (.bool true)) [] ([])) (.stop (Hd.leaf (.bool false)) [] ([]))) (.fork (decide (e.k = 4)) (.fork (decide (1 ≤ e.r)) (.fork (decide (1 ≤ e.f)) (.fork (decide (e.r = e.f)) (.stop (Hd.leaf (.bool false)) [] ([])) (.stop (Hd.leaf (.bool true)) [] ([]))) (.stop (Hd.leaf (.bool false)) [] ([]))) (.stop (Hd.leaf (.bool false)) [] ([]))) (.fork (decide (e.k = 5)) (.stop (Hd.leaf (.bool false)) [] ([])) (.fork (decide (e.k = 6)) (.stop (Hd.leaf (.bool false)) [] ([])) (.fork (decide (e.k = 7)) (.stop (Hd.leaf (.bool true)) [] ([])) (.stop (Hd.leaf (.bool false)) [] ([])))))))))) (.fork (decide (1 ≤ e.t)) (.fork (decide (e.t ≤ 6)) (.fork (decide (e.t = e.o)) (.fork (decide (e.k = 1)) (.left (decide (0 ≤ e.a)) (.right (decide (e.a ≤ 1125899906842624)) (.stop (Hd.leaf (.bool false)) [] ([])))) (.fork (decide (e.k = 2)) (.stop (Hd.leaf (.bool false)) [] ([])) (.fork (decide (e.k = 3)) (.stop (Hd.leaf (.bool false)) [] ([])) (.fork (decide (e.k = 4)) (.fork (decide (1 ≤ e.r)) (.fork (decide (1 ≤ e.f)) (.fork (decide (e.r = e.f)) (.stop (Hd.leaf (.bool false)) [] ([])) (.stop (Hd.leaf (.bool true)) [] ([]))) (.stop (Hd.leaf (.bool false)) [] ([]))) (.stop (Hd.leaf (.bool false)) [] ([]))) (.fork (decide (e.k = 5)) (.stop (Hd.leaf (.bool false)) [] ([])) (.fork (decide (e.k = 6)) (.stop (Hd.leaf (.bool false)) [] ([])) (.fork (decide (e.k = 7)) (.stop (Hd.leaf (.bool true)) [] ([])) (.stop (Hd.leaf (.bool false)) [] ([]))))))))) (.fork (decide (e.k = 1)) (.left (decide (0 ≤ e.a)) (.right (decide (e.a ≤ 1125899906842624)) (.stop (Hd.leaf (.bool false)) [] ([])))) (.fork (decide (e.k = 2)) (.stop (Hd.leaf (.bool false)) [] ([])) (.fork (decide (e.k = 3)) (.stop (Hd.leaf (.bool false)) [] ([])) (.fork (decide (e.k = 4)) (.fork (decide (1 ≤ e.r)) (.fork (decide (1 ≤ e.f)) (.fork (decide (e.r = e.f)) (.stop (Hd.leaf (.bool false)) [] ([])) (.stop (Hd.leaf (.bool true)) [] ([]))) (.stop (Hd.leaf (.bool false)) [] ([]))) (.stop (Hd.leaf (.bool false)) [] ([]))) (.fork (decide (e.k = 5)) (.stop (Hd.leaf (.bool false)) [] ([])) (.fork (decide (e.k = 6)) (.stop (Hd.leaf (.bool true)) [] ([])) (.fork (decide (e.k = 7)) (.stop (Hd.leaf (.bool true)) [] ([])) (.stop (Hd.leaf (.bool false)) [] ([])))))))))) (.fork (decide (e.k = 1)) (.left (decide (0 ≤ e.a)) (.right (decide (e.a ≤ 1125899906842624)) (.stop (Hd.leaf (.bool false)) [] ([])))) (.fork (decide (e.k = 2)) (.stop (Hd.leaf (.bool false)) [] ([])) (.fork (decide (e.k = 3)) (.stop (Hd.leaf (.bool false)) [] ([])) (.fork (decide (e.k = 4)) (.fork (decide (1 ≤ e.r)) (.fork (decide (1 ≤ e.f)) (.fork (decide (e.r = e.f)) (.stop (Hd.leaf (.bool false)) [] ([])) (.stop (Hd.leaf (.bool true)) [] ([]))) (.stop (Hd.leaf (.bool false)) [] ([]))) (.stop (Hd.leaf (.bool false)) [] ([]))) (.fork (decide (e.k = 5)) (.stop (Hd.leaf (.bool false)) [] ([])) (.fork (decide (e.k = 6)) (.stop (Hd.leaf (.bool false)) [] ([])) (.fork (decide (e.k = 7)) (.stop (Hd.leaf (.bool true)) [] ([])) (.stop (Hd.leaf (.bool false)) [] ([])))))))))) (.fork (decide (e.k = 1)) (.left (decide (0 ≤ e.a)) (.right (decide (e.a ≤ 1125899906842624)) (.stop (Hd.leaf (.bool false)) [] ([])))) (.fork (decide (e.k = 2)) (.stop (Hd.leaf (.bool false)) [] ([])) (.fork (decide (e.k = 3)) (.stop (Hd.leaf (.bool false)) [] ([])) (.fork (decide (e.k = 4)) (.fork (decide (1 ≤ e.r)) (.fork (decide (1 ≤ e.f)) (.fork (decide (e.r = e.f)) (.stop (Hd.leaf (.bool false)) [] ([])) (.stop (Hd.leaf (.bool true)) [] ([]))) (.stop (Hd.leaf (.bool false)) [] ([]))) (.stop (Hd.leaf (.bool false)) [] ([]))) (.fork (decide (e.k = 5)) (.stop (Hd.leaf (.bool false)) [] ([])) (.fork (decide (e.k = 6)) (.stop (Hd.leaf (.bool false)) [] ([])) (.fork (decide (e.k = 7)) (.stop (Hd.leaf (.bool true)) [] ([])) (.stop (Hd.leaf (.bool false)) [] ([]))))))))))) (.fork (decide (1 ≤ e.t)) (.fork (decide (e.t ≤ 6)) (.fork (decide (e.t = e.o)) (.fork (decide (e.k = 1)) (.fork (decide (0 ≤ e.a)) (.left (decide (e.a ≤ 1125899906842624)) (.stop (Hd.leaf (.bool true)) [] ([]))) (.stop (Hd.leaf (.bool false)) [] ([]))) (.fork (decide (e.k = 2)) (.stop (Hd.leaf (.bool false)) [] ([])) (.fork (decide (e.k = 3)) (.stop (Hd.leaf (.bool false)) [] ([])) (.fork (decide (e.k = 4)) (.fork (decide (1 ≤ e.r)) (.fork (decide (1 ≤ e.f)) (.fork (decide (e.r = e.f)) (.stop (Hd.leaf (.bool false)) [] ([])) (.stop (Hd.leaf (.bool true)) [] ([]))) (.stop (Hd.leaf (.bool false)) [] ([]))) (.stop (Hd.leaf (.bool false)) [] ([]))) (.fork (decide (e.k = 5)) (.stop (Hd.leaf (.bool false)) [] ([])) (.fork (decide (e.k = 6)) (.stop (Hd.leaf (.bool false)) [] ([])) (.fork (decide (e.k = 7)) (.stop (Hd.leaf (.bool true)) [] ([])) (.stop (Hd.leaf (.bool false)) [] ([]))))))))) (.fork (decide (e.k = 1)) (.fork (decide (0 ≤ e.a)) (.left (decide (e.a ≤ 1125899906842624)) (.stop (Hd.leaf (.bool true)) [] ([]))) (.stop (Hd.leaf (.bool false)) [] ([]))) (.fork (decide (e.k = 2)) (.stop (Hd.leaf (.bool false)) [] ([])) (.fork (decide (e.k = 3)) (.stop (Hd.leaf (.bool false)) [] ([])) (.fork (decide (e.k = 4)) (.fork (decide (1 ≤ e.r)) (.fork (decide (1 ≤ e.f)) (.fork (decide (e.r = e.f)) (.stop (Hd.leaf (.bool false)) [] ([])) (.stop (Hd.leaf (.bool true)) [] ([]))) (.stop (Hd.leaf (.bool false)) [] ([]))) (.stop (Hd.leaf (.bool false)) [] ([]))) (.fork (decide (e.k = 5)) (.stop (Hd.leaf (.bool false)) [] ([])) (.fork (decide (e.k = 6)) (.stop (Hd.leaf (.bool true)) [] ([])) (.fork (decide (e.k = 7)) (.stop (Hd.leaf (.bool true)) [] ([])) (.stop (Hd.leaf (.bool false)) [] ([])))))))))) (.fork (decide (e.k = 1)) (.fork (decide (0 ≤ e.a)) (.left (decide (e.a ≤ 1125899906842624)) (.stop (Hd.leaf (.bool true)) [] ([]))) (.stop (Hd.leaf (.bool false)) [] ([]))) (.fork (decide (e.k = 2)) (.stop (Hd.leaf (.bool false)) [] ([])) (.fork (decide (e.k = 3)) (.stop (Hd.leaf (.bool false)) [] ([])) (.fork (decide (e.k = 4)) (.fork (decide (1 ≤ e.r)) (.fork (decide (1 ≤ e.f)) (.fork (decide (e.r = e.f)) (.stop (Hd.leaf (.bool false)) [] ([])) (.stop (Hd.leaf (.bool true)) [] ([]))) (.stop (Hd.leaf (.bool false)) [] ([]))) (.stop (Hd.leaf (.bool false)) [] ([]))) (.fork (decide (e.k = 5)) (.stop (Hd.leaf (.bool false)) [] ([])) (.fork (decide (e.k = 6)) (.stop (Hd.leaf (.bool false)) [] ([])) (.fork (decide (e.k = 7)) (.stop (Hd.leaf (.bool true)) [] ([])) (.stop (Hd.leaf (.bool false)) [] ([])))))))))) (.fork (decide (e.k = 1)) (.fork (decide (0 ≤ e.a)) (.left (decide (e.a ≤ 1125899906842624)) (.stop (Hd.leaf (.bool true)) [] ([]))) (.stop (Hd.leaf (.bool false)) [] ([]))) (.fork (decide (e.k = 2)) (.stop (Hd.leaf (.bool false)) [] ([])) (.fork (decide (e.k = 3)) (.stop (Hd.leaf (.bool false)) [] ([])) (.fork (decide (e.k = 4)) (.fork (decide (1 ≤ e.r)) (.fork (decide (1 ≤ e.f)) (.fork (decide (e.r = e.f)) (.stop (Hd.leaf (.bool false)) [] ([])) (.stop (Hd.leaf (.bool true)) [] ([]))) (.stop (Hd.leaf (.bool false)) [] ([]))) (.stop (Hd.leaf (.bool false)) [] ([]))) (.fork (decide (e.k = 5)) (.stop (Hd.leaf (.bool false)) [] ([])) (.fork (decide (e.k = 6)) (.stop (Hd.leaf (.bool false)) [] ([])) (.fork (decide (e.k = 7)) (.stop (Hd.leaf (.bool true)) [] ([])) (.stop (Hd.leaf (.bool false)) [] ([]))))))))))) (by kernel_rfl) ?_
  refine hold_forkD (fun h0 => ?_) (fun h0 => ?_)
  ·
   refine hold_forkD (fun h1 => ?_) (fun h1 => ?_)
   ·
    refine hold_forkD (fun h2 => ?_) (fun h2 => ?_)
    ·
     refine hold_forkD (fun h3 => ?_) (fun h3 => ?_)
     ·
      refine hold_forkD (fun h4 => ?_) (fun h4 => ?_)
      ·
       refine hold_forkD (fun h5 => ?_) (fun h5 => ?_)
       ·
        refine hl (bc fun h6 => by omega) ?_
        refine hl (bc fun h6 => by omega) ?_
        refine hold_stop (fun hd hb => ?_)
        exact ok_leaf0 hd rfl ⟨rfl, .inl ⟨rfl, by unfold EvI.fl; omega⟩⟩
       refine hold_forkD (fun h6 => ?_) (fun h6 => ?_)
       ·
        refine hold_stop (fun hd hb => ?_)
        exact ok_leaf0 hd rfl ⟨rfl, .inl ⟨rfl, by unfold EvI.fl; omega⟩⟩
       refine hold_forkD (fun h7 => ?_) (fun h7 => ?_)
       ·
        refine hold_forkD (fun h8 => ?_) (fun h8 => ?_)
        ·
         refine hold_stop (fun hd hb => ?_)
         exact ok_leaf0 hd rfl ⟨rfl, .inl ⟨rfl, by unfold EvI.fl; omega⟩⟩
        refine hold_stop (fun hd hb => ?_)
        exact ok_leaf0 hd rfl ⟨rfl, .inr ⟨rfl, by unfold EvI.fl; omega⟩⟩
       refine hold_forkD (fun h8 => ?_) (fun h8 => ?_)
       ·
        refine hold_forkD (fun h9 => ?_) (fun h9 => ?_)
        ·
         refine hold_forkD (fun h10 => ?_) (fun h10 => ?_)
         ·
          refine hold_forkD (fun h11 => ?_) (fun h11 => ?_)
          ·
           refine hold_stop (fun hd hb => ?_)
           exact ok_leaf0 hd rfl ⟨rfl, .inr ⟨rfl, by unfold EvI.fl; omega⟩⟩
          refine hold_stop (fun hd hb => ?_)
          exact ok_leaf0 hd rfl ⟨rfl, .inl ⟨rfl, by unfold EvI.fl; omega⟩⟩
         refine hold_stop (fun hd hb => ?_)
         exact ok_leaf0 hd rfl ⟨rfl, .inr ⟨rfl, by unfold EvI.fl; omega⟩⟩
        refine hold_stop (fun hd hb => ?_)
        exact ok_leaf0 hd rfl ⟨rfl, .inr ⟨rfl, by unfold EvI.fl; omega⟩⟩
       refine hold_forkD (fun h9 => ?_) (fun h9 => ?_)
       ·
        refine hold_stop (fun hd hb => ?_)
        exact ok_leaf0 hd rfl ⟨rfl, .inr ⟨rfl, by unfold EvI.fl; omega⟩⟩
       refine hold_forkD (fun h10 => ?_) (fun h10 => ?_)
       ·
        refine hold_stop (fun hd hb => ?_)
        exact ok_leaf0 hd rfl ⟨rfl, .inr ⟨rfl, by unfold EvI.fl; omega⟩⟩
       refine hold_forkD (fun h11 => ?_) (fun h11 => ?_)
       ·
        refine hold_stop (fun hd hb => ?_)
        exact ok_leaf0 hd rfl ⟨rfl, .inl ⟨rfl, by unfold EvI.fl; omega⟩⟩
       refine hold_stop (fun hd hb => ?_)
       exact ok_leaf0 hd rfl ⟨rfl, .inr ⟨rfl, by unfold EvI.fl; omega⟩⟩
      refine hold_forkD (fun h5 => ?_) (fun h5 => ?_)
      ·
       refine hl (bc fun h6 => by omega) ?_
       refine hl (bc fun h6 => by omega) ?_
       refine hold_stop (fun hd hb => ?_)
       exact ok_leaf0 hd rfl ⟨rfl, .inl ⟨rfl, by unfold EvI.fl; omega⟩⟩
      refine hold_forkD (fun h6 => ?_) (fun h6 => ?_)
      ·
       refine hold_stop (fun hd hb => ?_)
       exact ok_leaf0 hd rfl ⟨rfl, .inl ⟨rfl, by unfold EvI.fl; omega⟩⟩
      refine hold_forkD (fun h7 => ?_) (fun h7 => ?_)
      ·
       refine hold_forkD (fun h8 => ?_) (fun h8 => ?_)
       ·
        refine hold_stop (fun hd hb => ?_)
        exact ok_leaf0 hd rfl ⟨rfl, .inl ⟨rfl, by unfold EvI.fl; omega⟩⟩
       refine hold_stop (fun hd hb => ?_)
       exact ok_leaf0 hd rfl ⟨rfl, .inr ⟨rfl, by unfold EvI.fl; omega⟩⟩
      refine hold_forkD (fun h8 => ?_) (fun h8 => ?_)
      ·
       refine hold_forkD (fun h9 => ?_) (fun h9 => ?_)
       ·
        refine hold_forkD (fun h10 => ?_) (fun h10 => ?_)
        ·
         refine hold_forkD (fun h11 => ?_) (fun h11 => ?_)
         ·
          refine hold_stop (fun hd hb => ?_)
          exact ok_leaf0 hd rfl ⟨rfl, .inr ⟨rfl, by unfold EvI.fl; omega⟩⟩
         refine hold_stop (fun hd hb => ?_)
         exact ok_leaf0 hd rfl ⟨rfl, .inl ⟨rfl, by unfold EvI.fl; omega⟩⟩
        refine hold_stop (fun hd hb => ?_)
        exact ok_leaf0 hd rfl ⟨rfl, .inr ⟨rfl, by unfold EvI.fl; omega⟩⟩
       refine hold_stop (fun hd hb => ?_)
       exact ok_leaf0 hd rfl ⟨rfl, .inr ⟨rfl, by unfold EvI.fl; omega⟩⟩
      refine hold_forkD (fun h9 => ?_) (fun h9 => ?_)
      ·
       refine hold_stop (fun hd hb => ?_)
       exact ok_leaf0 hd rfl ⟨rfl, .inl ⟨rfl, by unfold EvI.fl; omega⟩⟩
      refine hold_forkD (fun h10 => ?_) (fun h10 => ?_)
      ·
       refine hold_stop (fun hd hb => ?_)
       exact ok_leaf0 hd rfl ⟨rfl, .inl ⟨rfl, by unfold EvI.fl; omega⟩⟩
      refine hold_forkD (fun h11 => ?_) (fun h11 => ?_)
      ·
       refine hold_stop (fun hd hb => ?_)
       exact ok_leaf0 hd rfl ⟨rfl, .inl ⟨rfl, by unfold EvI.fl; omega⟩⟩
      refine hold_stop (fun hd hb => ?_)
      exact ok_leaf0 hd rfl ⟨rfl, .inr ⟨rfl, by unfold EvI.fl; omega⟩⟩
     refine hold_forkD (fun h4 => ?_) (fun h4 => ?_)
     ·
      refine hl (bc fun h5 => by omega) ?_
      refine hl (bc fun h5 => by omega) ?_
      refine hold_stop (fun hd hb => ?_)
      exact ok_leaf0 hd rfl ⟨rfl, .inl ⟨rfl, by unfold EvI.fl; omega⟩⟩
     refine hold_forkD (fun h5 => ?_) (fun h5 => ?_)
     ·
      refine hold_stop (fun hd hb => ?_)
      exact ok_leaf0 hd rfl ⟨rfl, .inl ⟨rfl, by unfold EvI.fl; omega⟩⟩
     refine hold_forkD (fun h6 => ?_) (fun h6 => ?_)
     ·
      refine hold_forkD (fun h7 => ?_) (fun h7 => ?_)
      ·
       refine hold_stop (fun hd hb => ?_)
       exact ok_leaf0 hd rfl ⟨rfl, .inl ⟨rfl, by unfold EvI.fl; omega⟩⟩
      refine hold_stop (fun hd hb => ?_)
      exact ok_leaf0 hd rfl ⟨rfl, .inr ⟨rfl, by unfold EvI.fl; omega⟩⟩
     refine hold_forkD (fun h7 => ?_) (fun h7 => ?_)
     ·
      refine hold_forkD (fun h8 => ?_) (fun h8 => ?_)
      ·
       refine hold_forkD (fun h9 => ?_) (fun h9 => ?_)
       ·
        refine hold_forkD (fun h10 => ?_) (fun h10 => ?_)
        ·
         refine hold_stop (fun hd hb => ?_)
         exact ok_leaf0 hd rfl ⟨rfl, .inr ⟨rfl, by unfold EvI.fl; omega⟩⟩
        refine hold_stop (fun hd hb => ?_)
        exact ok_leaf0 hd rfl ⟨rfl, .inl ⟨rfl, by unfold EvI.fl; omega⟩⟩
       refine hold_stop (fun hd hb => ?_)
       exact ok_leaf0 hd rfl ⟨rfl, .inr ⟨rfl, by unfold EvI.fl; omega⟩⟩
      refine hold_stop (fun hd hb => ?_)
      exact ok_leaf0 hd rfl ⟨rfl, .inr ⟨rfl, by unfold EvI.fl; omega⟩⟩
     refine hold_forkD (fun h8 => ?_) (fun h8 => ?_)
     ·
      refine hold_stop (fun hd hb => ?_)
      exact ok_leaf0 hd rfl ⟨rfl, .inr ⟨rfl, by unfold EvI.fl; omega⟩⟩
     refine hold_forkD (fun h9 => ?_) (fun h9 => ?_)
     ·
      refine hold_stop (fun hd hb => ?_)
      exact ok_leaf0 hd rfl ⟨rfl, .inr ⟨rfl, by unfold EvI.fl; omega⟩⟩
     refine hold_forkD (fun h10 => ?_) (fun h10 => ?_)
     ·
      refine hold_stop (fun hd hb => ?_)
      exact ok_leaf0 hd rfl ⟨rfl, .inl ⟨rfl, by unfold EvI.fl; omega⟩⟩
     refine hold_stop (fun hd hb => ?_)
     exact ok_leaf0 hd rfl ⟨rfl, .inr ⟨rfl, by unfold EvI.fl; omega⟩⟩
    refine hold_forkD (fun h3 => ?_) (fun h3 => ?_)
    ·
     refine hl (bc fun h4 => by omega) ?_
     refine hl (bc fun h4 => by omega) ?_
     refine hold_stop (fun hd hb => ?_)
     exact ok_leaf0 hd rfl ⟨rfl, .inl ⟨rfl, by unfold EvI.fl; omega⟩⟩
    refine hold_forkD (fun h4 => ?_) (fun h4 => ?_)
    ·
     refine hold_stop (fun hd hb => ?_)
     exact ok_leaf0 hd rfl ⟨rfl, .inl ⟨rfl, by unfold EvI.fl; omega⟩⟩
    refine hold_forkD (fun h5 => ?_) (fun h5 => ?_)
    ·
     refine hold_forkD (fun h6 => ?_) (fun h6 => ?_)
     ·
      refine hold_stop (fun hd hb => ?_)
      exact ok_leaf0 hd rfl ⟨rfl, .inl ⟨rfl, by unfold EvI.fl; omega⟩⟩
     refine hold_stop (fun hd hb => ?_)
     exact ok_leaf0 hd rfl ⟨rfl, .inr ⟨rfl, by unfold EvI.fl; omega⟩⟩
    refine hold_forkD (fun h6 => ?_) (fun h6 => ?_)
    ·
     refine hold_forkD (fun h7 => ?_) (fun h7 => ?_)
     ·
      refine hold_forkD (fun h8 => ?_) (fun h8 => ?_)
      ·
       refine hold_forkD (fun h9 => ?_) (fun h9 => ?_)
       ·
        refine hold_stop (fun hd hb => ?_)
        exact ok_leaf0 hd rfl ⟨rfl, .inr ⟨rfl, by unfold EvI.fl; omega⟩⟩
       refine hold_stop (fun hd hb => ?_)
       exact ok_leaf0 hd rfl ⟨rfl, .inl ⟨rfl, by unfold EvI.fl; omega⟩⟩
      refine hold_stop (fun hd hb => ?_)
      exact ok_leaf0 hd rfl ⟨rfl, .inr ⟨rfl, by unfold EvI.fl; omega⟩⟩
     refine hold_stop (fun hd hb => ?_)
     exact ok_leaf0 hd rfl ⟨rfl, .inr ⟨rfl, by unfold EvI.fl; omega⟩⟩
    refine hold_forkD (fun h7 => ?_) (fun h7 => ?_)
    ·
     refine hold_stop (fun hd hb => ?_)
     exact ok_leaf0 hd rfl ⟨rfl, .inr ⟨rfl, by unfold EvI.fl; omega⟩⟩
    refine hold_forkD (fun h8 => ?_) (fun h8 => ?_)
    ·
     refine hold_stop (fun hd hb => ?_)
     exact ok_leaf0 hd rfl ⟨rfl, .inr ⟨rfl, by unfold EvI.fl; omega⟩⟩
    refine hold_forkD (fun h9 => ?_) (fun h9 => ?_)
    ·
     refine hold_stop (fun hd hb => ?_)
     exact ok_leaf0 hd rfl ⟨rfl, .inl ⟨rfl, by unfold EvI.fl; omega⟩⟩
    refine hold_stop (fun hd hb => ?_)
    exact ok_leaf0 hd rfl ⟨rfl, .inr ⟨rfl, by unfold EvI.fl; omega⟩⟩
   refine hold_forkD (fun h2 => ?_) (fun h2 => ?_)
   ·
    refine hold_forkD (fun h3 => ?_) (fun h3 => ?_)
    ·
     refine hold_forkD (fun h4 => ?_) (fun h4 => ?_)
     ·
      refine hold_forkD (fun h5 => ?_) (fun h5 => ?_)
      ·
       refine hl (bc fun h6 => by omega) ?_
       refine hzr (fun h6 => by omega) ?_
       refine hold_stop (fun hd hb => ?_)
       exact ok_leaf0 hd rfl ⟨rfl, .inr ⟨rfl, by unfold EvI.fl; omega⟩⟩
      refine hold_forkD (fun h6 => ?_) (fun h6 => ?_)
      ·
       refine hold_stop (fun hd hb => ?_)
       exact ok_leaf0 hd rfl ⟨rfl, .inr ⟨rfl, by unfold EvI.fl; omega⟩⟩
      refine hold_forkD (fun h7 => ?_) (fun h7 => ?_)
      ·
       refine hold_stop (fun hd hb => ?_)
       exact ok_leaf0 hd rfl ⟨rfl, .inr ⟨rfl, by unfold EvI.fl; omega⟩⟩
      refine hold_forkD (fun h8 => ?_) (fun h8 => ?_)
      ·
       refine hold_forkD (fun h9 => ?_) (fun h9 => ?_)
       ·
        refine hold_forkD (fun h10 => ?_) (fun h10 => ?_)
        ·
         refine hold_forkD (fun h11 => ?_) (fun h11 => ?_)
         ·
          refine hold_stop (fun hd hb => ?_)
          exact ok_leaf0 hd rfl ⟨rfl, .inr ⟨rfl, by unfold EvI.fl; omega⟩⟩
         refine hold_stop (fun hd hb => ?_)
         exact ok_leaf0 hd rfl ⟨rfl, .inl ⟨rfl, by unfold EvI.fl; omega⟩⟩
        refine hold_stop (fun hd hb => ?_)
        exact ok_leaf0 hd rfl ⟨rfl, .inr ⟨rfl, by unfold EvI.fl; omega⟩⟩
       refine hold_stop (fun hd hb => ?_)
       exact ok_leaf0 hd rfl ⟨rfl, .inr ⟨rfl, by unfold EvI.fl; omega⟩⟩
      refine hold_forkD (fun h9 => ?_) (fun h9 => ?_)
      ·
       refine hold_stop (fun hd hb => ?_)
       exact ok_leaf0 hd rfl ⟨rfl, .inr ⟨rfl, by unfold EvI.fl; omega⟩⟩
      refine hold_forkD (fun h10 => ?_) (fun h10 => ?_)
      ·
       refine hold_stop (fun hd hb => ?_)
       exact ok_leaf0 hd rfl ⟨rfl, .inr ⟨rfl, by unfold EvI.fl; omega⟩⟩
      refine hold_forkD (fun h11 => ?_) (fun h11 => ?_)
      ·
       refine hold_stop (fun hd hb => ?_)
       exact ok_leaf0 hd rfl ⟨rfl, .inl ⟨rfl, by unfold EvI.fl; omega⟩⟩
      refine hold_stop (fun hd hb => ?_)
      exact ok_leaf0 hd rfl ⟨rfl, .inr ⟨rfl, by unfold EvI.fl; omega⟩⟩
     refine hold_forkD (fun h5 => ?_) (fun h5 => ?_)
     ·
      refine hl (bc fun h6 => by omega) ?_
      refine hzr (fun h6 => by omega) ?_
      refine hold_stop (fun hd hb => ?_)
      exact ok_leaf0 hd rfl ⟨rfl, .inr ⟨rfl, by unfold EvI.fl; omega⟩⟩
     refine hold_forkD (fun h6 => ?_) (fun h6 => ?_)
     ·
      refine hold_stop (fun hd hb => ?_)
      exact ok_leaf0 hd rfl ⟨rfl, .inr ⟨rfl, by unfold EvI.fl; omega⟩⟩
     refine hold_forkD (fun h7 => ?_) (fun h7 => ?_)
     ·
      refine hold_stop (fun hd hb => ?_)
      exact ok_leaf0 hd rfl ⟨rfl, .inr ⟨rfl, by unfold EvI.fl; omega⟩⟩
     refine hold_forkD (fun h8 => ?_) (fun h8 => ?_)
     ·
      refine hold_forkD (fun h9 => ?_) (fun h9 => ?_)
      ·
       refine hold_forkD (fun h10 => ?_) (fun h10 => ?_)
       ·
        refine hold_forkD (fun h11 => ?_) (fun h11 => ?_)
        ·
         refine hold_stop (fun hd hb => ?_)
         exact ok_leaf0 hd rfl ⟨rfl, .inr ⟨rfl, by unfold EvI.fl; omega⟩⟩
        refine hold_stop (fun hd hb => ?_)
        exact ok_leaf0 hd rfl ⟨rfl, .inl ⟨rfl, by unfold EvI.fl; omega⟩⟩
       refine hold_stop (fun hd hb => ?_)
       exact ok_leaf0 hd rfl ⟨rfl, .inr ⟨rfl, by unfold EvI.fl; omega⟩⟩
      refine hold_stop (fun hd hb => ?_)
      exact ok_leaf0 hd rfl ⟨rfl, .inr ⟨rfl, by unfold EvI.fl; omega⟩⟩
     refine hold_forkD (fun h9 => ?_) (fun h9 => ?_)
     ·
      refine hold_stop (fun hd hb => ?_)
      exact ok_leaf0 hd rfl ⟨rfl, .inr ⟨rfl, by unfold EvI.fl; omega⟩⟩
     refine hold_forkD (fun h10 => ?_) (fun h10 => ?_)
     ·
      refine hold_stop (fun hd hb => ?_)
      exact ok_leaf0 hd rfl ⟨rfl, .inl ⟨rfl, by unfold EvI.fl; omega⟩⟩
     refine hold_forkD (fun h11 => ?_) (fun h11 => ?_)
     ·
      refine hold_stop (fun hd hb => ?_)
      exact ok_leaf0 hd rfl ⟨rfl, .inl ⟨rfl, by unfold EvI.fl; omega⟩⟩
     refine hold_stop (fun hd hb => ?_)
     exact ok_leaf0 hd rfl ⟨rfl, .inr ⟨rfl, by unfold EvI.fl; omega⟩⟩
    refine hold_forkD (fun h4 => ?_) (fun h4 => ?_)
    ·
     refine hl (bc fun h5 => by omega) ?_
     refine hzr (fun h5 => by omega) ?_
     refine hold_stop (fun hd hb => ?_)
     exact ok_leaf0 hd rfl ⟨rfl, .inr ⟨rfl, by unfold EvI.fl; omega⟩⟩
    refine hold_forkD (fun h5 => ?_) (fun h5 => ?_)
    ·
     refine hold_stop (fun hd hb => ?_)
     exact ok_leaf0 hd rfl ⟨rfl, .inr ⟨rfl, by unfold EvI.fl; omega⟩⟩
    refine hold_forkD (fun h6 => ?_) (fun h6 => ?_)
    ·
     refine hold_stop (fun hd hb => ?_)
     exact ok_leaf0 hd rfl ⟨rfl, .inr ⟨rfl, by unfold EvI.fl; omega⟩⟩
    refine hold_forkD (fun h7 => ?_) (fun h7 => ?_)
    ·
     refine hold_forkD (fun h8 => ?_) (fun h8 => ?_)
     ·
      refine hold_forkD (fun h9 => ?_) (fun h9 => ?_)
      ·
       refine hold_forkD (fun h10 => ?_) (fun h10 => ?_)
       ·
        refine hold_stop (fun hd hb => ?_)
        exact ok_leaf0 hd rfl ⟨rfl, .inr ⟨rfl, by unfold EvI.fl; omega⟩⟩
       refine hold_stop (fun hd hb => ?_)
       exact ok_leaf0 hd rfl ⟨rfl, .inl ⟨rfl, by unfold EvI.fl; omega⟩⟩
      refine hold_stop (fun hd hb => ?_)
      exact ok_leaf0 hd rfl ⟨rfl, .inr ⟨rfl, by unfold EvI.fl; omega⟩⟩
     refine hold_stop (fun hd hb => ?_)
     exact ok_leaf0 hd rfl ⟨rfl, .inr ⟨rfl, by unfold EvI.fl; omega⟩⟩
    refine hold_forkD (fun h8 => ?_) (fun h8 => ?_)
    ·
     refine hold_stop (fun hd hb => ?_)
     exact ok_leaf0 hd rfl ⟨rfl, .inr ⟨rfl, by unfold EvI.fl; omega⟩⟩
    refine hold_forkD (fun h9 => ?_) (fun h9 => ?_)
    ·
     refine hold_stop (fun hd hb => ?_)
     exact ok_leaf0 hd rfl ⟨rfl, .inr ⟨rfl, by unfold EvI.fl; omega⟩⟩
    refine hold_forkD (fun h10 => ?_) (fun h10 => ?_)
    ·
     refine hold_stop (fun hd hb => ?_)
     exact ok_leaf0 hd rfl ⟨rfl, .inl ⟨rfl, by unfold EvI.fl; omega⟩⟩
    refine hold_stop (fun hd hb => ?_)
    exact ok_leaf0 hd rfl ⟨rfl, .inr ⟨rfl, by unfold EvI.fl; omega⟩⟩
   refine hold_forkD (fun h3 => ?_) (fun h3 => ?_)
   ·
    refine hl (bc fun h4 => by omega) ?_
    refine hzr (fun h4 => by omega) ?_
    refine hold_stop (fun hd hb => ?_)
    exact ok_leaf0 hd rfl ⟨rfl, .inr ⟨rfl, by unfold EvI.fl; omega⟩⟩
   refine hold_forkD (fun h4 => ?_) (fun h4 => ?_)
   ·
    refine hold_stop (fun hd hb => ?_)
    exact ok_leaf0 hd rfl ⟨rfl, .inr ⟨rfl, by unfold EvI.fl; omega⟩⟩
   refine hold_forkD (fun h5 => ?_) (fun h5 => ?_)
   ·
    refine hold_stop (fun hd hb => ?_)
    exact ok_leaf0 hd rfl ⟨rfl, .inr ⟨rfl, by unfold EvI.fl; omega⟩⟩
   refine hold_forkD (fun h6 => ?_) (fun h6 => ?_)
   ·
    refine hold_forkD (fun h7 => ?_) (fun h7 => ?_)
    ·
     refine hold_forkD (fun h8 => ?_) (fun h8 => ?_)
     ·
      refine hold_forkD (fun h9 => ?_) (fun h9 => ?_)
      ·
       refine hold_stop (fun hd hb => ?_)
       exact ok_leaf0 hd rfl ⟨rfl, .inr ⟨rfl, by unfold EvI.fl; omega⟩⟩
      refine hold_stop (fun hd hb => ?_)
      exact ok_leaf0 hd rfl ⟨rfl, .inl ⟨rfl, by unfold EvI.fl; omega⟩⟩
     refine hold_stop (fun hd hb => ?_)
     exact ok_leaf0 hd rfl ⟨rfl, .inr ⟨rfl, by unfold EvI.fl; omega⟩⟩
    refine hold_stop (fun hd hb => ?_)
    exact ok_leaf0 hd rfl ⟨rfl, .inr ⟨rfl, by unfold EvI.fl; omega⟩⟩
   refine hold_forkD (fun h7 => ?_) (fun h7 => ?_)
   ·
    refine hold_stop (fun hd hb => ?_)
    exact ok_leaf0 hd rfl ⟨rfl, .inr ⟨rfl, by unfold EvI.fl; omega⟩⟩
   refine hold_forkD (fun h8 => ?_) (fun h8 => ?_)
   ·
    refine hold_stop (fun hd hb => ?_)
    exact ok_leaf0 hd rfl ⟨rfl, .inr ⟨rfl, by unfold EvI.fl; omega⟩⟩
   refine hold_forkD (fun h9 => ?_) (fun h9 => ?_)
   ·
    refine hold_stop (fun hd hb => ?_)
    exact ok_leaf0 hd rfl ⟨rfl, .inl ⟨rfl, by unfold EvI.fl; omega⟩⟩
   refine hold_stop (fun hd hb => ?_)
   exact ok_leaf0 hd rfl ⟨rfl, .inr ⟨rfl, by unfold EvI.fl; omega⟩⟩
  refine hold_forkD (fun h1 => ?_) (fun h1 => ?_)
  ·
   refine hold_forkD (fun h2 => ?_) (fun h2 => ?_)
   ·
    refine hold_forkD (fun h3 => ?_) (fun h3 => ?_)
    ·
     refine hold_forkD (fun h4 => ?_) (fun h4 => ?_)
     ·
      refine hold_forkD (fun h5 => ?_) (fun h5 => ?_)
      ·
       refine hl (bc fun h6 => by omega) ?_
       refine hold_stop (fun hd hb => ?_)
       exact ok_leaf0 hd rfl ⟨rfl, .inl ⟨rfl, by unfold EvI.fl; omega⟩⟩
      refine hold_stop (fun hd hb => ?_)
      exact ok_leaf0 hd rfl ⟨rfl, .inr ⟨rfl, by unfold EvI.fl; omega⟩⟩
     refine hold_forkD (fun h5 => ?_) (fun h5 => ?_)
     ·
      refine hold_stop (fun hd hb => ?_)
      exact ok_leaf0 hd rfl ⟨rfl, .inr ⟨rfl, by unfold EvI.fl; omega⟩⟩
     refine hold_forkD (fun h6 => ?_) (fun h6 => ?_)
     ·
      refine hold_stop (fun hd hb => ?_)
      exact ok_leaf0 hd rfl ⟨rfl, .inr ⟨rfl, by unfold EvI.fl; omega⟩⟩
     refine hold_forkD (fun h7 => ?_) (fun h7 => ?_)
     ·
      refine hold_forkD (fun h8 => ?_) (fun h8 => ?_)
      ·
       refine hold_forkD (fun h9 => ?_) (fun h9 => ?_)
       ·
        refine hold_forkD (fun h10 => ?_) (fun h10 => ?_)
        ·
         refine hold_stop (fun hd hb => ?_)
         exact ok_leaf0 hd rfl ⟨rfl, .inr ⟨rfl, by unfold EvI.fl; omega⟩⟩
        refine hold_stop (fun hd hb => ?_)
        exact ok_leaf0 hd rfl ⟨rfl, .inl ⟨rfl, by unfold EvI.fl; omega⟩⟩
       refine hold_stop (fun hd hb => ?_)
       exact ok_leaf0 hd rfl ⟨rfl, .inr ⟨rfl, by unfold EvI.fl; omega⟩⟩
      refine hold_stop (fun hd hb => ?_)
      exact ok_leaf0 hd rfl ⟨rfl, .inr ⟨rfl, by unfold EvI.fl; omega⟩⟩
     refine hold_forkD (fun h8 => ?_) (fun h8 => ?_)
     ·
      refine hold_stop (fun hd hb => ?_)
      exact ok_leaf0 hd rfl ⟨rfl, .inr ⟨rfl, by unfold EvI.fl; omega⟩⟩
     refine hold_forkD (fun h9 => ?_) (fun h9 => ?_)
     ·
      refine hold_stop (fun hd hb => ?_)
      exact ok_leaf0 hd rfl ⟨rfl, .inr ⟨rfl, by unfold EvI.fl; omega⟩⟩
     refine hold_forkD (fun h10 => ?_) (fun h10 => ?_)
     ·
      refine hold_stop (fun hd hb => ?_)
      exact ok_leaf0 hd rfl ⟨rfl, .inl ⟨rfl, by unfold EvI.fl; omega⟩⟩
     refine hold_stop (fun hd hb => ?_)
     exact ok_leaf0 hd rfl ⟨rfl, .inr ⟨rfl, by unfold EvI.fl; omega⟩⟩
    refine hold_forkD (fun h4 => ?_) (fun h4 => ?_)
    ·
     refine hold_forkD (fun h5 => ?_) (fun h5 => ?_)
     ·
      refine hl (bc fun h6 => by omega) ?_
      refine hold_stop (fun hd hb => ?_)
      exact ok_leaf0 hd rfl ⟨rfl, .inl ⟨rfl, by unfold EvI.fl; omega⟩⟩
     refine hold_stop (fun hd hb => ?_)
     exact ok_leaf0 hd rfl ⟨rfl, .inr ⟨rfl, by unfold EvI.fl; omega⟩⟩
    refine hold_forkD (fun h5 => ?_) (fun h5 => ?_)
    ·
     refine hold_stop (fun hd hb => ?_)
     exact ok_leaf0 hd rfl ⟨rfl, .inr ⟨rfl, by unfold EvI.fl; omega⟩⟩
    refine hold_forkD (fun h6 => ?_) (fun h6 => ?_)
    ·
     refine hold_stop (fun hd hb => ?_)
     exact ok_leaf0 hd rfl ⟨rfl, .inr ⟨rfl, by unfold EvI.fl; omega⟩⟩
    refine hold_forkD (fun h7 => ?_) (fun h7 => ?_)
    ·
     refine hold_forkD (fun h8 => ?_) (fun h8 => ?_)
     ·
      refine hold_forkD (fun h9 => ?_) (fun h9 => ?_)
      ·
       refine hold_forkD (fun h10 => ?_) (fun h10 => ?_)
       ·
        refine hold_stop (fun hd hb => ?_)
        exact ok_leaf0 hd rfl ⟨rfl, .inr ⟨rfl, by unfold EvI.fl; omega⟩⟩
       refine hold_stop (fun hd hb => ?_)
       exact ok_leaf0 hd rfl ⟨rfl, .inl ⟨rfl, by unfold EvI.fl; omega⟩⟩
      refine hold_stop (fun hd hb => ?_)
      exact ok_leaf0 hd rfl ⟨rfl, .inr ⟨rfl, by unfold EvI.fl; omega⟩⟩
     refine hold_stop (fun hd hb => ?_)
     exact ok_leaf0 hd rfl ⟨rfl, .inr ⟨rfl, by unfold EvI.fl; omega⟩⟩
    refine hold_forkD (fun h8 => ?_) (fun h8 => ?_)
    ·
     refine hold_stop (fun hd hb => ?_)
     exact ok_leaf0 hd rfl ⟨rfl, .inr ⟨rfl, by unfold EvI.fl; omega⟩⟩
    refine hold_forkD (fun h9 => ?_) (fun h9 => ?_)
    ·
     refine hold_stop (fun hd hb => ?_)
     exact ok_leaf0 hd rfl ⟨rfl, .inl ⟨rfl, by unfold EvI.fl; omega⟩⟩
    refine hold_forkD (fun h10 => ?_) (fun h10 => ?_)
    ·
     refine hold_stop (fun hd hb => ?_)
     exact ok_leaf0 hd rfl ⟨rfl, .inl ⟨rfl, by unfold EvI.fl; omega⟩⟩
    refine hold_stop (fun hd hb => ?_)
    exact ok_leaf0 hd rfl ⟨rfl, .inr ⟨rfl, by unfold EvI.fl; omega⟩⟩
   refine hold_forkD (fun h3 => ?_) (fun h3 => ?_)
   ·
    refine hold_forkD (fun h4 => ?_) (fun h4 => ?_)
    ·
     refine hl (bc fun h5 => by omega) ?_
     refine hold_stop (fun hd hb => ?_)
     exact ok_leaf0 hd rfl ⟨rfl, .inl ⟨rfl, by unfold EvI.fl; omega⟩⟩
    refine hold_stop (fun hd hb => ?_)
    exact ok_leaf0 hd rfl ⟨rfl, .inr ⟨rfl, by unfold EvI.fl; omega⟩⟩
   refine hold_forkD (fun h4 => ?_) (fun h4 => ?_)
   ·
    refine hold_stop (fun hd hb => ?_)
    exact ok_leaf0 hd rfl ⟨rfl, .inr ⟨rfl, by unfold EvI.fl; omega⟩⟩
   refine hold_forkD (fun h5 => ?_) (fun h5 => ?_)
   ·
    refine hold_stop (fun hd hb => ?_)
    exact ok_leaf0 hd rfl ⟨rfl, .inr ⟨rfl, by unfold EvI.fl; omega⟩⟩
   refine hold_forkD (fun h6 => ?_) (fun h6 => ?_)
   ·
    refine hold_forkD (fun h7 => ?_) (fun h7 => ?_)
    ·
     refine hold_forkD (fun h8 => ?_) (fun h8 => ?_)
     ·
      refine hold_forkD (fun h9 => ?_) (fun h9 => ?_)
      ·
       refine hold_stop (fun hd hb => ?_)
       exact ok_leaf0 hd rfl ⟨rfl, .inr ⟨rfl, by unfold EvI.fl; omega⟩⟩
      refine hold_stop (fun hd hb => ?_)
      exact ok_leaf0 hd rfl ⟨rfl, .inl ⟨rfl, by unfold EvI.fl; omega⟩⟩
     refine hold_stop (fun hd hb => ?_)
     exact ok_leaf0 hd rfl ⟨rfl, .inr ⟨rfl, by unfold EvI.fl; omega⟩⟩
    refine hold_stop (fun hd hb => ?_)
    exact ok_leaf0 hd rfl ⟨rfl, .inr ⟨rfl, by unfold EvI.fl; omega⟩⟩
   refine hold_forkD (fun h7 => ?_) (fun h7 => ?_)
   ·
    refine hold_stop (fun hd hb => ?_)
    exact ok_leaf0 hd rfl ⟨rfl, .inr ⟨rfl, by unfold EvI.fl; omega⟩⟩
   refine hold_forkD (fun h8 => ?_) (fun h8 => ?_)
   ·
    refine hold_stop (fun hd hb => ?_)
    exact ok_leaf0 hd rfl ⟨rfl, .inr ⟨rfl, by unfold EvI.fl; omega⟩⟩
   refine hold_forkD (fun h9 => ?_) (fun h9 => ?_)
   ·
    refine hold_stop (fun hd hb => ?_)
    exact ok_leaf0 hd rfl ⟨rfl, .inl ⟨rfl, by unfold EvI.fl; omega⟩⟩
   refine hold_stop (fun hd hb => ?_)
   exact ok_leaf0 hd rfl ⟨rfl, .inr ⟨rfl, by unfold EvI.fl; omega⟩⟩
  refine hold_forkD (fun h2 => ?_) (fun h2 => ?_)
  ·
   refine hold_forkD (fun h3 => ?_) (fun h3 => ?_)
   ·
    refine hl (bc fun h4 => by omega) ?_
    refine hold_stop (fun hd hb => ?_)
    exact ok_leaf0 hd rfl ⟨rfl, .inl ⟨rfl, by unfold EvI.fl; omega⟩⟩
   refine hold_stop (fun hd hb => ?_)
   exact ok_leaf0 hd rfl ⟨rfl, .inr ⟨rfl, by unfold EvI.fl; omega⟩⟩
  refine hold_forkD (fun h3 => ?_) (fun h3 => ?_)
  ·
   refine hold_stop (fun hd hb => ?_)
   exact ok_leaf0 hd rfl ⟨rfl, .inr ⟨rfl, by unfold EvI.fl; omega⟩⟩
  refine hold_forkD (fun h4 => ?_) (fun h4 => ?_)
  ·
   refine hold_stop (fun hd hb => ?_)
   exact ok_leaf0 hd rfl ⟨rfl, .inr ⟨rfl, by unfold EvI.fl; omega⟩⟩
  refine hold_forkD (fun h5 => ?_) (fun h5 => ?_)
  ·
   refine hold_forkD (fun h6 => ?_) (fun h6 => ?_)
   ·
    refine hold_forkD (fun h7 => ?_) (fun h7 => ?_)
    ·
     refine hold_forkD (fun h8 => ?_) (fun h8 => ?_)
     ·
      refine hold_stop (fun hd hb => ?_)
      exact ok_leaf0 hd rfl ⟨rfl, .inr ⟨rfl, by unfold EvI.fl; omega⟩⟩
     refine hold_stop (fun hd hb => ?_)
     exact ok_leaf0 hd rfl ⟨rfl, .inl ⟨rfl, by unfold EvI.fl; omega⟩⟩
    refine hold_stop (fun hd hb => ?_)
    exact ok_leaf0 hd rfl ⟨rfl, .inr ⟨rfl, by unfold EvI.fl; omega⟩⟩
   refine hold_stop (fun hd hb => ?_)
   exact ok_leaf0 hd rfl ⟨rfl, .inr ⟨rfl, by unfold EvI.fl; omega⟩⟩
  refine hold_forkD (fun h6 => ?_) (fun h6 => ?_)
  ·
   refine hold_stop (fun hd hb => ?_)
   exact ok_leaf0 hd rfl ⟨rfl, .inr ⟨rfl, by unfold EvI.fl; omega⟩⟩
  refine hold_forkD (fun h7 => ?_) (fun h7 => ?_)
  ·
   refine hold_stop (fun hd hb => ?_)
   exact ok_leaf0 hd rfl ⟨rfl, .inr ⟨rfl, by unfold EvI.fl; omega⟩⟩
  refine hold_forkD (fun h8 => ?_) (fun h8 => ?_)
  ·
   refine hold_stop (fun hd hb => ?_)
   exact ok_leaf0 hd rfl ⟨rfl, .inl ⟨rfl, by unfold EvI.fl; omega⟩⟩
  refine hold_stop (fun hd hb => ?_)
  exact ok_leaf0 hd rfl ⟨rfl, .inr ⟨rfl, by unfold EvI.fl; omega⟩⟩
end Go.Proofs.Ytjihbjjekhncaaa
namespace Go.Proofs.Ytjihbjjekhncaaa
open Go Go.RowKit Sv
set_option linter.unusedVariables false
set_option maxRecDepth 100000
set_option maxHeartbeats 0
def EvI.ow (e x : EvI) : Prop :=
  (x.o = e.o ∧ x.s = e.s ∧ x.d0 = e.d0 ∧ x.d1 = e.d1 ∧ x.d2 = e.d2 ∧ x.d3 = e.d3 ∧ x.d4 = e.d4 ∧ x.d5 = e.d5 ∧ x.k = e.k) ∧
  ((e.k = 1 ∨ e.k = 2) ∧ x.n = e.n ∧ x.t = 0 ∧ x.a = e.a ∧ x.r = 0 ∧ x.f = 0 ∨
  e.k = 3 ∧ x.n = e.n ∧ x.t = 0 ∧ x.a = e.a ∧ x.r = e.r ∧ x.f = 0 ∨
  e.k = 4 ∧ x.n = 0 ∧ x.t = 0 ∧ x.a = 0 ∧ x.r = e.r ∧ x.f = e.f ∨
  e.k = 5 ∧ x.n = e.n ∧ x.t = e.t ∧ x.a = e.a ∧ x.r = 0 ∧ x.f = 0 ∨
  e.k = 6 ∧ x.n = 0 ∧ x.t = e.t ∧ x.a = 0 ∧ x.r = 0 ∧ x.f = 0 ∨
  (e.k < 1 ∨ 6 < e.k) ∧ x.n = 0 ∧ x.t = 0 ∧ x.a = 0 ∧ x.r = 0 ∧ x.f = 0)
theorem leaf_own {o lp : Nat → Bool} {n0 : Nat} {t : T} {x : AV} {e : EvI} (z : EvI) (hd : t.hd = .leaf x) (hz : fitA [] (.agg z.row) x) (ho : e.ow z) : t.ok Try.prog o lp n0 (fun x G => G = [] ∧ ∃ z : EvI, x = .agg z.row ∧ e.ow z) :=
  ok_leaf (ns := []) (G := []) hd ⟨⟨hz, trivial⟩, trivial, .nil⟩ ⟨rfl, z, rfl, ho⟩
theorem rown (e : EvI) : Runs Try.prog 60 [.agg e.row] fun x G => G = [] ∧ ∃ z : EvI, x = .agg z.row ∧ e.ow z := by
  refine runs_treeF plain mixed (fun _ => false) (fun _ => false) 60 ?_
  refine ok_sk (.both (.stop []) (.both (.stop []) (.both (.stop []) (.both (.stop []) (.both (.stop []) (.both (.stop []) (.stop []))))))) (S := .fork (decide (e.k = 1)) (.stop (Hd.leaf (.agg [.sint .i64 e.o, .sint .u64 e.s, .sint .u64 e.d0, .sint .u64 e.d1, .sint .u64 e.d2, .sint .u64 e.d3, .sint .u64 e.d4, .sint .u64 e.d5, .sint .u8 e.k, .sint .u64 e.n, .int .i64 (0 : Int), .sint .i64 e.a, .int .u64 (0 : Int), .int .u64 (0 : Int)])) [] ([])) (.fork (decide (e.k = 2)) (.stop (Hd.leaf (.agg [.sint .i64 e.o, .sint .u64 e.s, .sint .u64 e.d0, .sint .u64 e.d1, .sint .u64 e.d2, .sint .u64 e.d3, .sint .u64 e.d4, .sint .u64 e.d5, .sint .u8 e.k, .sint .u64 e.n, .int .i64 (0 : Int), .sint .i64 e.a, .int .u64 (0 : Int), .int .u64 (0 : Int)])) [] ([])) (.fork (decide (e.k = 3)) (.stop (Hd.leaf (.agg [.sint .i64 e.o, .sint .u64 e.s, .sint .u64 e.d0, .sint .u64 e.d1, .sint .u64 e.d2, .sint .u64 e.d3, .sint .u64 e.d4, .sint .u64 e.d5, .sint .u8 e.k, .sint .u64 e.n, .int .i64 (0 : Int), .sint .i64 e.a, .sint .u64 e.r, .int .u64 (0 : Int)])) [] ([])) (.fork (decide (e.k = 4)) (.stop (Hd.leaf (.agg [.sint .i64 e.o, .sint .u64 e.s, .sint .u64 e.d0, .sint .u64 e.d1, .sint .u64 e.d2, .sint .u64 e.d3, .sint .u64 e.d4, .sint .u64 e.d5, .sint .u8 e.k, .int .u64 (0 : Int), .int .i64 (0 : Int), .int .i64 (0 : Int), .sint .u64 e.r, .sint .u64 e.f])) [] ([])) (.fork (decide (e.k = 5)) (.stop (Hd.leaf (.agg [.sint .i64 e.o, .sint .u64 e.s, .sint .u64 e.d0, .sint .u64 e.d1, .sint .u64 e.d2, .sint .u64 e.d3, .sint .u64 e.d4, .sint .u64 e.d5, .sint .u8 e.k, .sint .u64 e.n, .sint .i64 e.t, .sint .i64 e.a, .int .u64 (0 : Int), .int .u64 (0 : Int)])) [] ([])) (.fork (decide (e.k = 6)) (.stop (Hd.leaf (.agg [.sint .i64 e.o, .sint .u64 e.s, .sint .u64 e.d0, .sint .u64 e.d1, .sint .u64 e.d2, .sint .u64 e.d3, .sint .u64 e.d4, .sint .u64 e.d5, .sint .u8 e.k, .int .u64 (0 : Int), .sint .i64 e.t, .int .i64 (0 : Int), .int .u64 (0 : Int), .int .u64 (0 : Int)])) [] ([])) (.stop (Hd.leaf (.agg [.sint .i64 e.o, .sint .u64 e.s, .sint .u64 e.d0, .sint .u64 e.d1, .sint .u64 e.d2, .sint .u64 e.d3, .sint .u64 e.d4, .sint .u64 e.d5, .sint .u8 e.k, .int .u64 (0 : Int), .int .i64 (0 : Int), .int .i64 (0 : Int), .int .u64 (0 : Int), .int .u64 (0 : Int)])) [] ([])))))))) (by kernel_rfl) ?_
  refine hold_forkD (fun h0 => ?_) (fun h0 => ?_)
  ·
   refine hold_stop (fun hd hb => ?_)
   exact leaf_own { e with t := 0, r := 0, f := 0 } hd (by simp [EvI.row, fitA, fitsA, nf]) ⟨⟨rfl, rfl, rfl, rfl, rfl, rfl, rfl, rfl, rfl⟩, .inl ⟨by omega, rfl, rfl, rfl, rfl, rfl⟩⟩
  refine hold_forkD (fun h1 => ?_) (fun h1 => ?_)
  ·
   refine hold_stop (fun hd hb => ?_)
   exact leaf_own { e with t := 0, r := 0, f := 0 } hd (by simp [EvI.row, fitA, fitsA, nf]) ⟨⟨rfl, rfl, rfl, rfl, rfl, rfl, rfl, rfl, rfl⟩, .inl ⟨by omega, rfl, rfl, rfl, rfl, rfl⟩⟩
  refine hold_forkD (fun h2 => ?_) (fun h2 => ?_)
  ·
   refine hold_stop (fun hd hb => ?_)
   exact leaf_own { e with t := 0, f := 0 } hd (by simp [EvI.row, fitA, fitsA, nf]) ⟨⟨rfl, rfl, rfl, rfl, rfl, rfl, rfl, rfl, rfl⟩, .inr (.inl ⟨by omega, rfl, rfl, rfl, rfl, rfl⟩)⟩
  refine hold_forkD (fun h3 => ?_) (fun h3 => ?_)
  ·
   refine hold_stop (fun hd hb => ?_)
   exact leaf_own { e with n := 0, t := 0, a := 0 } hd (by simp [EvI.row, fitA, fitsA, nf]) ⟨⟨rfl, rfl, rfl, rfl, rfl, rfl, rfl, rfl, rfl⟩, .inr (.inr (.inl ⟨by omega, rfl, rfl, rfl, rfl, rfl⟩))⟩
  refine hold_forkD (fun h4 => ?_) (fun h4 => ?_)
  ·
   refine hold_stop (fun hd hb => ?_)
   exact leaf_own { e with r := 0, f := 0 } hd (by simp [EvI.row, fitA, fitsA, nf]) ⟨⟨rfl, rfl, rfl, rfl, rfl, rfl, rfl, rfl, rfl⟩, .inr (.inr (.inr (.inl ⟨by omega, rfl, rfl, rfl, rfl, rfl⟩)))⟩
  refine hold_forkD (fun h5 => ?_) (fun h5 => ?_)
  ·
   refine hold_stop (fun hd hb => ?_)
   exact leaf_own { e with n := 0, a := 0, r := 0, f := 0 } hd (by simp [EvI.row, fitA, fitsA, nf]) ⟨⟨rfl, rfl, rfl, rfl, rfl, rfl, rfl, rfl, rfl⟩, .inr (.inr (.inr (.inr (.inl ⟨by omega, rfl, rfl, rfl, rfl, rfl⟩))))⟩
  refine hold_stop (fun hd hb => ?_)
  exact leaf_own { e with n := 0, t := 0, a := 0, r := 0, f := 0 } hd (by simp [EvI.row, fitA, fitsA, nf]) ⟨⟨rfl, rfl, rfl, rfl, rfl, rfl, rfl, rfl, rfl⟩, .inr (.inr (.inr (.inr (.inr ⟨by omega, rfl, rfl, rfl, rfl, rfl⟩))))⟩
end Go.Proofs.Ytjihbjjekhncaaa
namespace Go.Proofs.Ytjihbjjekhncaaa
open Go Go.RowKit Sv
set_option linter.unusedVariables false
set_option maxRecDepth 100000
set_option maxHeartbeats 0
theorem ev_mf {e z : EvI} (hr : e.rng) (h : e.ow z) (heq : e.n = z.n ∧ e.t = z.t ∧ e.a = z.a ∧ e.r = z.r ∧ e.f = z.f) (hf : e.fl) : e.mf := by
  obtain ⟨_, _, _, _, _, _, _, hk, hn, hr1, hf1⟩ := hr
  obtain ⟨_, h2⟩ := h
  unfold EvI.mf
  rcases hf with hf | hf | hf | hf | hf | hf | hf <;> rcases h2 with h2 | h2 | h2 | h2 | h2 | h2 <;> first | (exfalso; omega) | exact ⟨by omega, fun _ => by omega, fun _ => by omega, fun _ => by omega, fun _ => by omega, fun _ => by omega, fun _ => by omega, fun _ => by omega⟩
theorem mf_fl {e : EvI} (hr : e.rng) (h : e.mf) : e.fl := by
  obtain ⟨_, _, _, _, _, _, _, hk, hn, hr1, hf1⟩ := hr
  obtain ⟨h0, h1, h2, h3, h4, h5, h6, h7⟩ := h
  have hk : e.k = 1 ∨ e.k = 2 ∨ e.k = 3 ∨ e.k = 4 ∨ e.k = 5 ∨ e.k = 6 ∨ e.k = 7 := by clear h1 h2 h3 h4 h5 h6 h7; omega
  rcases hk with k | k | k | k | k | k | k
  · have := h1 k
    exact .inl (by clear h1 h2 h3 h4 h5 h6 h7; omega)
  · have := h2 k
    exact .inr (.inl (by clear h1 h2 h3 h4 h5 h6 h7; omega))
  · have := h3 k
    exact .inr (.inr (.inl (by clear h1 h2 h3 h4 h5 h6 h7; omega)))
  · have := h4 k
    exact .inr (.inr (.inr (.inl (by clear h1 h2 h3 h4 h5 h6 h7; omega))))
  · have := h5 k
    exact .inr (.inr (.inr (.inr (.inl (by clear h1 h2 h3 h4 h5 h6 h7; omega)))))
  · have := h6 k
    exact .inr (.inr (.inr (.inr (.inr (.inl (by clear h1 h2 h3 h4 h5 h6 h7; omega))))))
  · exact .inr (.inr (.inr (.inr (.inr (.inr k)))))
theorem mf_eq {e z : EvI} (h : e.ow z) (hf : e.mf) : e.o = z.o ∧ e.s = z.s ∧ e.d0 = z.d0 ∧ e.d1 = z.d1 ∧ e.d2 = z.d2 ∧ e.d3 = z.d3 ∧ e.d4 = z.d4 ∧ e.d5 = z.d5 ∧ e.k = z.k ∧ e.n = z.n ∧ e.t = z.t ∧ e.a = z.a ∧ e.r = z.r ∧ e.f = z.f := by
  obtain ⟨⟨a0, a1, a2, a3, a4, a5, a6, a7, a8⟩, h⟩ := h
  obtain ⟨h0, h1, h2, h3, h4, h5, h6, h7⟩ := hf
  refine ⟨a0.symm, a1.symm, a2.symm, a3.symm, a4.symm, a5.symm, a6.symm, a7.symm, a8.symm, ?_⟩
  rcases h with ⟨k | k, h⟩ | ⟨k, h⟩ | ⟨k, h⟩ | ⟨k, h⟩ | ⟨k, h⟩ | ⟨k, h⟩
  · have := h1 k
    clear h1 h2 h3 h4 h5 h6 h7
    omega
  · have := h2 k
    clear h1 h2 h3 h4 h5 h6 h7
    omega
  · have := h3 k
    clear h1 h2 h3 h4 h5 h6 h7
    omega
  · have := h4 k
    clear h1 h2 h3 h4 h5 h6 h7
    omega
  · have := h5 k
    clear h1 h2 h3 h4 h5 h6 h7
    omega
  · have := h6 k
    clear h1 h2 h3 h4 h5 h6 h7
    omega
  · have k : e.k = 7 := by clear h1 h2 h3 h4 h5 h6 h7; omega
    have := h7 k
    clear h1 h2 h3 h4 h5 h6 h7
    omega
theorem rmay (e : EvI) (hr : e.rng) : Runs Try.prog 22 [.agg e.row] fun x G => G = [] ∧ ((x = .bool true ∧ e.may) ∨ (x = .bool false ∧ ¬ e.may)) := by
  have hr0 := hr
  unfold EvI.rng at hr
  refine runs_treeF plain mixed (fun g => Nat.beq g 61 || Nat.beq g 60) (fun _ => false) 60 ?_
  refine ok_sk (.both (.both (.both (.stop []) (.both (.stop []) (.l (.both (.l (.both (.both (.stop []) (.both (.stop []) (.both (.stop []) (.both (.stop []) (.both (.stop []) (.r (.stop []))))))) (.stop []))) (.both (.l (.both (.both (.stop []) (.both (.stop []) (.both (.stop []) (.both (.stop []) (.r (.both (.stop []) (.stop []))))))) (.stop []))) (.both (.l (.both (.both (.stop []) (.both (.stop []) (.both (.stop []) (.r (.both (.stop []) (.both (.stop []) (.stop []))))))) (.stop []))) (.both (.l (.both (.both (.stop []) (.both (.stop []) (.r (.both (.stop []) (.both (.stop []) (.both (.stop []) (.stop []))))))) (.stop []))) (.both (.l (.both (.both (.stop []) (.r (.both (.stop []) (.both (.stop []) (.both (.stop []) (.both (.stop []) (.stop []))))))) (.stop []))) (.l (.l (.both (.r (.both (.stop []) (.both (.stop []) (.both (.stop []) (.both (.stop []) (.both (.stop []) (.stop []))))))) (.stop [])))))))))))) (.stop [])) (.stop [])) (S := .fork (decide (1 ≤ e.o)) (.fork (decide (e.o ≤ 6)) (.fork (decide (e.s < 1)) (.stop (Hd.leaf (.bool false)) [] ([])) (.fork (decide (1099511627776 ≤ e.s)) (.stop (Hd.leaf (.bool false)) [] ([])) (.left (decide ((-9223372036854775808 : Int) ≤ e.o - 1 ∧ e.o - 1 ≤ 9223372036854775807)) (.fork (decide (e.o - 1 = 5)) (.left (decide (0 ≤ e.s - 1 ∧ e.s - 1 ≤ 18446744073709551615)) (.fork (decide (e.d5 = e.s - 1)) (.fork (decide (1099511627776 ≤ e.d0)) (.stop (Hd.leaf (.bool false)) [] ([])) (.fork (decide (1099511627776 ≤ e.d1)) (.stop (Hd.leaf (.bool false)) [] ([])) (.fork (decide (1099511627776 ≤ e.d2)) (.stop (Hd.leaf (.bool false)) [] ([])) (.fork (decide (1099511627776 ≤ e.d3)) (.stop (Hd.leaf (.bool false)) [] ([])) (.fork (decide (1099511627776 ≤ e.d4)) (.stop (Hd.leaf (.bool false)) [] ([])) (.right (decide (1099511627776 ≤ e.d5)) (.stop (Hd.call 60 [.agg [.sint .i64 e.o, .sint .u64 e.s, .sint .u64 e.d0, .sint .u64 e.d1, .sint .u64 e.d2, .sint .u64 e.d3, .sint .u64 e.d4, .sint .u64 e.d5, .sint .u8 e.k, .sint .u64 e.n, .sint .i64 e.t, .sint .i64 e.a, .sint .u64 e.r, .sint .u64 e.f]]) [] ([])))))))) (.stop (Hd.leaf (.bool false)) [] ([])))) (.fork (decide (e.o - 1 = 4)) (.left (decide (0 ≤ e.s - 1 ∧ e.s - 1 ≤ 18446744073709551615)) (.fork (decide (e.d4 = e.s - 1)) (.fork (decide (1099511627776 ≤ e.d0)) (.stop (Hd.leaf (.bool false)) [] ([])) (.fork (decide (1099511627776 ≤ e.d1)) (.stop (Hd.leaf (.bool false)) [] ([])) (.fork (decide (1099511627776 ≤ e.d2)) (.stop (Hd.leaf (.bool false)) [] ([])) (.fork (decide (1099511627776 ≤ e.d3)) (.stop (Hd.leaf (.bool false)) [] ([])) (.right (decide (1099511627776 ≤ e.d4)) (.fork (decide (1099511627776 ≤ e.d5)) (.stop (Hd.leaf (.bool false)) [] ([])) (.stop (Hd.call 60 [.agg [.sint .i64 e.o, .sint .u64 e.s, .sint .u64 e.d0, .sint .u64 e.d1, .sint .u64 e.d2, .sint .u64 e.d3, .sint .u64 e.d4, .sint .u64 e.d5, .sint .u8 e.k, .sint .u64 e.n, .sint .i64 e.t, .sint .i64 e.a, .sint .u64 e.r, .sint .u64 e.f]]) [] ([])))))))) (.stop (Hd.leaf (.bool false)) [] ([])))) (.fork (decide (e.o - 1 = 3)) (.left (decide (0 ≤ e.s - 1 ∧ e.s - 1 ≤ 18446744073709551615)) (.fork (decide (e.d3 = e.s - 1)) (.fork (decide (1099511627776 ≤ e.d0)) (.stop (Hd.leaf (.bool false)) [] ([])) (.fork (decide (1099511627776 ≤ e.d1)) (.stop (Hd.leaf (.bool false)) [] ([])) (.fork (decide (1099511627776 ≤ e.d2)) (.stop (Hd.leaf (.bool false)) [] ([])) (.right (decide (1099511627776 ≤ e.d3)) (.fork (decide (1099511627776 ≤ e.d4)) (.stop (Hd.leaf (.bool false)) [] ([])) (.fork (decide (1099511627776 ≤ e.d5)) (.stop (Hd.leaf (.bool false)) [] ([])) (.stop (Hd.call 60 [.agg [.sint .i64 e.o, .sint .u64 e.s, .sint .u64 e.d0, .sint .u64 e.d1, .sint .u64 e.d2, .sint .u64 e.d3, .sint .u64 e.d4, .sint .u64 e.d5, .sint .u8 e.k, .sint .u64 e.n, .sint .i64 e.t, .sint .i64 e.a, .sint .u64 e.r, .sint .u64 e.f]]) [] ([])))))))) (.stop (Hd.leaf (.bool false)) [] ([])))) (.fork (decide (e.o - 1 = 2)) (.left (decide (0 ≤ e.s - 1 ∧ e.s - 1 ≤ 18446744073709551615)) (.fork (decide (e.d2 = e.s - 1)) (.fork (decide (1099511627776 ≤ e.d0)) (.stop (Hd.leaf (.bool false)) [] ([])) (.fork (decide (1099511627776 ≤ e.d1)) (.stop (Hd.leaf (.bool false)) [] ([])) (.right (decide (1099511627776 ≤ e.d2)) (.fork (decide (1099511627776 ≤ e.d3)) (.stop (Hd.leaf (.bool false)) [] ([])) (.fork (decide (1099511627776 ≤ e.d4)) (.stop (Hd.leaf (.bool false)) [] ([])) (.fork (decide (1099511627776 ≤ e.d5)) (.stop (Hd.leaf (.bool false)) [] ([])) (.stop (Hd.call 60 [.agg [.sint .i64 e.o, .sint .u64 e.s, .sint .u64 e.d0, .sint .u64 e.d1, .sint .u64 e.d2, .sint .u64 e.d3, .sint .u64 e.d4, .sint .u64 e.d5, .sint .u8 e.k, .sint .u64 e.n, .sint .i64 e.t, .sint .i64 e.a, .sint .u64 e.r, .sint .u64 e.f]]) [] ([])))))))) (.stop (Hd.leaf (.bool false)) [] ([])))) (.fork (decide (e.o - 1 = 1)) (.left (decide (0 ≤ e.s - 1 ∧ e.s - 1 ≤ 18446744073709551615)) (.fork (decide (e.d1 = e.s - 1)) (.fork (decide (1099511627776 ≤ e.d0)) (.stop (Hd.leaf (.bool false)) [] ([])) (.right (decide (1099511627776 ≤ e.d1)) (.fork (decide (1099511627776 ≤ e.d2)) (.stop (Hd.leaf (.bool false)) [] ([])) (.fork (decide (1099511627776 ≤ e.d3)) (.stop (Hd.leaf (.bool false)) [] ([])) (.fork (decide (1099511627776 ≤ e.d4)) (.stop (Hd.leaf (.bool false)) [] ([])) (.fork (decide (1099511627776 ≤ e.d5)) (.stop (Hd.leaf (.bool false)) [] ([])) (.stop (Hd.call 60 [.agg [.sint .i64 e.o, .sint .u64 e.s, .sint .u64 e.d0, .sint .u64 e.d1, .sint .u64 e.d2, .sint .u64 e.d3, .sint .u64 e.d4, .sint .u64 e.d5, .sint .u8 e.k, .sint .u64 e.n, .sint .i64 e.t, .sint .i64 e.a, .sint .u64 e.r, .sint .u64 e.f]]) [] ([])))))))) (.stop (Hd.leaf (.bool false)) [] ([])))) (.left (decide (e.o - 1 = 0)) (.left (decide (0 ≤ e.s - 1 ∧ e.s - 1 ≤ 18446744073709551615)) (.fork (decide (e.d0 = e.s - 1)) (.right (decide (1099511627776 ≤ e.d0)) (.fork (decide (1099511627776 ≤ e.d1)) (.stop (Hd.leaf (.bool false)) [] ([])) (.fork (decide (1099511627776 ≤ e.d2)) (.stop (Hd.leaf (.bool false)) [] ([])) (.fork (decide (1099511627776 ≤ e.d3)) (.stop (Hd.leaf (.bool false)) [] ([])) (.fork (decide (1099511627776 ≤ e.d4)) (.stop (Hd.leaf (.bool false)) [] ([])) (.fork (decide (1099511627776 ≤ e.d5)) (.stop (Hd.leaf (.bool false)) [] ([])) (.stop (Hd.call 60 [.agg [.sint .i64 e.o, .sint .u64 e.s, .sint .u64 e.d0, .sint .u64 e.d1, .sint .u64 e.d2, .sint .u64 e.d3, .sint .u64 e.d4, .sint .u64 e.d5, .sint .u8 e.k, .sint .u64 e.n, .sint .i64 e.t, .sint .i64 e.a, .sint .u64 e.r, .sint .u64 e.f]]) [] ([])))))))) (.stop (Hd.leaf (.bool false)) [] ([]))))))))))))) (.stop (Hd.leaf (.bool false)) [] ([]))) (.stop (Hd.leaf (.bool false)) [] ([]))) (by kernel_rfl) ?_
  refine hold_forkD (fun h0 => ?_) (fun h0 => ?_)
  ·
   refine hold_forkD (fun h1 => ?_) (fun h1 => ?_)
   ·
    refine hold_forkD (fun h2 => ?_) (fun h2 => ?_)
    ·
     refine hold_stop (fun hd hb => ?_)
     exact ok_leaf0 hd rfl ⟨rfl, .inr ⟨rfl, fun hm => by have hm := hm.1; unfold EvI.at_ at hm; omega⟩⟩
    refine hold_forkD (fun h3 => ?_) (fun h3 => ?_)
    ·
     refine hold_stop (fun hd hb => ?_)
     exact ok_leaf0 hd rfl ⟨rfl, .inr ⟨rfl, fun hm => by have hm := hm.1; unfold EvI.at_ at hm; omega⟩⟩
    refine hl (bc fun h4 => by omega) ?_
    refine hold_forkD (fun h4 => ?_) (fun h4 => ?_)
    ·
     refine hl (bc fun h5 => by omega) ?_
     refine hold_forkD (fun h5 => ?_) (fun h5 => ?_)
     ·
      refine hold_forkD (fun h6 => ?_) (fun h6 => ?_)
      ·
       refine hold_stop (fun hd hb => ?_)
       exact ok_leaf0 hd rfl ⟨rfl, .inr ⟨rfl, fun hm => by have hm := hm.1; unfold EvI.at_ at hm; omega⟩⟩
      refine hold_forkD (fun h7 => ?_) (fun h7 => ?_)
      ·
       refine hold_stop (fun hd hb => ?_)
       exact ok_leaf0 hd rfl ⟨rfl, .inr ⟨rfl, fun hm => by have hm := hm.1; unfold EvI.at_ at hm; omega⟩⟩
      refine hold_forkD (fun h8 => ?_) (fun h8 => ?_)
      ·
       refine hold_stop (fun hd hb => ?_)
       exact ok_leaf0 hd rfl ⟨rfl, .inr ⟨rfl, fun hm => by have hm := hm.1; unfold EvI.at_ at hm; omega⟩⟩
      refine hold_forkD (fun h9 => ?_) (fun h9 => ?_)
      ·
       refine hold_stop (fun hd hb => ?_)
       exact ok_leaf0 hd rfl ⟨rfl, .inr ⟨rfl, fun hm => by have hm := hm.1; unfold EvI.at_ at hm; omega⟩⟩
      refine hold_forkD (fun h10 => ?_) (fun h10 => ?_)
      ·
       refine hold_stop (fun hd hb => ?_)
       exact ok_leaf0 hd rfl ⟨rfl, .inr ⟨rfl, fun hm => by have hm := hm.1; unfold EvI.at_ at hm; omega⟩⟩
      refine hzr (fun h11 => by omega) ?_
      refine hold_stop (fun hd hb => ?_)
      refine ok_call0 hd (rown e) rfl ?_
      rintro x G ⟨rfl, z, rfl, ow⟩
      refine ⟨rfl, fun g hg => (by cases hg), ?_⟩
      refine ok_sk (.l (.l (.l (.l (.l (.l (.l (.l (.l (.l (.l (.l (.l (.l (.both (.stop []) (.stop [])))))))))))))))) (S := .left (decide (e.o = e.o)) (.left (decide (e.s = e.s)) (.left (decide (e.d0 = e.d0)) (.left (decide (e.d1 = e.d1)) (.left (decide (e.d2 = e.d2)) (.left (decide (e.d3 = e.d3)) (.left (decide (e.d4 = e.d4)) (.left (decide (e.d5 = e.d5)) (.left (decide (e.k = e.k)) (.left (decide (e.n = e.n)) (.left (decide (e.t = e.t)) (.left (decide (e.a = e.a)) (.left (decide (e.r = e.r)) (.left (decide (e.f = e.f)) (.fork (@decide (e.o = z.o ∧ e.s = z.s ∧ e.d0 = z.d0 ∧ e.d1 = z.d1 ∧ e.d2 = z.d2 ∧ e.d3 = z.d3 ∧ e.d4 = z.d4 ∧ e.d5 = z.d5 ∧ e.k = z.k ∧ e.n = z.n ∧ e.t = z.t ∧ e.a = z.a ∧ e.r = z.r ∧ e.f = z.f) pd) (.stop (Hd.call 61 [.agg [.sint .i64 e.o, .sint .u64 e.s, .sint .u64 e.d0, .sint .u64 e.d1, .sint .u64 e.d2, .sint .u64 e.d3, .sint .u64 e.d4, .sint .u64 e.d5, .sint .u8 e.k, .sint .u64 e.n, .sint .i64 e.t, .sint .i64 e.a, .sint .u64 e.r, .sint .u64 e.f]]) [] ([])) (.stop (Hd.leaf (.bool false)) [] ([]))))))))))))))))) (by kernel_rfl) ?_
      refine hl (bc fun h12 => by omega) ?_
      refine hl (bc fun h12 => by omega) ?_
      refine hl (bc fun h12 => by omega) ?_
      refine hl (bc fun h12 => by omega) ?_
      refine hl (bc fun h12 => by omega) ?_
      refine hl (bc fun h12 => by omega) ?_
      refine hl (bc fun h12 => by omega) ?_
      refine hl (bc fun h12 => by omega) ?_
      refine hl (bc fun h12 => by omega) ?_
      refine hl (bc fun h12 => by omega) ?_
      refine hl (bc fun h12 => by omega) ?_
      refine hl (bc fun h12 => by omega) ?_
      refine hl (bc fun h12 => by omega) ?_
      refine hl (bc fun h12 => by omega) ?_
      refine hold_forkD (fun h12 => ?_) (fun h12 => ?_)
      ·
       refine hold_stop (fun hd hb => ?_)
       refine ok_call0 hd (rfields e) rfl ?_
       rintro x G ⟨rfl, ⟨rfl, fl⟩ | ⟨rfl, fl⟩⟩ <;> refine ⟨rfl, fun g hg => (by cases hg), ?_⟩
       ·
        refine ok_sk (.stop []) (S := .stop (Hd.leaf (.bool true)) [] ([])) (by kernel_rfl) ?_
        refine hold_stop (fun hd hb => ?_)
        exact ok_leaf0 hd rfl ⟨rfl, .inl ⟨rfl, by unfold EvI.at_; omega, ev_mf hr0 ow (by omega) fl⟩⟩
       refine ok_sk (.stop []) (S := .stop (Hd.leaf (.bool false)) [] ([])) (by kernel_rfl) ?_
       refine hold_stop (fun hd hb => ?_)
       exact ok_leaf0 hd rfl ⟨rfl, .inr ⟨rfl, fun hm => fl (mf_fl hr0 hm.2)⟩⟩
      refine hold_stop (fun hd hb => ?_)
      exact ok_leaf0 hd rfl ⟨rfl, .inr ⟨rfl, fun hm => absurd (mf_eq ow hm.2) (by assumption)⟩⟩
     refine hold_stop (fun hd hb => ?_)
     exact ok_leaf0 hd rfl ⟨rfl, .inr ⟨rfl, fun hm => by have hm := hm.1; unfold EvI.at_ at hm; omega⟩⟩
    refine hold_forkD (fun h5 => ?_) (fun h5 => ?_)
    ·
     refine hl (bc fun h6 => by omega) ?_
     refine hold_forkD (fun h6 => ?_) (fun h6 => ?_)
     ·
      refine hold_forkD (fun h7 => ?_) (fun h7 => ?_)
      ·
       refine hold_stop (fun hd hb => ?_)
       exact ok_leaf0 hd rfl ⟨rfl, .inr ⟨rfl, fun hm => by have hm := hm.1; unfold EvI.at_ at hm; omega⟩⟩
      refine hold_forkD (fun h8 => ?_) (fun h8 => ?_)
      ·
       refine hold_stop (fun hd hb => ?_)
       exact ok_leaf0 hd rfl ⟨rfl, .inr ⟨rfl, fun hm => by have hm := hm.1; unfold EvI.at_ at hm; omega⟩⟩
      refine hold_forkD (fun h9 => ?_) (fun h9 => ?_)
      ·
       refine hold_stop (fun hd hb => ?_)
       exact ok_leaf0 hd rfl ⟨rfl, .inr ⟨rfl, fun hm => by have hm := hm.1; unfold EvI.at_ at hm; omega⟩⟩
      refine hold_forkD (fun h10 => ?_) (fun h10 => ?_)
      ·
       refine hold_stop (fun hd hb => ?_)
       exact ok_leaf0 hd rfl ⟨rfl, .inr ⟨rfl, fun hm => by have hm := hm.1; unfold EvI.at_ at hm; omega⟩⟩
      refine hzr (fun h11 => by omega) ?_
      refine hold_forkD (fun h11 => ?_) (fun h11 => ?_)
      ·
       refine hold_stop (fun hd hb => ?_)
       exact ok_leaf0 hd rfl ⟨rfl, .inr ⟨rfl, fun hm => by have hm := hm.1; unfold EvI.at_ at hm; omega⟩⟩
      refine hold_stop (fun hd hb => ?_)
      refine ok_call0 hd (rown e) rfl ?_
      rintro x G ⟨rfl, z, rfl, ow⟩
      refine ⟨rfl, fun g hg => (by cases hg), ?_⟩
      refine ok_sk (.l (.l (.l (.l (.l (.l (.l (.l (.l (.l (.l (.l (.l (.l (.both (.stop []) (.stop [])))))))))))))))) (S := .left (decide (e.o = e.o)) (.left (decide (e.s = e.s)) (.left (decide (e.d0 = e.d0)) (.left (decide (e.d1 = e.d1)) (.left (decide (e.d2 = e.d2)) (.left (decide (e.d3 = e.d3)) (.left (decide (e.d4 = e.d4)) (.left (decide (e.d5 = e.d5)) (.left (decide (e.k = e.k)) (.left (decide (e.n = e.n)) (.left (decide (e.t = e.t)) (.left (decide (e.a = e.a)) (.left (decide (e.r = e.r)) (.left (decide (e.f = e.f)) (.fork (@decide (e.o = z.o ∧ e.s = z.s ∧ e.d0 = z.d0 ∧ e.d1 = z.d1 ∧ e.d2 = z.d2 ∧ e.d3 = z.d3 ∧ e.d4 = z.d4 ∧ e.d5 = z.d5 ∧ e.k = z.k ∧ e.n = z.n ∧ e.t = z.t ∧ e.a = z.a ∧ e.r = z.r ∧ e.f = z.f) pd) (.stop (Hd.call 61 [.agg [.sint .i64 e.o, .sint .u64 e.s, .sint .u64 e.d0, .sint .u64 e.d1, .sint .u64 e.d2, .sint .u64 e.d3, .sint .u64 e.d4, .sint .u64 e.d5, .sint .u8 e.k, .sint .u64 e.n, .sint .i64 e.t, .sint .i64 e.a, .sint .u64 e.r, .sint .u64 e.f]]) [] ([])) (.stop (Hd.leaf (.bool false)) [] ([]))))))))))))))))) (by kernel_rfl) ?_
      refine hl (bc fun h13 => by omega) ?_
      refine hl (bc fun h13 => by omega) ?_
      refine hl (bc fun h13 => by omega) ?_
      refine hl (bc fun h13 => by omega) ?_
      refine hl (bc fun h13 => by omega) ?_
      refine hl (bc fun h13 => by omega) ?_
      refine hl (bc fun h13 => by omega) ?_
      refine hl (bc fun h13 => by omega) ?_
      refine hl (bc fun h13 => by omega) ?_
      refine hl (bc fun h13 => by omega) ?_
      refine hl (bc fun h13 => by omega) ?_
      refine hl (bc fun h13 => by omega) ?_
      refine hl (bc fun h13 => by omega) ?_
      refine hl (bc fun h13 => by omega) ?_
      refine hold_forkD (fun h13 => ?_) (fun h13 => ?_)
      ·
       refine hold_stop (fun hd hb => ?_)
       refine ok_call0 hd (rfields e) rfl ?_
       rintro x G ⟨rfl, ⟨rfl, fl⟩ | ⟨rfl, fl⟩⟩ <;> refine ⟨rfl, fun g hg => (by cases hg), ?_⟩
       ·
        refine ok_sk (.stop []) (S := .stop (Hd.leaf (.bool true)) [] ([])) (by kernel_rfl) ?_
        refine hold_stop (fun hd hb => ?_)
        exact ok_leaf0 hd rfl ⟨rfl, .inl ⟨rfl, by unfold EvI.at_; omega, ev_mf hr0 ow (by omega) fl⟩⟩
       refine ok_sk (.stop []) (S := .stop (Hd.leaf (.bool false)) [] ([])) (by kernel_rfl) ?_
       refine hold_stop (fun hd hb => ?_)
       exact ok_leaf0 hd rfl ⟨rfl, .inr ⟨rfl, fun hm => fl (mf_fl hr0 hm.2)⟩⟩
      refine hold_stop (fun hd hb => ?_)
      exact ok_leaf0 hd rfl ⟨rfl, .inr ⟨rfl, fun hm => absurd (mf_eq ow hm.2) (by assumption)⟩⟩
     refine hold_stop (fun hd hb => ?_)
     exact ok_leaf0 hd rfl ⟨rfl, .inr ⟨rfl, fun hm => by have hm := hm.1; unfold EvI.at_ at hm; omega⟩⟩
    refine hold_forkD (fun h6 => ?_) (fun h6 => ?_)
    ·
     refine hl (bc fun h7 => by omega) ?_
     refine hold_forkD (fun h7 => ?_) (fun h7 => ?_)
     ·
      refine hold_forkD (fun h8 => ?_) (fun h8 => ?_)
      ·
       refine hold_stop (fun hd hb => ?_)
       exact ok_leaf0 hd rfl ⟨rfl, .inr ⟨rfl, fun hm => by have hm := hm.1; unfold EvI.at_ at hm; omega⟩⟩
      refine hold_forkD (fun h9 => ?_) (fun h9 => ?_)
      ·
       refine hold_stop (fun hd hb => ?_)
       exact ok_leaf0 hd rfl ⟨rfl, .inr ⟨rfl, fun hm => by have hm := hm.1; unfold EvI.at_ at hm; omega⟩⟩
      refine hold_forkD (fun h10 => ?_) (fun h10 => ?_)
      ·
       refine hold_stop (fun hd hb => ?_)
       exact ok_leaf0 hd rfl ⟨rfl, .inr ⟨rfl, fun hm => by have hm := hm.1; unfold EvI.at_ at hm; omega⟩⟩
      refine hzr (fun h11 => by omega) ?_
      refine hold_forkD (fun h11 => ?_) (fun h11 => ?_)
      ·
       refine hold_stop (fun hd hb => ?_)
       exact ok_leaf0 hd rfl ⟨rfl, .inr ⟨rfl, fun hm => by have hm := hm.1; unfold EvI.at_ at hm; omega⟩⟩
      refine hold_forkD (fun h12 => ?_) (fun h12 => ?_)
      ·
       refine hold_stop (fun hd hb => ?_)
       exact ok_leaf0 hd rfl ⟨rfl, .inr ⟨rfl, fun hm => by have hm := hm.1; unfold EvI.at_ at hm; omega⟩⟩
      refine hold_stop (fun hd hb => ?_)
      refine ok_call0 hd (rown e) rfl ?_
      rintro x G ⟨rfl, z, rfl, ow⟩
      refine ⟨rfl, fun g hg => (by cases hg), ?_⟩
      refine ok_sk (.l (.l (.l (.l (.l (.l (.l (.l (.l (.l (.l (.l (.l (.l (.both (.stop []) (.stop [])))))))))))))))) (S := .left (decide (e.o = e.o)) (.left (decide (e.s = e.s)) (.left (decide (e.d0 = e.d0)) (.left (decide (e.d1 = e.d1)) (.left (decide (e.d2 = e.d2)) (.left (decide (e.d3 = e.d3)) (.left (decide (e.d4 = e.d4)) (.left (decide (e.d5 = e.d5)) (.left (decide (e.k = e.k)) (.left (decide (e.n = e.n)) (.left (decide (e.t = e.t)) (.left (decide (e.a = e.a)) (.left (decide (e.r = e.r)) (.left (decide (e.f = e.f)) (.fork (@decide (e.o = z.o ∧ e.s = z.s ∧ e.d0 = z.d0 ∧ e.d1 = z.d1 ∧ e.d2 = z.d2 ∧ e.d3 = z.d3 ∧ e.d4 = z.d4 ∧ e.d5 = z.d5 ∧ e.k = z.k ∧ e.n = z.n ∧ e.t = z.t ∧ e.a = z.a ∧ e.r = z.r ∧ e.f = z.f) pd) (.stop (Hd.call 61 [.agg [.sint .i64 e.o, .sint .u64 e.s, .sint .u64 e.d0, .sint .u64 e.d1, .sint .u64 e.d2, .sint .u64 e.d3, .sint .u64 e.d4, .sint .u64 e.d5, .sint .u8 e.k, .sint .u64 e.n, .sint .i64 e.t, .sint .i64 e.a, .sint .u64 e.r, .sint .u64 e.f]]) [] ([])) (.stop (Hd.leaf (.bool false)) [] ([]))))))))))))))))) (by kernel_rfl) ?_
      refine hl (bc fun h14 => by omega) ?_
      refine hl (bc fun h14 => by omega) ?_
      refine hl (bc fun h14 => by omega) ?_
      refine hl (bc fun h14 => by omega) ?_
      refine hl (bc fun h14 => by omega) ?_
      refine hl (bc fun h14 => by omega) ?_
      refine hl (bc fun h14 => by omega) ?_
      refine hl (bc fun h14 => by omega) ?_
      refine hl (bc fun h14 => by omega) ?_
      refine hl (bc fun h14 => by omega) ?_
      refine hl (bc fun h14 => by omega) ?_
      refine hl (bc fun h14 => by omega) ?_
      refine hl (bc fun h14 => by omega) ?_
      refine hl (bc fun h14 => by omega) ?_
      refine hold_forkD (fun h14 => ?_) (fun h14 => ?_)
      ·
       refine hold_stop (fun hd hb => ?_)
       refine ok_call0 hd (rfields e) rfl ?_
       rintro x G ⟨rfl, ⟨rfl, fl⟩ | ⟨rfl, fl⟩⟩ <;> refine ⟨rfl, fun g hg => (by cases hg), ?_⟩
       ·
        refine ok_sk (.stop []) (S := .stop (Hd.leaf (.bool true)) [] ([])) (by kernel_rfl) ?_
        refine hold_stop (fun hd hb => ?_)
        exact ok_leaf0 hd rfl ⟨rfl, .inl ⟨rfl, by unfold EvI.at_; omega, ev_mf hr0 ow (by omega) fl⟩⟩
       refine ok_sk (.stop []) (S := .stop (Hd.leaf (.bool false)) [] ([])) (by kernel_rfl) ?_
       refine hold_stop (fun hd hb => ?_)
       exact ok_leaf0 hd rfl ⟨rfl, .inr ⟨rfl, fun hm => fl (mf_fl hr0 hm.2)⟩⟩
      refine hold_stop (fun hd hb => ?_)
      exact ok_leaf0 hd rfl ⟨rfl, .inr ⟨rfl, fun hm => absurd (mf_eq ow hm.2) (by assumption)⟩⟩
     refine hold_stop (fun hd hb => ?_)
     exact ok_leaf0 hd rfl ⟨rfl, .inr ⟨rfl, fun hm => by have hm := hm.1; unfold EvI.at_ at hm; omega⟩⟩
    refine hold_forkD (fun h7 => ?_) (fun h7 => ?_)
    ·
     refine hl (bc fun h8 => by omega) ?_
     refine hold_forkD (fun h8 => ?_) (fun h8 => ?_)
     ·
      refine hold_forkD (fun h9 => ?_) (fun h9 => ?_)
      ·
       refine hold_stop (fun hd hb => ?_)
       exact ok_leaf0 hd rfl ⟨rfl, .inr ⟨rfl, fun hm => by have hm := hm.1; unfold EvI.at_ at hm; omega⟩⟩
      refine hold_forkD (fun h10 => ?_) (fun h10 => ?_)
      ·
       refine hold_stop (fun hd hb => ?_)
       exact ok_leaf0 hd rfl ⟨rfl, .inr ⟨rfl, fun hm => by have hm := hm.1; unfold EvI.at_ at hm; omega⟩⟩
      refine hzr (fun h11 => by omega) ?_
      refine hold_forkD (fun h11 => ?_) (fun h11 => ?_)
      ·
       refine hold_stop (fun hd hb => ?_)
       exact ok_leaf0 hd rfl ⟨rfl, .inr ⟨rfl, fun hm => by have hm := hm.1; unfold EvI.at_ at hm; omega⟩⟩
      refine hold_forkD (fun h12 => ?_) (fun h12 => ?_)
      ·
       refine hold_stop (fun hd hb => ?_)
       exact ok_leaf0 hd rfl ⟨rfl, .inr ⟨rfl, fun hm => by have hm := hm.1; unfold EvI.at_ at hm; omega⟩⟩
      refine hold_forkD (fun h13 => ?_) (fun h13 => ?_)
      ·
       refine hold_stop (fun hd hb => ?_)
       exact ok_leaf0 hd rfl ⟨rfl, .inr ⟨rfl, fun hm => by have hm := hm.1; unfold EvI.at_ at hm; omega⟩⟩
      refine hold_stop (fun hd hb => ?_)
      refine ok_call0 hd (rown e) rfl ?_
      rintro x G ⟨rfl, z, rfl, ow⟩
      refine ⟨rfl, fun g hg => (by cases hg), ?_⟩
      refine ok_sk (.l (.l (.l (.l (.l (.l (.l (.l (.l (.l (.l (.l (.l (.l (.both (.stop []) (.stop [])))))))))))))))) (S := .left (decide (e.o = e.o)) (.left (decide (e.s = e.s)) (.left (decide (e.d0 = e.d0)) (.left (decide (e.d1 = e.d1)) (.left (decide (e.d2 = e.d2)) (.left (decide (e.d3 = e.d3)) (.left (decide (e.d4 = e.d4)) (.left (decide (e.d5 = e.d5)) (.left (decide (e.k = e.k)) (.left (decide (e.n = e.n)) (.left (decide (e.t = e.t)) (.left (decide (e.a = e.a)) (.left (decide (e.r = e.r)) (.left (decide (e.f = e.f)) (.fork (@decide (e.o = z.o ∧ e.s = z.s ∧ e.d0 = z.d0 ∧ e.d1 = z.d1 ∧ e.d2 = z.d2 ∧ e.d3 = z.d3 ∧ e.d4 = z.d4 ∧ e.d5 = z.d5 ∧ e.k = z.k ∧ e.n = z.n ∧ e.t = z.t ∧ e.a = z.a ∧ e.r = z.r ∧ e.f = z.f) pd) (.stop (Hd.call 61 [.agg [.sint .i64 e.o, .sint .u64 e.s, .sint .u64 e.d0, .sint .u64 e.d1, .sint .u64 e.d2, .sint .u64 e.d3, .sint .u64 e.d4, .sint .u64 e.d5, .sint .u8 e.k, .sint .u64 e.n, .sint .i64 e.t, .sint .i64 e.a, .sint .u64 e.r, .sint .u64 e.f]]) [] ([])) (.stop (Hd.leaf (.bool false)) [] ([]))))))))))))))))) (by kernel_rfl) ?_
      refine hl (bc fun h15 => by omega) ?_
      refine hl (bc fun h15 => by omega) ?_
      refine hl (bc fun h15 => by omega) ?_
      refine hl (bc fun h15 => by omega) ?_
      refine hl (bc fun h15 => by omega) ?_
      refine hl (bc fun h15 => by omega) ?_
      refine hl (bc fun h15 => by omega) ?_
      refine hl (bc fun h15 => by omega) ?_
      refine hl (bc fun h15 => by omega) ?_
      refine hl (bc fun h15 => by omega) ?_
      refine hl (bc fun h15 => by omega) ?_
      refine hl (bc fun h15 => by omega) ?_
      refine hl (bc fun h15 => by omega) ?_
      refine hl (bc fun h15 => by omega) ?_
      refine hold_forkD (fun h15 => ?_) (fun h15 => ?_)
      ·
       refine hold_stop (fun hd hb => ?_)
       refine ok_call0 hd (rfields e) rfl ?_
       rintro x G ⟨rfl, ⟨rfl, fl⟩ | ⟨rfl, fl⟩⟩ <;> refine ⟨rfl, fun g hg => (by cases hg), ?_⟩
       ·
        refine ok_sk (.stop []) (S := .stop (Hd.leaf (.bool true)) [] ([])) (by kernel_rfl) ?_
        refine hold_stop (fun hd hb => ?_)
        exact ok_leaf0 hd rfl ⟨rfl, .inl ⟨rfl, by unfold EvI.at_; omega, ev_mf hr0 ow (by omega) fl⟩⟩
       refine ok_sk (.stop []) (S := .stop (Hd.leaf (.bool false)) [] ([])) (by kernel_rfl) ?_
       refine hold_stop (fun hd hb => ?_)
       exact ok_leaf0 hd rfl ⟨rfl, .inr ⟨rfl, fun hm => fl (mf_fl hr0 hm.2)⟩⟩
      refine hold_stop (fun hd hb => ?_)
      exact ok_leaf0 hd rfl ⟨rfl, .inr ⟨rfl, fun hm => absurd (mf_eq ow hm.2) (by assumption)⟩⟩
     refine hold_stop (fun hd hb => ?_)
     exact ok_leaf0 hd rfl ⟨rfl, .inr ⟨rfl, fun hm => by have hm := hm.1; unfold EvI.at_ at hm; omega⟩⟩
    refine hold_forkD (fun h8 => ?_) (fun h8 => ?_)
    ·
     refine hl (bc fun h9 => by omega) ?_
     refine hold_forkD (fun h9 => ?_) (fun h9 => ?_)
     ·
      refine hold_forkD (fun h10 => ?_) (fun h10 => ?_)
      ·
       refine hold_stop (fun hd hb => ?_)
       exact ok_leaf0 hd rfl ⟨rfl, .inr ⟨rfl, fun hm => by have hm := hm.1; unfold EvI.at_ at hm; omega⟩⟩
      refine hzr (fun h11 => by omega) ?_
      refine hold_forkD (fun h11 => ?_) (fun h11 => ?_)
      ·
       refine hold_stop (fun hd hb => ?_)
       exact ok_leaf0 hd rfl ⟨rfl, .inr ⟨rfl, fun hm => by have hm := hm.1; unfold EvI.at_ at hm; omega⟩⟩
      refine hold_forkD (fun h12 => ?_) (fun h12 => ?_)
      ·
       refine hold_stop (fun hd hb => ?_)
       exact ok_leaf0 hd rfl ⟨rfl, .inr ⟨rfl, fun hm => by have hm := hm.1; unfold EvI.at_ at hm; omega⟩⟩
      refine hold_forkD (fun h13 => ?_) (fun h13 => ?_)
      ·
       refine hold_stop (fun hd hb => ?_)
       exact ok_leaf0 hd rfl ⟨rfl, .inr ⟨rfl, fun hm => by have hm := hm.1; unfold EvI.at_ at hm; omega⟩⟩
      refine hold_forkD (fun h14 => ?_) (fun h14 => ?_)
      ·
       refine hold_stop (fun hd hb => ?_)
       exact ok_leaf0 hd rfl ⟨rfl, .inr ⟨rfl, fun hm => by have hm := hm.1; unfold EvI.at_ at hm; omega⟩⟩
      refine hold_stop (fun hd hb => ?_)
      refine ok_call0 hd (rown e) rfl ?_
      rintro x G ⟨rfl, z, rfl, ow⟩
      refine ⟨rfl, fun g hg => (by cases hg), ?_⟩
      refine ok_sk (.l (.l (.l (.l (.l (.l (.l (.l (.l (.l (.l (.l (.l (.l (.both (.stop []) (.stop [])))))))))))))))) (S := .left (decide (e.o = e.o)) (.left (decide (e.s = e.s)) (.left (decide (e.d0 = e.d0)) (.left (decide (e.d1 = e.d1)) (.left (decide (e.d2 = e.d2)) (.left (decide (e.d3 = e.d3)) (.left (decide (e.d4 = e.d4)) (.left (decide (e.d5 = e.d5)) (.left (decide (e.k = e.k)) (.left (decide (e.n = e.n)) (.left (decide (e.t = e.t)) (.left (decide (e.a = e.a)) (.left (decide (e.r = e.r)) (.left (decide (e.f = e.f)) (.fork (@decide (e.o = z.o ∧ e.s = z.s ∧ e.d0 = z.d0 ∧ e.d1 = z.d1 ∧ e.d2 = z.d2 ∧ e.d3 = z.d3 ∧ e.d4 = z.d4 ∧ e.d5 = z.d5 ∧ e.k = z.k ∧ e.n = z.n ∧ e.t = z.t ∧ e.a = z.a ∧ e.r = z.r ∧ e.f = z.f) pd) (.stop (Hd.call 61 [.agg [.sint .i64 e.o, .sint .u64 e.s, .sint .u64 e.d0, .sint .u64 e.d1, .sint .u64 e.d2, .sint .u64 e.d3, .sint .u64 e.d4, .sint .u64 e.d5, .sint .u8 e.k, .sint .u64 e.n, .sint .i64 e.t, .sint .i64 e.a, .sint .u64 e.r, .sint .u64 e.f]]) [] ([])) (.stop (Hd.leaf (.bool false)) [] ([]))))))))))))))))) (by kernel_rfl) ?_
      refine hl (bc fun h16 => by omega) ?_
      refine hl (bc fun h16 => by omega) ?_
      refine hl (bc fun h16 => by omega) ?_
      refine hl (bc fun h16 => by omega) ?_
      refine hl (bc fun h16 => by omega) ?_
      refine hl (bc fun h16 => by omega) ?_
      refine hl (bc fun h16 => by omega) ?_
      refine hl (bc fun h16 => by omega) ?_
      refine hl (bc fun h16 => by omega) ?_
      refine hl (bc fun h16 => by omega) ?_
      refine hl (bc fun h16 => by omega) ?_
      refine hl (bc fun h16 => by omega) ?_
      refine hl (bc fun h16 => by omega) ?_
      refine hl (bc fun h16 => by omega) ?_
      refine hold_forkD (fun h16 => ?_) (fun h16 => ?_)
      ·
       refine hold_stop (fun hd hb => ?_)
       refine ok_call0 hd (rfields e) rfl ?_
       rintro x G ⟨rfl, ⟨rfl, fl⟩ | ⟨rfl, fl⟩⟩ <;> refine ⟨rfl, fun g hg => (by cases hg), ?_⟩
       ·
        refine ok_sk (.stop []) (S := .stop (Hd.leaf (.bool true)) [] ([])) (by kernel_rfl) ?_
        refine hold_stop (fun hd hb => ?_)
        exact ok_leaf0 hd rfl ⟨rfl, .inl ⟨rfl, by unfold EvI.at_; omega, ev_mf hr0 ow (by omega) fl⟩⟩
       refine ok_sk (.stop []) (S := .stop (Hd.leaf (.bool false)) [] ([])) (by kernel_rfl) ?_
       refine hold_stop (fun hd hb => ?_)
       exact ok_leaf0 hd rfl ⟨rfl, .inr ⟨rfl, fun hm => fl (mf_fl hr0 hm.2)⟩⟩
      refine hold_stop (fun hd hb => ?_)
      exact ok_leaf0 hd rfl ⟨rfl, .inr ⟨rfl, fun hm => absurd (mf_eq ow hm.2) (by assumption)⟩⟩
     refine hold_stop (fun hd hb => ?_)
     exact ok_leaf0 hd rfl ⟨rfl, .inr ⟨rfl, fun hm => by have hm := hm.1; unfold EvI.at_ at hm; omega⟩⟩
    refine hl (bc fun h9 => by omega) ?_
    refine hl (bc fun h9 => by omega) ?_
    refine hold_forkD (fun h9 => ?_) (fun h9 => ?_)
    ·
     refine hzr (fun h10 => by omega) ?_
     refine hold_forkD (fun h10 => ?_) (fun h10 => ?_)
     ·
      refine hold_stop (fun hd hb => ?_)
      exact ok_leaf0 hd rfl ⟨rfl, .inr ⟨rfl, fun hm => by have hm := hm.1; unfold EvI.at_ at hm; omega⟩⟩
     refine hold_forkD (fun h11 => ?_) (fun h11 => ?_)
     ·
      refine hold_stop (fun hd hb => ?_)
      exact ok_leaf0 hd rfl ⟨rfl, .inr ⟨rfl, fun hm => by have hm := hm.1; unfold EvI.at_ at hm; omega⟩⟩
     refine hold_forkD (fun h12 => ?_) (fun h12 => ?_)
     ·
      refine hold_stop (fun hd hb => ?_)
      exact ok_leaf0 hd rfl ⟨rfl, .inr ⟨rfl, fun hm => by have hm := hm.1; unfold EvI.at_ at hm; omega⟩⟩
     refine hold_forkD (fun h13 => ?_) (fun h13 => ?_)
     ·
      refine hold_stop (fun hd hb => ?_)
      exact ok_leaf0 hd rfl ⟨rfl, .inr ⟨rfl, fun hm => by have hm := hm.1; unfold EvI.at_ at hm; omega⟩⟩
     refine hold_forkD (fun h14 => ?_) (fun h14 => ?_)
     ·
      refine hold_stop (fun hd hb => ?_)
      exact ok_leaf0 hd rfl ⟨rfl, .inr ⟨rfl, fun hm => by have hm := hm.1; unfold EvI.at_ at hm; omega⟩⟩
     refine hold_stop (fun hd hb => ?_)
     refine ok_call0 hd (rown e) rfl ?_
     rintro x G ⟨rfl, z, rfl, ow⟩
     refine ⟨rfl, fun g hg => (by cases hg), ?_⟩
     refine ok_sk (.l (.l (.l (.l (.l (.l (.l (.l (.l (.l (.l (.l (.l (.l (.both (.stop []) (.stop [])))))))))))))))) (S := .left (decide (e.o = e.o)) (.left (decide (e.s = e.s)) (.left (decide (e.d0 = e.d0)) (.left (decide (e.d1 = e.d1)) (.left (decide (e.d2 = e.d2)) (.left (decide (e.d3 = e.d3)) (.left (decide (e.d4 = e.d4)) (.left (decide (e.d5 = e.d5)) (.left (decide (e.k = e.k)) (.left (decide (e.n = e.n)) (.left (decide (e.t = e.t)) (.left (decide (e.a = e.a)) (.left (decide (e.r = e.r)) (.left (decide (e.f = e.f)) (.fork (@decide (e.o = z.o ∧ e.s = z.s ∧ e.d0 = z.d0 ∧ e.d1 = z.d1 ∧ e.d2 = z.d2 ∧ e.d3 = z.d3 ∧ e.d4 = z.d4 ∧ e.d5 = z.d5 ∧ e.k = z.k ∧ e.n = z.n ∧ e.t = z.t ∧ e.a = z.a ∧ e.r = z.r ∧ e.f = z.f) pd) (.stop (Hd.call 61 [.agg [.sint .i64 e.o, .sint .u64 e.s, .sint .u64 e.d0, .sint .u64 e.d1, .sint .u64 e.d2, .sint .u64 e.d3, .sint .u64 e.d4, .sint .u64 e.d5, .sint .u8 e.k, .sint .u64 e.n, .sint .i64 e.t, .sint .i64 e.a, .sint .u64 e.r, .sint .u64 e.f]]) [] ([])) (.stop (Hd.leaf (.bool false)) [] ([]))))))))))))))))) (by kernel_rfl) ?_
     refine hl (bc fun h16 => by omega) ?_
     refine hl (bc fun h16 => by omega) ?_
     refine hl (bc fun h16 => by omega) ?_
     refine hl (bc fun h16 => by omega) ?_
     refine hl (bc fun h16 => by omega) ?_
     refine hl (bc fun h16 => by omega) ?_
     refine hl (bc fun h16 => by omega) ?_
     refine hl (bc fun h16 => by omega) ?_
     refine hl (bc fun h16 => by omega) ?_
     refine hl (bc fun h16 => by omega) ?_
     refine hl (bc fun h16 => by omega) ?_
     refine hl (bc fun h16 => by omega) ?_
     refine hl (bc fun h16 => by omega) ?_
     refine hl (bc fun h16 => by omega) ?_
     refine hold_forkD (fun h16 => ?_) (fun h16 => ?_)
     ·
      refine hold_stop (fun hd hb => ?_)
      refine ok_call0 hd (rfields e) rfl ?_
      rintro x G ⟨rfl, ⟨rfl, fl⟩ | ⟨rfl, fl⟩⟩ <;> refine ⟨rfl, fun g hg => (by cases hg), ?_⟩
      ·
       refine ok_sk (.stop []) (S := .stop (Hd.leaf (.bool true)) [] ([])) (by kernel_rfl) ?_
       refine hold_stop (fun hd hb => ?_)
       exact ok_leaf0 hd rfl ⟨rfl, .inl ⟨rfl, by unfold EvI.at_; omega, ev_mf hr0 ow (by omega) fl⟩⟩
      refine ok_sk (.stop []) (S := .stop (Hd.leaf (.bool false)) [] ([])) (by kernel_rfl) ?_
      refine hold_stop (fun hd hb => ?_)
      exact ok_leaf0 hd rfl ⟨rfl, .inr ⟨rfl, fun hm => fl (mf_fl hr0 hm.2)⟩⟩
     refine hold_stop (fun hd hb => ?_)
     exact ok_leaf0 hd rfl ⟨rfl, .inr ⟨rfl, fun hm => absurd (mf_eq ow hm.2) (by assumption)⟩⟩
    refine hold_stop (fun hd hb => ?_)
    exact ok_leaf0 hd rfl ⟨rfl, .inr ⟨rfl, fun hm => by have hm := hm.1; unfold EvI.at_ at hm; omega⟩⟩
   refine hold_stop (fun hd hb => ?_)
   exact ok_leaf0 hd rfl ⟨rfl, .inr ⟨rfl, fun hm => by have hm := hm.1; unfold EvI.at_ at hm; omega⟩⟩
  refine hold_stop (fun hd hb => ?_)
  exact ok_leaf0 hd rfl ⟨rfl, .inr ⟨rfl, fun hm => by have hm := hm.1; unfold EvI.at_ at hm; omega⟩⟩
end Go.Proofs.Ytjihbjjekhncaaa
namespace Go.Proofs.Ytjihbjjekhncaaa
open Go Go.RowKit Sv
set_option linter.unusedVariables false
set_option maxRecDepth 100000
set_option maxHeartbeats 0
def EvI.byD (e : EvI) : List Int := [e.o % 256] ++ be8d e.s ++ be8d e.d0 ++ be8d e.d1 ++ be8d e.d2 ++ be8d e.d3 ++ be8d e.d4 ++ be8d e.d5 ++ [e.k] ++ be8d e.n ++ [e.t % 256] ++ be8d e.a ++ be8d e.r ++ be8d e.f
theorem rput0 (e : EvI) (hr : e.rng) : Runs Try.prog 24 [.agg e.row] fun x G => (x = .nilSlice ∧ G = [] ∧ ¬ e.may) ∨ (x = .slice 0 0 91 91 false ∧ G = [.cells (some 1) (e.byD.map cell8)] ∧ e.may) := by
  have hr' := hr
  unfold EvI.rng at hr'
  refine runs_treeF plain mixed (fun g => Nat.beq g 22) (fun _ => false) 60 ?_
  refine ok_sk (.stop []) (S := .stop (Hd.call 22 [.agg [.sint .i64 e.o, .sint .u64 e.s, .sint .u64 e.d0, .sint .u64 e.d1, .sint .u64 e.d2, .sint .u64 e.d3, .sint .u64 e.d4, .sint .u64 e.d5, .sint .u8 e.k, .sint .u64 e.n, .sint .i64 e.t, .sint .i64 e.a, .sint .u64 e.r, .sint .u64 e.f]]) [] ([])) (by kernel_rfl) ?_
  refine hold_stop (fun hd hb => ?_)
  refine ok_call0 hd (rmay e hr) rfl ?_
  rintro x G ⟨rfl, ⟨rfl, my⟩ | ⟨rfl, my⟩⟩ <;> refine ⟨rfl, fun g hg => (by cases hg), ?_⟩
  have m1 := my.1
  have m2 := my.2
  unfold EvI.at_ at m1
  unfold EvI.mf at m2
  ·
   refine ok_sk (.l (.l (.l (.l (.l (.l (.l (.l (.l (.l (.l (.l (.l (.l (.l (.l (.l (.l (.l (.l (.l (.l (.l (.l (.l (.l (.l (.l (.l (.l (.l (.l (.l (.l (.l (.stop [188])))))))))))))))))))))))))))))))))))) (S := .left (decide (e.o % 256 = e.o % 256)) (.left (decide (e.o % 256 = e.o % 256)) (.left (decide (e.o = e.o)) (.left (decide (e.o % 256 = e.o % 256)) (.left (decide (e.o % 256 = e.o % 256)) (.left (decide (e.o = e.o)) (.left (decide (e.k = e.k)) (.left (decide (e.k = e.k)) (.left (decide (e.d0 = e.d0)) (.left (decide (e.d1 = e.d1)) (.left (decide (e.d2 = e.d2)) (.left (decide (e.d3 = e.d3)) (.left (decide (e.d4 = e.d4)) (.left (decide (e.d5 = e.d5)) (.left (decide (e.k = e.k)) (.left (decide (e.k = e.k)) (.left (decide (e.k = e.k)) (.left (decide (e.k = e.k)) (.left (decide (e.t % 256 = e.t % 256)) (.left (decide (e.t % 256 = e.t % 256)) (.left (decide (e.t = e.t)) (.left (decide (e.n = e.n)) (.left (decide (e.t % 256 = e.t % 256)) (.left (decide (e.t % 256 = e.t % 256)) (.left (decide (e.t = e.t)) (.left (decide (e.t % 256 = e.t % 256)) (.left (decide (e.t % 256 = e.t % 256)) (.left (decide (e.t = e.t)) (.left (decide (0 ≤ e.a ∧ e.a ≤ 18446744073709551615)) (.left (decide (e.f = e.f)) (.left (decide (e.r = e.r)) (.left (decide (e.f = e.f)) (.left (decide (e.r = e.r)) (.left (decide (e.f = e.f)) (.left (decide (e.f = e.f)) (.stop (Hd.leaf (.slice 188 0 91 91 false)) [188] ([(some (Blk.cells 18 (some 1) [.sint .u8 (e.o % 256), .sint .u8 (e.s / 72057594037927936 % 256), .sint .u8 (e.s / 281474976710656 % 256), .sint .u8 (e.s / 1099511627776 % 256), .sint .u8 (e.s / 4294967296 % 256), .sint .u8 (e.s / 16777216 % 256), .sint .u8 (e.s / 65536 % 256), .sint .u8 (e.s / 256 % 256), .sint .u8 (e.s / 1 % 256), .sint .u8 (e.d0 / 72057594037927936 % 256), .sint .u8 (e.d0 / 281474976710656 % 256), .sint .u8 (e.d0 / 1099511627776 % 256), .sint .u8 (e.d0 / 4294967296 % 256), .sint .u8 (e.d0 / 16777216 % 256), .sint .u8 (e.d0 / 65536 % 256), .sint .u8 (e.d0 / 256 % 256), .sint .u8 (e.d0 / 1 % 256), .sint .u8 (e.d1 / 72057594037927936 % 256), .sint .u8 (e.d1 / 281474976710656 % 256), .sint .u8 (e.d1 / 1099511627776 % 256), .sint .u8 (e.d1 / 4294967296 % 256), .sint .u8 (e.d1 / 16777216 % 256), .sint .u8 (e.d1 / 65536 % 256), .sint .u8 (e.d1 / 256 % 256), .sint .u8 (e.d1 / 1 % 256), .sint .u8 (e.d2 / 72057594037927936 % 256), .sint .u8 (e.d2 / 281474976710656 % 256), .sint .u8 (e.d2 / 1099511627776 % 256), .sint .u8 (e.d2 / 4294967296 % 256), .sint .u8 (e.d2 / 16777216 % 256), .sint .u8 (e.d2 / 65536 % 256), .sint .u8 (e.d2 / 256 % 256), .sint .u8 (e.d2 / 1 % 256), .sint .u8 (e.d3 / 72057594037927936 % 256), .sint .u8 (e.d3 / 281474976710656 % 256), .sint .u8 (e.d3 / 1099511627776 % 256), .sint .u8 (e.d3 / 4294967296 % 256), .sint .u8 (e.d3 / 16777216 % 256), .sint .u8 (e.d3 / 65536 % 256), .sint .u8 (e.d3 / 256 % 256), .sint .u8 (e.d3 / 1 % 256), .sint .u8 (e.d4 / 72057594037927936 % 256), .sint .u8 (e.d4 / 281474976710656 % 256), .sint .u8 (e.d4 / 1099511627776 % 256), .sint .u8 (e.d4 / 4294967296 % 256), .sint .u8 (e.d4 / 16777216 % 256), .sint .u8 (e.d4 / 65536 % 256), .sint .u8 (e.d4 / 256 % 256), .sint .u8 (e.d4 / 1 % 256), .sint .u8 (e.d5 / 72057594037927936 % 256), .sint .u8 (e.d5 / 281474976710656 % 256), .sint .u8 (e.d5 / 1099511627776 % 256), .sint .u8 (e.d5 / 4294967296 % 256), .sint .u8 (e.d5 / 16777216 % 256), .sint .u8 (e.d5 / 65536 % 256), .sint .u8 (e.d5 / 256 % 256), .sint .u8 (e.d5 / 1 % 256), .sint .u8 e.k, .sint .u8 (e.n / 72057594037927936 % 256), .sint .u8 (e.n / 281474976710656 % 256), .sint .u8 (e.n / 1099511627776 % 256), .sint .u8 (e.n / 4294967296 % 256), .sint .u8 (e.n / 16777216 % 256), .sint .u8 (e.n / 65536 % 256), .sint .u8 (e.n / 256 % 256), .sint .u8 (e.n / 1 % 256), .sint .u8 (e.t % 256), .sint .u8 (e.a / 72057594037927936 % 256), .sint .u8 (e.a / 281474976710656 % 256), .sint .u8 (e.a / 1099511627776 % 256), .sint .u8 (e.a / 4294967296 % 256), .sint .u8 (e.a / 16777216 % 256), .sint .u8 (e.a / 65536 % 256), .sint .u8 (e.a / 256 % 256), .sint .u8 (e.a / 1 % 256), .sint .u8 (e.r / 72057594037927936 % 256), .sint .u8 (e.r / 281474976710656 % 256), .sint .u8 (e.r / 1099511627776 % 256), .sint .u8 (e.r / 4294967296 % 256), .sint .u8 (e.r / 16777216 % 256), .sint .u8 (e.r / 65536 % 256), .sint .u8 (e.r / 256 % 256), .sint .u8 (e.r / 1 % 256), .sint .u8 (e.f / 72057594037927936 % 256), .sint .u8 (e.f / 281474976710656 % 256), .sint .u8 (e.f / 1099511627776 % 256), .sint .u8 (e.f / 4294967296 % 256), .sint .u8 (e.f / 16777216 % 256), .sint .u8 (e.f / 65536 % 256), .sint .u8 (e.f / 256 % 256), .sint .u8 (e.f / 1 % 256)]), none)]))))))))))))))))))))))))))))))))))))) (by kernel_rfl) ?_
   refine hl (bc fun h1 => by omega) ?_
   refine hl (bc fun h1 => by omega) ?_
   refine hl (bc fun h1 => by omega) ?_
   refine hl (bc fun h1 => by omega) ?_
   refine hl (bc fun h1 => by omega) ?_
   refine hl (bc fun h1 => by omega) ?_
   refine hl (bc fun h1 => by omega) ?_
   refine hl (bc fun h1 => by omega) ?_
   refine hl (bc fun h1 => by omega) ?_
   refine hl (bc fun h1 => by omega) ?_
   refine hl (bc fun h1 => by omega) ?_
   refine hl (bc fun h1 => by omega) ?_
   refine hl (bc fun h1 => by omega) ?_
   refine hl (bc fun h1 => by omega) ?_
   refine hl (bc fun h1 => by omega) ?_
   refine hl (bc fun h1 => by omega) ?_
   refine hl (bc fun h1 => by omega) ?_
   refine hl (bc fun h1 => by omega) ?_
   refine hl (bc fun h1 => by omega) ?_
   refine hl (bc fun h1 => by omega) ?_
   refine hl (bc fun h1 => by omega) ?_
   refine hl (bc fun h1 => by omega) ?_
   refine hl (bc fun h1 => by omega) ?_
   refine hl (bc fun h1 => by omega) ?_
   refine hl (bc fun h1 => by omega) ?_
   refine hl (bc fun h1 => by omega) ?_
   refine hl (bc fun h1 => by omega) ?_
   refine hl (bc fun h1 => by omega) ?_
   refine hl (bc fun h1 => by omega) ?_
   refine hl (bc fun h1 => by omega) ?_
   refine hl (bc fun h1 => by omega) ?_
   refine hl (bc fun h1 => by omega) ?_
   refine hl (bc fun h1 => by omega) ?_
   refine hl (bc fun h1 => by omega) ?_
   refine hl (bc fun h1 => by omega) ?_
   refine hold_stop (fun hd hb => ?_)
   exact ok_leafC hd hb (y := .slice 0 0 91 91 false) (by simp [fitA]) rfl (.inr ⟨rfl, rfl, my⟩)
  refine ok_sk (.stop []) (S := .stop (Hd.leaf .nilSlice) [] ([])) (by kernel_rfl) ?_
  refine hold_stop (fun hd hb => ?_)
  exact ok_leaf0 hd rfl (.inl ⟨rfl, rfl, my⟩)
theorem rnum (n : Nat) (y : Nat → Nat) (a : Nat) (h : a + 8 ≤ n ∧ n ≤ 1099511627776) : Runs Try.prog 56 [.data 1 n (by8 y), .sint .i64 (a : Int)] fun x G => x = .sint .u64 (n8 fun i => y (a + i)) ∧ G = [] ∧ 0 ≤ n8 (fun i => y (a + i)) ∧ n8 (fun i => y (a + i)) ≤ 18446744073709551615 := by
  refine runs_treeF plain mixed (fun _ => false) (fun _ => false) 60 ?_
  refine ok_sk (.l (.l (.l (.l (.l (.l (.l (.l (.l (.l (.l (.l (.l (.l (.l (.l (.l (.l (.l (.l (.l (.l (.l (.l (.l (.l (.l (.l (.l (.l (.l (.l (.l (.l (.l (.l (.l (.l (.l (.stop [])))))))))))))))))))))))))))))))))))))))) (S := .left (decide ((-9223372036854775808 : Int) ≤ (↑a : Int) + 0 ∧ (↑a : Int) + 0 ≤ 9223372036854775807)) (.left (decide (0 ≤ (↑a : Int) + 0 ∧ ((↑a : Int) + 0).toNat < n)) (.left (decide (0 ≤ (↑(y ((↑a : Int) + 0).toNat % 256) : Int) ∧ (↑(y ((↑a : Int) + 0).toNat % 256) : Int) ≤ 18446744073709551615)) (.left (decide ((0 : Int) ≤ 0 ∧ (0 : Int) = 0 ∧ (0 : Int) ≤ 18446744073709551360 ∧ 0 ≤ (↑(y ((↑a : Int) + 0).toNat % 256) : Int) ∧ (↑(y ((↑a : Int) + 0).toNat % 256) : Int) < 256)) (.left (decide ((0 : Int) ≤ ((0 : Int) + (↑(y ((↑a : Int) + 0).toNat % 256) : Int)) * 256 ∧ ((0 : Int) + (↑(y ((↑a : Int) + 0).toNat % 256) : Int)) * 256 ≤ 18446744073709551615)) (.left (decide ((-9223372036854775808 : Int) ≤ (↑a : Int) + 1 ∧ (↑a : Int) + 1 ≤ 9223372036854775807)) (.left (decide (0 ≤ (↑a : Int) + 1 ∧ ((↑a : Int) + 1).toNat < n)) (.left (decide (0 ≤ (↑(y ((↑a : Int) + 1).toNat % 256) : Int) ∧ (↑(y ((↑a : Int) + 1).toNat % 256) : Int) ≤ 18446744073709551615)) (.left (decide ((0 : Int) ≤ ((0 : Int) + (↑(y ((↑a : Int) + 0).toNat % 256) : Int)) * 256 ∧ ((0 : Int) + (↑(y ((↑a : Int) + 0).toNat % 256) : Int)) * 256 % 256 = 0 ∧ ((0 : Int) + (↑(y ((↑a : Int) + 0).toNat % 256) : Int)) * 256 ≤ 18446744073709551360 ∧ 0 ≤ (↑(y ((↑a : Int) + 1).toNat % 256) : Int) ∧ (↑(y ((↑a : Int) + 1).toNat % 256) : Int) < 256)) (.left (decide ((0 : Int) ≤ (((0 : Int) + (↑(y ((↑a : Int) + 0).toNat % 256) : Int)) * 256 + (↑(y ((↑a : Int) + 1).toNat % 256) : Int)) * 256 ∧ (((0 : Int) + (↑(y ((↑a : Int) + 0).toNat % 256) : Int)) * 256 + (↑(y ((↑a : Int) + 1).toNat % 256) : Int)) * 256 ≤ 18446744073709551615)) (.left (decide ((-9223372036854775808 : Int) ≤ (↑a : Int) + 2 ∧ (↑a : Int) + 2 ≤ 9223372036854775807)) (.left (decide (0 ≤ (↑a : Int) + 2 ∧ ((↑a : Int) + 2).toNat < n)) (.left (decide (0 ≤ (↑(y ((↑a : Int) + 2).toNat % 256) : Int) ∧ (↑(y ((↑a : Int) + 2).toNat % 256) : Int) ≤ 18446744073709551615)) (.left (decide ((0 : Int) ≤ (((0 : Int) + (↑(y ((↑a : Int) + 0).toNat % 256) : Int)) * 256 + (↑(y ((↑a : Int) + 1).toNat % 256) : Int)) * 256 ∧ (((0 : Int) + (↑(y ((↑a : Int) + 0).toNat % 256) : Int)) * 256 + (↑(y ((↑a : Int) + 1).toNat % 256) : Int)) * 256 % 256 = 0 ∧ (((0 : Int) + (↑(y ((↑a : Int) + 0).toNat % 256) : Int)) * 256 + (↑(y ((↑a : Int) + 1).toNat % 256) : Int)) * 256 ≤ 18446744073709551360 ∧ 0 ≤ (↑(y ((↑a : Int) + 2).toNat % 256) : Int) ∧ (↑(y ((↑a : Int) + 2).toNat % 256) : Int) < 256)) (.left (decide ((0 : Int) ≤ ((((0 : Int) + (↑(y ((↑a : Int) + 0).toNat % 256) : Int)) * 256 + (↑(y ((↑a : Int) + 1).toNat % 256) : Int)) * 256 + (↑(y ((↑a : Int) + 2).toNat % 256) : Int)) * 256 ∧ ((((0 : Int) + (↑(y ((↑a : Int) + 0).toNat % 256) : Int)) * 256 + (↑(y ((↑a : Int) + 1).toNat % 256) : Int)) * 256 + (↑(y ((↑a : Int) + 2).toNat % 256) : Int)) * 256 ≤ 18446744073709551615)) (.left (decide ((-9223372036854775808 : Int) ≤ (↑a : Int) + 3 ∧ (↑a : Int) + 3 ≤ 9223372036854775807)) (.left (decide (0 ≤ (↑a : Int) + 3 ∧ ((↑a : Int) + 3).toNat < n)) (.left (decide (0 ≤ (↑(y ((↑a : Int) + 3).toNat % 256) : Int) ∧ (↑(y ((↑a : Int) + 3).toNat % 256) : Int) ≤ 18446744073709551615)) (.left (decide ((0 : Int) ≤ ((((0 : Int) + (↑(y ((↑a : Int) + 0).toNat % 256) : Int)) * 256 + (↑(y ((↑a : Int) + 1).toNat % 256) : Int)) * 256 + (↑(y ((↑a : Int) + 2).toNat % 256) : Int)) * 256 ∧ ((((0 : Int) + (↑(y ((↑a : Int) + 0).toNat % 256) : Int)) * 256 + (↑(y ((↑a : Int) + 1).toNat % 256) : Int)) * 256 + (↑(y ((↑a : Int) + 2).toNat % 256) : Int)) * 256 % 256 = 0 ∧ ((((0 : Int) + (↑(y ((↑a : Int) + 0).toNat % 256) : Int)) * 256 + (↑(y ((↑a : Int) + 1).toNat % 256) : Int)) * 256 + (↑(y ((↑a : Int) + 2).toNat % 256) : Int)) * 256 ≤ 18446744073709551360 ∧ 0 ≤ (↑(y ((↑a : Int) + 3).toNat % 256) : Int) ∧ (↑(y ((↑a : Int) + 3).toNat % 256) : Int) < 256)) (.left (decide ((0 : Int) ≤ (((((0 : Int) + (↑(y ((↑a : Int) + 0).toNat % 256) : Int)) * 256 + (↑(y ((↑a : Int) + 1).toNat % 256) : Int)) * 256 + (↑(y ((↑a : Int) + 2).toNat % 256) : Int)) * 256 + (↑(y ((↑a : Int) + 3).toNat % 256) : Int)) * 256 ∧ (((((0 : Int) + (↑(y ((↑a : Int) + 0).toNat % 256) : Int)) * 256 + (↑(y ((↑a : Int) + 1).toNat % 256) : Int)) * 256 + (↑(y ((↑a : Int) + 2).toNat % 256) : Int)) * 256 + (↑(y ((↑a : Int) + 3).toNat % 256) : Int)) * 256 ≤ 18446744073709551615)) (.left (decide ((-9223372036854775808 : Int) ≤ (↑a : Int) + 4 ∧ (↑a : Int) + 4 ≤ 9223372036854775807)) (.left (decide (0 ≤ (↑a : Int) + 4 ∧ ((↑a : Int) + 4).toNat < n)) (.left (decide (0 ≤ (↑(y ((↑a : Int) + 4).toNat % 256) : Int) ∧ (↑(y ((↑a : Int) + 4).toNat % 256) : Int) ≤ 18446744073709551615)) (.left (decide ((0 : Int) ≤ (((((0 : Int) + (↑(y ((↑a : Int) + 0).toNat % 256) : Int)) * 256 + (↑(y ((↑a : Int) + 1).toNat % 256) : Int)) * 256 + (↑(y ((↑a : Int) + 2).toNat % 256) : Int)) * 256 + (↑(y ((↑a : Int) + 3).toNat % 256) : Int)) * 256 ∧ (((((0 : Int) + (↑(y ((↑a : Int) + 0).toNat % 256) : Int)) * 256 + (↑(y ((↑a : Int) + 1).toNat % 256) : Int)) * 256 + (↑(y ((↑a : Int) + 2).toNat % 256) : Int)) * 256 + (↑(y ((↑a : Int) + 3).toNat % 256) : Int)) * 256 % 256 = 0 ∧ (((((0 : Int) + (↑(y ((↑a : Int) + 0).toNat % 256) : Int)) * 256 + (↑(y ((↑a : Int) + 1).toNat % 256) : Int)) * 256 + (↑(y ((↑a : Int) + 2).toNat % 256) : Int)) * 256 + (↑(y ((↑a : Int) + 3).toNat % 256) : Int)) * 256 ≤ 18446744073709551360 ∧ 0 ≤ (↑(y ((↑a : Int) + 4).toNat % 256) : Int) ∧ (↑(y ((↑a : Int) + 4).toNat % 256) : Int) < 256)) (.left (decide ((0 : Int) ≤ ((((((0 : Int) + (↑(y ((↑a : Int) + 0).toNat % 256) : Int)) * 256 + (↑(y ((↑a : Int) + 1).toNat % 256) : Int)) * 256 + (↑(y ((↑a : Int) + 2).toNat % 256) : Int)) * 256 + (↑(y ((↑a : Int) + 3).toNat % 256) : Int)) * 256 + (↑(y ((↑a : Int) + 4).toNat % 256) : Int)) * 256 ∧ ((((((0 : Int) + (↑(y ((↑a : Int) + 0).toNat % 256) : Int)) * 256 + (↑(y ((↑a : Int) + 1).toNat % 256) : Int)) * 256 + (↑(y ((↑a : Int) + 2).toNat % 256) : Int)) * 256 + (↑(y ((↑a : Int) + 3).toNat % 256) : Int)) * 256 + (↑(y ((↑a : Int) + 4).toNat % 256) : Int)) * 256 ≤ 18446744073709551615)) (.left (decide ((-9223372036854775808 : Int) ≤ (↑a : Int) + 5 ∧ (↑a : Int) + 5 ≤ 9223372036854775807)) (.left (decide (0 ≤ (↑a : Int) + 5 ∧ ((↑a : Int) + 5).toNat < n)) (.left (decide (0 ≤ (↑(y ((↑a : Int) + 5).toNat % 256) : Int) ∧ (↑(y ((↑a : Int) + 5).toNat % 256) : Int) ≤ 18446744073709551615)) (.left (decide ((0 : Int) ≤ ((((((0 : Int) + (↑(y ((↑a : Int) + 0).toNat % 256) : Int)) * 256 + (↑(y ((↑a : Int) + 1).toNat % 256) : Int)) * 256 + (↑(y ((↑a : Int) + 2).toNat % 256) : Int)) * 256 + (↑(y ((↑a : Int) + 3).toNat % 256) : Int)) * 256 + (↑(y ((↑a : Int) + 4).toNat % 256) : Int)) * 256 ∧ ((((((0 : Int) + (↑(y ((↑a : Int) + 0).toNat % 256) : Int)) * 256 + (↑(y ((↑a : Int) + 1).toNat % 256) : Int)) * 256 + (↑(y ((↑a : Int) + 2).toNat % 256) : Int)) * 256 + (↑(y ((↑a : Int) + 3).toNat % 256) : Int)) * 256 + (↑(y ((↑a : Int) + 4).toNat % 256) : Int)) * 256 % 256 = 0 ∧ ((((((0 : Int) + (↑(y ((↑a : Int) + 0).toNat % 256) : Int)) * 256 + (↑(y ((↑a : Int) + 1).toNat % 256) : Int)) * 256 + (↑(y ((↑a : Int) + 2).toNat % 256) : Int)) * 256 + (↑(y ((↑a : Int) + 3).toNat % 256) : Int)) * 256 + (↑(y ((↑a : Int) + 4).toNat % 256) : Int)) * 256 ≤ 18446744073709551360 ∧ 0 ≤ (↑(y ((↑a : Int) + 5).toNat % 256) : Int) ∧ (↑(y ((↑a : Int) + 5).toNat % 256) : Int) < 256)) (.left (decide ((0 : Int) ≤ (((((((0 : Int) + (↑(y ((↑a : Int) + 0).toNat % 256) : Int)) * 256 + (↑(y ((↑a : Int) + 1).toNat % 256) : Int)) * 256 + (↑(y ((↑a : Int) + 2).toNat % 256) : Int)) * 256 + (↑(y ((↑a : Int) + 3).toNat % 256) : Int)) * 256 + (↑(y ((↑a : Int) + 4).toNat % 256) : Int)) * 256 + (↑(y ((↑a : Int) + 5).toNat % 256) : Int)) * 256 ∧ (((((((0 : Int) + (↑(y ((↑a : Int) + 0).toNat % 256) : Int)) * 256 + (↑(y ((↑a : Int) + 1).toNat % 256) : Int)) * 256 + (↑(y ((↑a : Int) + 2).toNat % 256) : Int)) * 256 + (↑(y ((↑a : Int) + 3).toNat % 256) : Int)) * 256 + (↑(y ((↑a : Int) + 4).toNat % 256) : Int)) * 256 + (↑(y ((↑a : Int) + 5).toNat % 256) : Int)) * 256 ≤ 18446744073709551615)) (.left (decide ((-9223372036854775808 : Int) ≤ (↑a : Int) + 6 ∧ (↑a : Int) + 6 ≤ 9223372036854775807)) (.left (decide (0 ≤ (↑a : Int) + 6 ∧ ((↑a : Int) + 6).toNat < n)) (.left (decide (0 ≤ (↑(y ((↑a : Int) + 6).toNat % 256) : Int) ∧ (↑(y ((↑a : Int) + 6).toNat % 256) : Int) ≤ 18446744073709551615)) (.left (decide ((0 : Int) ≤ (((((((0 : Int) + (↑(y ((↑a : Int) + 0).toNat % 256) : Int)) * 256 + (↑(y ((↑a : Int) + 1).toNat % 256) : Int)) * 256 + (↑(y ((↑a : Int) + 2).toNat % 256) : Int)) * 256 + (↑(y ((↑a : Int) + 3).toNat % 256) : Int)) * 256 + (↑(y ((↑a : Int) + 4).toNat % 256) : Int)) * 256 + (↑(y ((↑a : Int) + 5).toNat % 256) : Int)) * 256 ∧ (((((((0 : Int) + (↑(y ((↑a : Int) + 0).toNat % 256) : Int)) * 256 + (↑(y ((↑a : Int) + 1).toNat % 256) : Int)) * 256 + (↑(y ((↑a : Int) + 2).toNat % 256) : Int)) * 256 + (↑(y ((↑a : Int) + 3).toNat % 256) : Int)) * 256 + (↑(y ((↑a : Int) + 4).toNat % 256) : Int)) * 256 + (↑(y ((↑a : Int) + 5).toNat % 256) : Int)) * 256 % 256 = 0 ∧ (((((((0 : Int) + (↑(y ((↑a : Int) + 0).toNat % 256) : Int)) * 256 + (↑(y ((↑a : Int) + 1).toNat % 256) : Int)) * 256 + (↑(y ((↑a : Int) + 2).toNat % 256) : Int)) * 256 + (↑(y ((↑a : Int) + 3).toNat % 256) : Int)) * 256 + (↑(y ((↑a : Int) + 4).toNat % 256) : Int)) * 256 + (↑(y ((↑a : Int) + 5).toNat % 256) : Int)) * 256 ≤ 18446744073709551360 ∧ 0 ≤ (↑(y ((↑a : Int) + 6).toNat % 256) : Int) ∧ (↑(y ((↑a : Int) + 6).toNat % 256) : Int) < 256)) (.left (decide ((0 : Int) ≤ ((((((((0 : Int) + (↑(y ((↑a : Int) + 0).toNat % 256) : Int)) * 256 + (↑(y ((↑a : Int) + 1).toNat % 256) : Int)) * 256 + (↑(y ((↑a : Int) + 2).toNat % 256) : Int)) * 256 + (↑(y ((↑a : Int) + 3).toNat % 256) : Int)) * 256 + (↑(y ((↑a : Int) + 4).toNat % 256) : Int)) * 256 + (↑(y ((↑a : Int) + 5).toNat % 256) : Int)) * 256 + (↑(y ((↑a : Int) + 6).toNat % 256) : Int)) * 256 ∧ ((((((((0 : Int) + (↑(y ((↑a : Int) + 0).toNat % 256) : Int)) * 256 + (↑(y ((↑a : Int) + 1).toNat % 256) : Int)) * 256 + (↑(y ((↑a : Int) + 2).toNat % 256) : Int)) * 256 + (↑(y ((↑a : Int) + 3).toNat % 256) : Int)) * 256 + (↑(y ((↑a : Int) + 4).toNat % 256) : Int)) * 256 + (↑(y ((↑a : Int) + 5).toNat % 256) : Int)) * 256 + (↑(y ((↑a : Int) + 6).toNat % 256) : Int)) * 256 ≤ 18446744073709551615)) (.left (decide ((-9223372036854775808 : Int) ≤ (↑a : Int) + 7 ∧ (↑a : Int) + 7 ≤ 9223372036854775807)) (.left (decide (0 ≤ (↑a : Int) + 7 ∧ ((↑a : Int) + 7).toNat < n)) (.left (decide (0 ≤ (↑(y ((↑a : Int) + 7).toNat % 256) : Int) ∧ (↑(y ((↑a : Int) + 7).toNat % 256) : Int) ≤ 18446744073709551615)) (.left (decide ((0 : Int) ≤ ((((((((0 : Int) + (↑(y ((↑a : Int) + 0).toNat % 256) : Int)) * 256 + (↑(y ((↑a : Int) + 1).toNat % 256) : Int)) * 256 + (↑(y ((↑a : Int) + 2).toNat % 256) : Int)) * 256 + (↑(y ((↑a : Int) + 3).toNat % 256) : Int)) * 256 + (↑(y ((↑a : Int) + 4).toNat % 256) : Int)) * 256 + (↑(y ((↑a : Int) + 5).toNat % 256) : Int)) * 256 + (↑(y ((↑a : Int) + 6).toNat % 256) : Int)) * 256 ∧ ((((((((0 : Int) + (↑(y ((↑a : Int) + 0).toNat % 256) : Int)) * 256 + (↑(y ((↑a : Int) + 1).toNat % 256) : Int)) * 256 + (↑(y ((↑a : Int) + 2).toNat % 256) : Int)) * 256 + (↑(y ((↑a : Int) + 3).toNat % 256) : Int)) * 256 + (↑(y ((↑a : Int) + 4).toNat % 256) : Int)) * 256 + (↑(y ((↑a : Int) + 5).toNat % 256) : Int)) * 256 + (↑(y ((↑a : Int) + 6).toNat % 256) : Int)) * 256 % 256 = 0 ∧ ((((((((0 : Int) + (↑(y ((↑a : Int) + 0).toNat % 256) : Int)) * 256 + (↑(y ((↑a : Int) + 1).toNat % 256) : Int)) * 256 + (↑(y ((↑a : Int) + 2).toNat % 256) : Int)) * 256 + (↑(y ((↑a : Int) + 3).toNat % 256) : Int)) * 256 + (↑(y ((↑a : Int) + 4).toNat % 256) : Int)) * 256 + (↑(y ((↑a : Int) + 5).toNat % 256) : Int)) * 256 + (↑(y ((↑a : Int) + 6).toNat % 256) : Int)) * 256 ≤ 18446744073709551360 ∧ 0 ≤ (↑(y ((↑a : Int) + 7).toNat % 256) : Int) ∧ (↑(y ((↑a : Int) + 7).toNat % 256) : Int) < 256)) (.stop (Hd.leaf (.sint .u64 (((((((((0 : Int) + (↑(y ((↑a : Int) + 0).toNat % 256) : Int)) * 256 + (↑(y ((↑a : Int) + 1).toNat % 256) : Int)) * 256 + (↑(y ((↑a : Int) + 2).toNat % 256) : Int)) * 256 + (↑(y ((↑a : Int) + 3).toNat % 256) : Int)) * 256 + (↑(y ((↑a : Int) + 4).toNat % 256) : Int)) * 256 + (↑(y ((↑a : Int) + 5).toNat % 256) : Int)) * 256 + (↑(y ((↑a : Int) + 6).toNat % 256) : Int)) * 256 + (↑(y ((↑a : Int) + 7).toNat % 256) : Int)))) [] ([]))))))))))))))))))))))))))))))))))))))))) (by kernel_rfl) ?_
  refine hl (bc fun h0 => by omega) ?_
  refine hl (bc fun h0 => by omega) ?_
  refine hl (bc fun h0 => by omega) ?_
  refine hl (bc fun h0 => by omega) ?_
  refine hl (bc fun h0 => by omega) ?_
  refine hl (bc fun h0 => by omega) ?_
  refine hl (bc fun h0 => by omega) ?_
  refine hl (bc fun h0 => by omega) ?_
  refine hl (bc fun h0 => by omega) ?_
  refine hl (bc fun h0 => by omega) ?_
  refine hl (bc fun h0 => by omega) ?_
  refine hl (bc fun h0 => by omega) ?_
  refine hl (bc fun h0 => by omega) ?_
  refine hl (bc fun h0 => by omega) ?_
  refine hl (bc fun h0 => by omega) ?_
  refine hl (bc fun h0 => by omega) ?_
  refine hl (bc fun h0 => by omega) ?_
  refine hl (bc fun h0 => by omega) ?_
  refine hl (bc fun h0 => by omega) ?_
  refine hl (bc fun h0 => by omega) ?_
  refine hl (bc fun h0 => by omega) ?_
  refine hl (bc fun h0 => by omega) ?_
  refine hl (bc fun h0 => by omega) ?_
  refine hl (bc fun h0 => by omega) ?_
  refine hl (bc fun h0 => by omega) ?_
  refine hl (bc fun h0 => by omega) ?_
  refine hl (bc fun h0 => by omega) ?_
  refine hl (bc fun h0 => by omega) ?_
  refine hl (bc fun h0 => by omega) ?_
  refine hl (bc fun h0 => by omega) ?_
  refine hl (bc fun h0 => by omega) ?_
  refine hl (bc fun h0 => by omega) ?_
  refine hl (bc fun h0 => by omega) ?_
  refine hl (bc fun h0 => by omega) ?_
  refine hl (bc fun h0 => by omega) ?_
  refine hl (bc fun h0 => by omega) ?_
  refine hl (bc fun h0 => by omega) ?_
  refine hl (bc fun h0 => by omega) ?_
  refine hl (bc fun h0 => by omega) ?_
  refine hold_stop (fun hd hb => ?_)
  exact ok_leaf0 hd rfl ⟨rfl, rfl, n8_bd _⟩
end Go.Proofs.Ytjihbjjekhncaaa
namespace Go.Proofs.Ytjihbjjekhncaaa
open Go Go.RowKit Sv
set_option linter.unusedVariables false
set_option maxRecDepth 100000
set_option maxHeartbeats 0
/-- the event that stands at a place, read number by number. -/
def evB (A : Nat) (y : Nat → Nat) : EvI where
  o := b8 (fun i => y (A + i)) 0
  s := n8 fun i => y (A + (1 + i))
  d0 := n8 fun i => y (A + (9 + i))
  d1 := n8 fun i => y (A + (17 + i))
  d2 := n8 fun i => y (A + (25 + i))
  d3 := n8 fun i => y (A + (33 + i))
  d4 := n8 fun i => y (A + (41 + i))
  d5 := n8 fun i => y (A + (49 + i))
  k := b8 (fun i => y (A + i)) 57
  n := n8 fun i => y (A + (58 + i))
  t := b8 (fun i => y (A + i)) 66
  a := n8 fun i => y (A + (67 + i))
  r := n8 fun i => y (A + (75 + i))
  f := n8 fun i => y (A + (83 + i))
def evBw (A : Nat) (y : Nat → Nat) : EvI := { evB A y with a := IntKind.i64.wrap (n8 fun i => y (A + (67 + i))) }
theorem n8_ext {y z : Nat → Nat} (h : ∀ i, y i = z i) : n8 y = n8 z := by rw [funext h]
theorem evB_eq (A : Nat) (y : Nat → Nat) : evB A y = evAt A y := by
  unfold evB evAt
  rw [EvI.mk.injEq]
  refine ⟨?_, rfl, n8_ext fun i => congrArg y (by omega), n8_ext fun i => congrArg y (by omega), n8_ext fun i => congrArg y (by omega), n8_ext fun i => congrArg y (by omega), n8_ext fun i => congrArg y (by omega), n8_ext fun i => congrArg y (by omega), ?_, n8_ext fun i => congrArg y (by omega), ?_, n8_ext fun i => congrArg y (by omega), n8_ext fun i => congrArg y (by omega), n8_ext fun i => congrArg y (by omega)⟩
  · rw [Int.zero_add]
  · show ((y (A + 57) % 256 : Nat) : Int) = (0 + ((y (A + 57) % 256 : Nat) : Int)) % 256
    omega
  · show ((y (A + 66) % 256 : Nat) : Int) = 0 + ((y (A + 66) % 256 : Nat) : Int)
    omega
theorem evBw_no (A : Nat) (y : Nat → Nat) (h : ¬ (-9223372036854775808 ≤ n8 (fun i => y (A + (67 + i))) ∧ n8 (fun i => y (A + (67 + i))) ≤ 9223372036854775807)) : ¬ (evBw A y).may ∧ ¬ (evB A y).may := by
  have b := n8_bd (fun i => y (A + (67 + i)))
  have e : (evBw A y).a = IntKind.i64.wrap (n8 (fun i => y (A + (67 + i)))) := rfl
  have e' : (evB A y).a = n8 (fun i => y (A + (67 + i))) := rfl
  have hw : ∀ z : Int, IntKind.i64.wrap z = (z + 9223372036854775808) % 18446744073709551616 - 9223372036854775808 := fun z => by simp [IntKind.wrap, IntKind.bits, IntKind.signed]; omega
  rw [hw] at e
  refine ⟨fun hm => ?_, fun hm => ?_⟩
  · have h2 := hm.2
    unfold EvI.mf at h2
    omega
  · have h2 := hm.2
    unfold EvI.mf at h2
    omega
theorem b8_255 (y : Nat → Nat) (i : Nat) : 0 ≤ b8 y i ∧ b8 y i ≤ 255 := by
  have := b8_bd y i
  omega
theorem evB_rng (A : Nat) (y : Nat → Nat) : (evB A y).rng := ⟨n8_bd _, n8_bd _, n8_bd _, n8_bd _, n8_bd _, n8_bd _, n8_bd _, b8_255 _ _, n8_bd _, n8_bd _, n8_bd _⟩
theorem evBw_rng (A : Nat) (y : Nat → Nat) : (evBw A y).rng := ⟨n8_bd _, n8_bd _, n8_bd _, n8_bd _, n8_bd _, n8_bd _, n8_bd _, b8_255 _ _, n8_bd _, n8_bd _, n8_bd _⟩
theorem byD_by (e : EvI) (h : 0 ≤ e.k ∧ e.k ≤ 255) : e.byD = e.by := by
  have h0 : ∀ x : Int, be8d x = be8 x := fun x => by
    unfold be8d be8
    rw [Int.ediv_one]
  unfold EvI.byD EvI.by
  simp only [h0]
  rw [show e.k % 256 = e.k by omega]
theorem back91 {n : Nat} (h : n = 91) (A : Nat) (y : Nat → Nat) : (((evB A y).byD.map cell8).map fun x => natOf [x]) = bytesOf n (fun i => by8 y (A + i)) := by
  subst h
  rw [byD_by _ (b8_255 _ _), evB_eq, ev_by, List.map_map, List.map_map]
  exact List.map_congr_left fun i _ => rfl
theorem back91c {n : Nat} {l : List AV} {A : Nat} {y : Nat → Nat} (e : l = (evB A y).byD.map cell8) (h : n = 91) : (l.map fun x => natOf [x]) = bytesOf n (fun i => by8 y (A + i)) := by
  rw [e]
  exact back91 h A y
theorem byteD (e : EvI) (h : 0 ≤ e.k ∧ e.k ≤ 255) : ∀ x ∈ e.byD, 0 ≤ x ∧ x < 256 := by
  have hd : ∀ x : Int, ∀ z ∈ be8d x, 0 ≤ z ∧ z < 256 := fun x z hz => by
    unfold be8d at hz
    simp only [List.mem_cons, List.not_mem_nil, or_false] at hz
    omega
  intro z hz
  unfold EvI.byD at hz
  simp only [List.mem_append, List.mem_singleton] at hz
  rcases hz with ((((((((((((hz | hz) | hz) | hz) | hz) | hz) | hz) | hz) | hz) | hz) | hz) | hz) | hz) | hz <;> first | exact hd _ z hz | (subst hz; omega)
theorem byteLD (e : EvI) (h : 0 ≤ e.k ∧ e.k ≤ 255) : ByteL (e.byD.map cell8) := fun x hx => by
  obtain ⟨z, hz, rfl⟩ := List.mem_map.1 hx
  exact byteD e h z hz
theorem byteL_eq {l l' : List AV} (h : l = l') (k : ByteL l') : ByteL l := h ▸ k
theorem all_b8 (n : Nat) (y : Nat → Nat) : AllBytes n (by8 y) := fun i hi => by
  refine ⟨?_, ?_⟩
  · show (0 : Int) ≤ ((y i % 256 : Nat) : Int)
    omega
  · show ((y i % 256 : Nat) : Int) < 256
    omega
theorem nil_ne {n : Nat} {f : Nat → List AV} (h : 0 < n) (e : ([] : List Nat) = bytesOf n f) : False := by
  have := congrArg List.length e
  simp [bytesOf] at this
  omega
theorem num_call {o lp : Nat → Bool} {n0 : Nat} {R : AV → List NewB → Prop} {t : T} {y : Nat → Nat} {a n : Nat} {K : Int} (hd : t.hd = .call 56 [.data 1 n (fun i => by8 y (a + i)), .int .i64 K]) (h : 0 ≤ K ∧ K + 8 ≤ n ∧ n ≤ 1099511627776)
    (hk : 0 ≤ n8 (fun i => y (a + (K.toNat + i))) ∧ n8 (fun i => y (a + (K.toNat + i))) ≤ 18446744073709551615 → (t.aft (.sint .u64 (n8 fun i => y (a + (K.toNat + i)))) []).ok Try.prog o lp n0 R) : t.ok Try.prog o lp n0 R :=
  ok_call hd (rnum n (fun i => y (a + i)) K.toNat (by omega)) ⟨⟨rfl, rfl⟩, ⟨rfl, by omega⟩, trivial⟩ fun x G h => by
    obtain ⟨rfl, rfl, h1⟩ := h
    exact ⟨rfl, fun g hg => (by cases hg), hk h1⟩
theorem rtake (n : Nat) (y : Nat → Nat) (hn : n ≤ 1099511627776) (a : Int) (ha : 0 ≤ a ∧ a ≤ 1099511627776) : Runs Try.prog 17 [.data 1 n (by8 y), .sint .i64 a] fun x G => G = [] ∧
    ((x = .tuple [.agg (evB a.toNat y).row, .sint .i64 (a + 91), .int .i64 0] ∧ a + 91 ≤ n ∧ (evB a.toNat y).may) ∨ (∃ e, x = .tuple [.agg zrow, .int .i64 0, .int .i64 e] ∧ ((e = 1 ∧ (n : Int) < a) ∨ e = 5) ∧ ¬ (a + 91 ≤ n ∧ (evB a.toNat y).may))) := by
  refine runs_treeF plain mixed (fun g => Nat.beq g 56 || Nat.beq g 24) (fun _ => false) 60 ?_
  refine ok_sk (.r (.both (.stop []) (.l (.both (.stop []) (.l (.l (.l (.l (.l (.l (.l (.l (.l (.l (.l (.l (.l (.l (.l (.l (.l (.l (.l (.l (.l (.l (.l (.l (.l (.l (.l (.l (.stop []))))))))))))))))))))))))))))))))) (S := .right (decide (a < 0)) (.fork (decide ((↑n : Int) < a)) (.stop (Hd.leaf (.tuple [.agg [.int .i64 (0 : Int), .int .u64 (0 : Int), .int .u64 (0 : Int), .int .u64 (0 : Int), .int .u64 (0 : Int), .int .u64 (0 : Int), .int .u64 (0 : Int), .int .u64 (0 : Int), .int .u8 (0 : Int), .int .u64 (0 : Int), .int .i64 (0 : Int), .int .i64 (0 : Int), .int .u64 (0 : Int), .int .u64 (0 : Int)], .int .i64 (0 : Int), .int .i64 (1 : Int)])) [] ([])) (.left (decide ((-9223372036854775808 : Int) ≤ (↑n : Int) - a ∧ (↑n : Int) - a ≤ 9223372036854775807)) (.fork (decide ((↑n : Int) - a < 91)) (.stop (Hd.leaf (.tuple [.agg [.int .i64 (0 : Int), .int .u64 (0 : Int), .int .u64 (0 : Int), .int .u64 (0 : Int), .int .u64 (0 : Int), .int .u64 (0 : Int), .int .u64 (0 : Int), .int .u64 (0 : Int), .int .u8 (0 : Int), .int .u64 (0 : Int), .int .i64 (0 : Int), .int .i64 (0 : Int), .int .u64 (0 : Int), .int .u64 (0 : Int)], .int .i64 (0 : Int), .int .i64 (5 : Int)])) [] ([])) (.left (decide ((-9223372036854775808 : Int) ≤ a + 91 ∧ a + 91 ≤ 9223372036854775807)) (.left (decide (0 ≤ a ∧ a ≤ a + 91 ∧ a + 91 ≤ (↑n : Int))) (.left (decide ((0 : Int) ≤ 0 ∧ 0 < (a + 91).toNat - a.toNat)) (.left (decide ((-9223372036854775808 : Int) ≤ (↑(y (a.toNat + 0) % 256) : Int) ∧ (↑(y (a.toNat + 0) % 256) : Int) ≤ 9223372036854775807)) (.left (decide ((0 : Int) ≤ 57 ∧ 57 < (a + 91).toNat - a.toNat)) (.left (decide ((0 : Int) ≤ 66 ∧ 66 < (a + 91).toNat - a.toNat)) (.left (decide ((-9223372036854775808 : Int) ≤ (↑(y (a.toNat + 66) % 256) : Int) ∧ (↑(y (a.toNat + 66) % 256) : Int) ≤ 9223372036854775807)) (.left (@decide (s3 ((a + 91).toNat - a.toNat) (fun (i : Nat) => by8 y (a.toNat + i))) pd) (.left (@decide (s3 ((a + 91).toNat - a.toNat) (fun (i : Nat) => by8 y (a.toNat + i))) pd) (.left (@decide (s3 ((a + 91).toNat - a.toNat) (fun (i : Nat) => by8 y (a.toNat + i))) pd) (.left (decide ((-9223372036854775808 : Int) ≤ (↑(y (a.toNat + 66) % 256) : Int) ∧ (↑(y (a.toNat + 66) % 256) : Int) ≤ 9223372036854775807)) (.left (decide ((↑(y (a.toNat + 66) % 256) : Int) = (↑(y (a.toNat + 66) % 256) : Int))) (.left (decide ((↑(y (a.toNat + 66) % 256) : Int) = (↑(y (a.toNat + 66) % 256) : Int))) (.left (decide ((0 : Int) ≤ 66 ∧ 66 < (a + 91).toNat - a.toNat)) (.left (decide ((↑(y (a.toNat + 66) % 256) : Int) = (↑(y (a.toNat + 66) % 256) : Int))) (.left (@decide (s3 ((a + 91).toNat - a.toNat) (fun (i : Nat) => by8 y (a.toNat + i))) pd) (.left (@decide (s3 ((a + 91).toNat - a.toNat) (fun (i : Nat) => by8 y (a.toNat + i))) pd) (.left (decide ((↑(y (a.toNat + 57) % 256) : Int) = (↑(y (a.toNat + 57) % 256) : Int))) (.left (decide ((0 : Int) ≤ 57 ∧ 57 < (a + 91).toNat - a.toNat)) (.left (decide ((↑(y (a.toNat + 57) % 256) : Int) = (↑(y (a.toNat + 57) % 256) : Int))) (.left (@decide (s3 ((a + 91).toNat - a.toNat) (fun (i : Nat) => by8 y (a.toNat + i))) pd) (.left (@decide (s3 ((a + 91).toNat - a.toNat) (fun (i : Nat) => by8 y (a.toNat + i))) pd) (.left (decide ((-9223372036854775808 : Int) ≤ (↑(y (a.toNat + 0) % 256) : Int) ∧ (↑(y (a.toNat + 0) % 256) : Int) ≤ 9223372036854775807)) (.left (decide ((↑(y (a.toNat + 0) % 256) : Int) = (↑(y (a.toNat + 0) % 256) : Int))) (.left (decide ((↑(y (a.toNat + 0) % 256) : Int) = (↑(y (a.toNat + 0) % 256) : Int))) (.left (decide ((0 : Int) ≤ 0 ∧ 0 < (a + 91).toNat - a.toNat)) (.left (decide ((↑(y (a.toNat + 0) % 256) : Int) = (↑(y (a.toNat + 0) % 256) : Int))) (.left (@decide (s3 ((a + 91).toNat - a.toNat) (fun (i : Nat) => by8 y (a.toNat + i))) pd) (.stop (Hd.call 56 [.data 1 ((a + 91).toNat - a.toNat) fun (i : Nat) => by8 y (a.toNat + i), .int .i64 (1 : Int)]) [] ([])))))))))))))))))))))))))))))))))) (by kernel_rfl) ?_
  refine hzr (fun h0 => by omega) ?_
  refine hold_forkD (fun h0 => ?_) (fun h0 => ?_)
  ·
   refine hold_stop (fun hd hb => ?_)
   exact ok_leaf0 hd rfl ⟨rfl, .inr ⟨_, rfl, .inl ⟨rfl, by omega⟩, fun h => by omega⟩⟩
  refine hl (bc fun h1 => by omega) ?_
  refine hold_forkD (fun h1 => ?_) (fun h1 => ?_)
  ·
   refine hold_stop (fun hd hb => ?_)
   exact ok_leaf0 hd rfl ⟨rfl, .inr ⟨_, rfl, .inr rfl, fun h => by omega⟩⟩
  refine hl (bc fun h2 => by omega) ?_
  refine hl (bc fun h2 => by omega) ?_
  refine hl (bc fun h2 => by omega) ?_
  refine hl (bc fun h2 => by omega) ?_
  refine hl (bc fun h2 => by omega) ?_
  refine hl (bc fun h2 => by omega) ?_
  refine hl (bc fun h2 => by omega) ?_
  refine hl (bc fun h2 => by exact h2 ⟨rfl, rfl, rfl⟩) ?_
  refine hl (bc fun h2 => by exact h2 ⟨rfl, rfl, rfl⟩) ?_
  refine hl (bc fun h2 => by exact h2 ⟨rfl, rfl, rfl⟩) ?_
  refine hl (bc fun h2 => by omega) ?_
  refine hl (bc fun h2 => by omega) ?_
  refine hl (bc fun h2 => by omega) ?_
  refine hl (bc fun h2 => by omega) ?_
  refine hl (bc fun h2 => by omega) ?_
  refine hl (bc fun h2 => by exact h2 ⟨rfl, rfl, rfl⟩) ?_
  refine hl (bc fun h2 => by exact h2 ⟨rfl, rfl, rfl⟩) ?_
  refine hl (bc fun h2 => by omega) ?_
  refine hl (bc fun h2 => by omega) ?_
  refine hl (bc fun h2 => by omega) ?_
  refine hl (bc fun h2 => by exact h2 ⟨rfl, rfl, rfl⟩) ?_
  refine hl (bc fun h2 => by exact h2 ⟨rfl, rfl, rfl⟩) ?_
  refine hl (bc fun h2 => by omega) ?_
  refine hl (bc fun h2 => by omega) ?_
  refine hl (bc fun h2 => by omega) ?_
  refine hl (bc fun h2 => by omega) ?_
  refine hl (bc fun h2 => by omega) ?_
  refine hl (bc fun h2 => by exact h2 ⟨rfl, rfl, rfl⟩) ?_
  refine hold_stop (fun hd hb => ?_)
  refine num_call hd (by omega) ?_
  intro bh2
  refine ok_sk (.l (.l (.l (.l (.l (.l (.l (.l (.l (.l (.l (.l (.l (.l (.l (.l (.l (.l (.l (.l (.stop []))))))))))))))))))))) (S := .left (@decide (s3 ((a + 91).toNat - a.toNat) (fun (i : Nat) => by8 y (a.toNat + i))) pd) (.left (@decide (s3 ((a + 91).toNat - a.toNat) (fun (i : Nat) => by8 y (a.toNat + i))) pd) (.left (@decide (s3 ((a + 91).toNat - a.toNat) (fun (i : Nat) => by8 y (a.toNat + i))) pd) (.left (decide ((-9223372036854775808 : Int) ≤ (↑(y (a.toNat + 66) % 256) : Int) ∧ (↑(y (a.toNat + 66) % 256) : Int) ≤ 9223372036854775807)) (.left (decide ((↑(y (a.toNat + 66) % 256) : Int) = (↑(y (a.toNat + 66) % 256) : Int))) (.left (decide ((↑(y (a.toNat + 66) % 256) : Int) = (↑(y (a.toNat + 66) % 256) : Int))) (.left (decide ((0 : Int) ≤ 66 ∧ 66 < (a + 91).toNat - a.toNat)) (.left (decide ((↑(y (a.toNat + 66) % 256) : Int) = (↑(y (a.toNat + 66) % 256) : Int))) (.left (@decide (s3 ((a + 91).toNat - a.toNat) (fun (i : Nat) => by8 y (a.toNat + i))) pd) (.left (@decide (s3 ((a + 91).toNat - a.toNat) (fun (i : Nat) => by8 y (a.toNat + i))) pd) (.left (decide ((↑(y (a.toNat + 57) % 256) : Int) = (↑(y (a.toNat + 57) % 256) : Int))) (.left (decide ((0 : Int) ≤ 57 ∧ 57 < (a + 91).toNat - a.toNat)) (.left (decide ((↑(y (a.toNat + 57) % 256) : Int) = (↑(y (a.toNat + 57) % 256) : Int))) (.left (@decide (s3 ((a + 91).toNat - a.toNat) (fun (i : Nat) => by8 y (a.toNat + i))) pd) (.left (decide ((-9223372036854775808 : Int) ≤ (↑(y (a.toNat + 0) % 256) : Int) ∧ (↑(y (a.toNat + 0) % 256) : Int) ≤ 9223372036854775807)) (.left (decide ((↑(y (a.toNat + 0) % 256) : Int) = (↑(y (a.toNat + 0) % 256) : Int))) (.left (decide ((↑(y (a.toNat + 0) % 256) : Int) = (↑(y (a.toNat + 0) % 256) : Int))) (.left (decide ((0 : Int) ≤ 0 ∧ 0 < (a + 91).toNat - a.toNat)) (.left (decide ((↑(y (a.toNat + 0) % 256) : Int) = (↑(y (a.toNat + 0) % 256) : Int))) (.left (@decide (s3 ((a + 91).toNat - a.toNat) (fun (i : Nat) => by8 y (a.toNat + i))) pd) (.stop (Hd.call 56 [.data 1 ((a + 91).toNat - a.toNat) fun (i : Nat) => by8 y (a.toNat + i), .int .i64 (58 : Int)]) [] ([])))))))))))))))))))))) (by kernel_rfl) ?_
  refine hl (bc fun h3 => by exact h3 ⟨rfl, rfl, rfl⟩) ?_
  refine hl (bc fun h3 => by exact h3 ⟨rfl, rfl, rfl⟩) ?_
  refine hl (bc fun h3 => by exact h3 ⟨rfl, rfl, rfl⟩) ?_
  refine hl (bc fun h3 => by omega) ?_
  refine hl (bc fun h3 => by omega) ?_
  refine hl (bc fun h3 => by omega) ?_
  refine hl (bc fun h3 => by omega) ?_
  refine hl (bc fun h3 => by omega) ?_
  refine hl (bc fun h3 => by exact h3 ⟨rfl, rfl, rfl⟩) ?_
  refine hl (bc fun h3 => by exact h3 ⟨rfl, rfl, rfl⟩) ?_
  refine hl (bc fun h3 => by omega) ?_
  refine hl (bc fun h3 => by omega) ?_
  refine hl (bc fun h3 => by omega) ?_
  refine hl (bc fun h3 => by exact h3 ⟨rfl, rfl, rfl⟩) ?_
  refine hl (bc fun h3 => by omega) ?_
  refine hl (bc fun h3 => by omega) ?_
  refine hl (bc fun h3 => by omega) ?_
  refine hl (bc fun h3 => by omega) ?_
  refine hl (bc fun h3 => by omega) ?_
  refine hl (bc fun h3 => by exact h3 ⟨rfl, rfl, rfl⟩) ?_
  refine hold_stop (fun hd hb => ?_)
  refine num_call hd (by omega) ?_
  intro bh3
  refine ok_sk (.l (.l (.l (.l (.l (.l (.l (.l (.l (.l (.l (.l (.l (.l (.l (.l (.l (.l (.l (.stop [])))))))))))))))))))) (S := .left (@decide (s3 ((a + 91).toNat - a.toNat) (fun (i : Nat) => by8 y (a.toNat + i))) pd) (.left (@decide (s3 ((a + 91).toNat - a.toNat) (fun (i : Nat) => by8 y (a.toNat + i))) pd) (.left (@decide (s3 ((a + 91).toNat - a.toNat) (fun (i : Nat) => by8 y (a.toNat + i))) pd) (.left (decide ((-9223372036854775808 : Int) ≤ (↑(y (a.toNat + 66) % 256) : Int) ∧ (↑(y (a.toNat + 66) % 256) : Int) ≤ 9223372036854775807)) (.left (decide ((↑(y (a.toNat + 66) % 256) : Int) = (↑(y (a.toNat + 66) % 256) : Int))) (.left (decide ((↑(y (a.toNat + 66) % 256) : Int) = (↑(y (a.toNat + 66) % 256) : Int))) (.left (decide ((0 : Int) ≤ 66 ∧ 66 < (a + 91).toNat - a.toNat)) (.left (decide ((↑(y (a.toNat + 66) % 256) : Int) = (↑(y (a.toNat + 66) % 256) : Int))) (.left (@decide (s3 ((a + 91).toNat - a.toNat) (fun (i : Nat) => by8 y (a.toNat + i))) pd) (.left (decide ((↑(y (a.toNat + 57) % 256) : Int) = (↑(y (a.toNat + 57) % 256) : Int))) (.left (decide ((0 : Int) ≤ 57 ∧ 57 < (a + 91).toNat - a.toNat)) (.left (decide ((↑(y (a.toNat + 57) % 256) : Int) = (↑(y (a.toNat + 57) % 256) : Int))) (.left (@decide (s3 ((a + 91).toNat - a.toNat) (fun (i : Nat) => by8 y (a.toNat + i))) pd) (.left (decide ((-9223372036854775808 : Int) ≤ (↑(y (a.toNat + 0) % 256) : Int) ∧ (↑(y (a.toNat + 0) % 256) : Int) ≤ 9223372036854775807)) (.left (decide ((↑(y (a.toNat + 0) % 256) : Int) = (↑(y (a.toNat + 0) % 256) : Int))) (.left (decide ((↑(y (a.toNat + 0) % 256) : Int) = (↑(y (a.toNat + 0) % 256) : Int))) (.left (decide ((0 : Int) ≤ 0 ∧ 0 < (a + 91).toNat - a.toNat)) (.left (decide ((↑(y (a.toNat + 0) % 256) : Int) = (↑(y (a.toNat + 0) % 256) : Int))) (.left (@decide (s3 ((a + 91).toNat - a.toNat) (fun (i : Nat) => by8 y (a.toNat + i))) pd) (.stop (Hd.call 56 [.data 1 ((a + 91).toNat - a.toNat) fun (i : Nat) => by8 y (a.toNat + i), .int .i64 (67 : Int)]) [] ([]))))))))))))))))))))) (by kernel_rfl) ?_
  refine hl (bc fun h4 => by exact h4 ⟨rfl, rfl, rfl⟩) ?_
  refine hl (bc fun h4 => by exact h4 ⟨rfl, rfl, rfl⟩) ?_
  refine hl (bc fun h4 => by exact h4 ⟨rfl, rfl, rfl⟩) ?_
  refine hl (bc fun h4 => by omega) ?_
  refine hl (bc fun h4 => by omega) ?_
  refine hl (bc fun h4 => by omega) ?_
  refine hl (bc fun h4 => by omega) ?_
  refine hl (bc fun h4 => by omega) ?_
  refine hl (bc fun h4 => by exact h4 ⟨rfl, rfl, rfl⟩) ?_
  refine hl (bc fun h4 => by omega) ?_
  refine hl (bc fun h4 => by omega) ?_
  refine hl (bc fun h4 => by omega) ?_
  refine hl (bc fun h4 => by exact h4 ⟨rfl, rfl, rfl⟩) ?_
  refine hl (bc fun h4 => by omega) ?_
  refine hl (bc fun h4 => by omega) ?_
  refine hl (bc fun h4 => by omega) ?_
  refine hl (bc fun h4 => by omega) ?_
  refine hl (bc fun h4 => by omega) ?_
  refine hl (bc fun h4 => by exact h4 ⟨rfl, rfl, rfl⟩) ?_
  refine hold_stop (fun hd hb => ?_)
  refine num_call hd (by omega) ?_
  intro bh4
  refine ok_sk (.l (.l (.l (.l (.l (.l (.l (.l (.l (.l (.l (.l (.l (.l (.l (.l (.l (.l (.both (.stop []) (.stop [])))))))))))))))))))) (S := .left (@decide (s3 ((a + 91).toNat - a.toNat) (fun (i : Nat) => by8 y (a.toNat + i))) pd) (.left (@decide (s3 ((a + 91).toNat - a.toNat) (fun (i : Nat) => by8 y (a.toNat + i))) pd) (.left (decide ((-9223372036854775808 : Int) ≤ (↑(y (a.toNat + 66) % 256) : Int) ∧ (↑(y (a.toNat + 66) % 256) : Int) ≤ 9223372036854775807)) (.left (decide ((↑(y (a.toNat + 66) % 256) : Int) = (↑(y (a.toNat + 66) % 256) : Int))) (.left (decide ((↑(y (a.toNat + 66) % 256) : Int) = (↑(y (a.toNat + 66) % 256) : Int))) (.left (decide ((0 : Int) ≤ 66 ∧ 66 < (a + 91).toNat - a.toNat)) (.left (decide ((↑(y (a.toNat + 66) % 256) : Int) = (↑(y (a.toNat + 66) % 256) : Int))) (.left (@decide (s3 ((a + 91).toNat - a.toNat) (fun (i : Nat) => by8 y (a.toNat + i))) pd) (.left (decide ((↑(y (a.toNat + 57) % 256) : Int) = (↑(y (a.toNat + 57) % 256) : Int))) (.left (decide ((0 : Int) ≤ 57 ∧ 57 < (a + 91).toNat - a.toNat)) (.left (decide ((↑(y (a.toNat + 57) % 256) : Int) = (↑(y (a.toNat + 57) % 256) : Int))) (.left (@decide (s3 ((a + 91).toNat - a.toNat) (fun (i : Nat) => by8 y (a.toNat + i))) pd) (.left (decide ((-9223372036854775808 : Int) ≤ (↑(y (a.toNat + 0) % 256) : Int) ∧ (↑(y (a.toNat + 0) % 256) : Int) ≤ 9223372036854775807)) (.left (decide ((↑(y (a.toNat + 0) % 256) : Int) = (↑(y (a.toNat + 0) % 256) : Int))) (.left (decide ((↑(y (a.toNat + 0) % 256) : Int) = (↑(y (a.toNat + 0) % 256) : Int))) (.left (decide ((0 : Int) ≤ 0 ∧ 0 < (a + 91).toNat - a.toNat)) (.left (decide ((↑(y (a.toNat + 0) % 256) : Int) = (↑(y (a.toNat + 0) % 256) : Int))) (.left (@decide (s3 ((a + 91).toNat - a.toNat) (fun (i : Nat) => by8 y (a.toNat + i))) pd) (.fork (decide (((-9223372036854775808 : Int) ≤ n8 fun (i : Nat) => y (a.toNat + (67 + i))) ∧ (n8 fun (i : Nat) => y (a.toNat + (67 + i))) ≤ 9223372036854775807)) (.stop (Hd.call 56 [.data 1 ((a + 91).toNat - a.toNat) fun (i : Nat) => by8 y (a.toNat + i), .int .i64 (75 : Int)]) [] ([])) (.stop (Hd.call 56 [.data 1 ((a + 91).toNat - a.toNat) fun (i : Nat) => by8 y (a.toNat + i), .int .i64 (75 : Int)]) [] ([]))))))))))))))))))))) (by kernel_rfl) ?_
  refine hl (bc fun h5 => by exact h5 ⟨rfl, rfl, rfl⟩) ?_
  refine hl (bc fun h5 => by exact h5 ⟨rfl, rfl, rfl⟩) ?_
  refine hl (bc fun h5 => by omega) ?_
  refine hl (bc fun h5 => by omega) ?_
  refine hl (bc fun h5 => by omega) ?_
  refine hl (bc fun h5 => by omega) ?_
  refine hl (bc fun h5 => by omega) ?_
  refine hl (bc fun h5 => by exact h5 ⟨rfl, rfl, rfl⟩) ?_
  refine hl (bc fun h5 => by omega) ?_
  refine hl (bc fun h5 => by omega) ?_
  refine hl (bc fun h5 => by omega) ?_
  refine hl (bc fun h5 => by exact h5 ⟨rfl, rfl, rfl⟩) ?_
  refine hl (bc fun h5 => by omega) ?_
  refine hl (bc fun h5 => by omega) ?_
  refine hl (bc fun h5 => by omega) ?_
  refine hl (bc fun h5 => by omega) ?_
  refine hl (bc fun h5 => by omega) ?_
  refine hl (bc fun h5 => by exact h5 ⟨rfl, rfl, rfl⟩) ?_
  refine hold_forkD (fun h5 => ?_) (fun h5 => ?_)
  ·
   refine hold_stop (fun hd hb => ?_)
   refine num_call hd (by omega) ?_
   intro bh6
   refine ok_sk (.l (.l (.l (.l (.l (.l (.l (.l (.l (.l (.l (.l (.l (.l (.l (.l (.l (.l (.l (.stop [])))))))))))))))))))) (S := .left (decide (((-9223372036854775808 : Int) ≤ n8 fun (i : Nat) => y (a.toNat + (67 + i))) ∧ (n8 fun (i : Nat) => y (a.toNat + (67 + i))) ≤ 9223372036854775807)) (.left (decide ((n8 fun (i : Nat) => y (a.toNat + (67 + i))) = n8 fun (i : Nat) => y (a.toNat + (67 + i)))) (.left (@decide (s3 ((a + 91).toNat - a.toNat) (fun (i : Nat) => by8 y (a.toNat + i))) pd) (.left (decide ((-9223372036854775808 : Int) ≤ (↑(y (a.toNat + 66) % 256) : Int) ∧ (↑(y (a.toNat + 66) % 256) : Int) ≤ 9223372036854775807)) (.left (decide ((↑(y (a.toNat + 66) % 256) : Int) = (↑(y (a.toNat + 66) % 256) : Int))) (.left (decide ((↑(y (a.toNat + 66) % 256) : Int) = (↑(y (a.toNat + 66) % 256) : Int))) (.left (decide ((0 : Int) ≤ 66 ∧ 66 < (a + 91).toNat - a.toNat)) (.left (decide ((↑(y (a.toNat + 66) % 256) : Int) = (↑(y (a.toNat + 66) % 256) : Int))) (.left (@decide (s3 ((a + 91).toNat - a.toNat) (fun (i : Nat) => by8 y (a.toNat + i))) pd) (.left (decide ((↑(y (a.toNat + 57) % 256) : Int) = (↑(y (a.toNat + 57) % 256) : Int))) (.left (decide ((0 : Int) ≤ 57 ∧ 57 < (a + 91).toNat - a.toNat)) (.left (decide ((↑(y (a.toNat + 57) % 256) : Int) = (↑(y (a.toNat + 57) % 256) : Int))) (.left (@decide (s3 ((a + 91).toNat - a.toNat) (fun (i : Nat) => by8 y (a.toNat + i))) pd) (.left (decide ((-9223372036854775808 : Int) ≤ (↑(y (a.toNat + 0) % 256) : Int) ∧ (↑(y (a.toNat + 0) % 256) : Int) ≤ 9223372036854775807)) (.left (decide ((↑(y (a.toNat + 0) % 256) : Int) = (↑(y (a.toNat + 0) % 256) : Int))) (.left (decide ((↑(y (a.toNat + 0) % 256) : Int) = (↑(y (a.toNat + 0) % 256) : Int))) (.left (decide ((0 : Int) ≤ 0 ∧ 0 < (a + 91).toNat - a.toNat)) (.left (decide ((↑(y (a.toNat + 0) % 256) : Int) = (↑(y (a.toNat + 0) % 256) : Int))) (.left (@decide (s3 ((a + 91).toNat - a.toNat) (fun (i : Nat) => by8 y (a.toNat + i))) pd) (.stop (Hd.call 56 [.data 1 ((a + 91).toNat - a.toNat) fun (i : Nat) => by8 y (a.toNat + i), .int .i64 (83 : Int)]) [] ([]))))))))))))))))))))) (by kernel_rfl) ?_
   refine hl (bc fun h7 => by omega) ?_
   refine hl (bc fun h7 => by omega) ?_
   refine hl (bc fun h7 => by exact h7 ⟨rfl, rfl, rfl⟩) ?_
   refine hl (bc fun h7 => by omega) ?_
   refine hl (bc fun h7 => by omega) ?_
   refine hl (bc fun h7 => by omega) ?_
   refine hl (bc fun h7 => by omega) ?_
   refine hl (bc fun h7 => by omega) ?_
   refine hl (bc fun h7 => by exact h7 ⟨rfl, rfl, rfl⟩) ?_
   refine hl (bc fun h7 => by omega) ?_
   refine hl (bc fun h7 => by omega) ?_
   refine hl (bc fun h7 => by omega) ?_
   refine hl (bc fun h7 => by exact h7 ⟨rfl, rfl, rfl⟩) ?_
   refine hl (bc fun h7 => by omega) ?_
   refine hl (bc fun h7 => by omega) ?_
   refine hl (bc fun h7 => by omega) ?_
   refine hl (bc fun h7 => by omega) ?_
   refine hl (bc fun h7 => by omega) ?_
   refine hl (bc fun h7 => by exact h7 ⟨rfl, rfl, rfl⟩) ?_
   refine hold_stop (fun hd hb => ?_)
   refine num_call hd (by omega) ?_
   intro bh7
   refine ok_sk (.l (.l (.l (.l (.l (.l (.l (.l (.l (.l (.l (.l (.l (.l (.l (.l (.l (.l (.stop []))))))))))))))))))) (S := .left (decide (((-9223372036854775808 : Int) ≤ n8 fun (i : Nat) => y (a.toNat + (67 + i))) ∧ (n8 fun (i : Nat) => y (a.toNat + (67 + i))) ≤ 9223372036854775807)) (.left (decide ((n8 fun (i : Nat) => y (a.toNat + (67 + i))) = n8 fun (i : Nat) => y (a.toNat + (67 + i)))) (.left (decide ((-9223372036854775808 : Int) ≤ (↑(y (a.toNat + 66) % 256) : Int) ∧ (↑(y (a.toNat + 66) % 256) : Int) ≤ 9223372036854775807)) (.left (decide ((↑(y (a.toNat + 66) % 256) : Int) = (↑(y (a.toNat + 66) % 256) : Int))) (.left (decide ((↑(y (a.toNat + 66) % 256) : Int) = (↑(y (a.toNat + 66) % 256) : Int))) (.left (decide ((0 : Int) ≤ 66 ∧ 66 < (a + 91).toNat - a.toNat)) (.left (decide ((↑(y (a.toNat + 66) % 256) : Int) = (↑(y (a.toNat + 66) % 256) : Int))) (.left (@decide (s3 ((a + 91).toNat - a.toNat) (fun (i : Nat) => by8 y (a.toNat + i))) pd) (.left (decide ((↑(y (a.toNat + 57) % 256) : Int) = (↑(y (a.toNat + 57) % 256) : Int))) (.left (decide ((0 : Int) ≤ 57 ∧ 57 < (a + 91).toNat - a.toNat)) (.left (decide ((↑(y (a.toNat + 57) % 256) : Int) = (↑(y (a.toNat + 57) % 256) : Int))) (.left (@decide (s3 ((a + 91).toNat - a.toNat) (fun (i : Nat) => by8 y (a.toNat + i))) pd) (.left (decide ((-9223372036854775808 : Int) ≤ (↑(y (a.toNat + 0) % 256) : Int) ∧ (↑(y (a.toNat + 0) % 256) : Int) ≤ 9223372036854775807)) (.left (decide ((↑(y (a.toNat + 0) % 256) : Int) = (↑(y (a.toNat + 0) % 256) : Int))) (.left (decide ((↑(y (a.toNat + 0) % 256) : Int) = (↑(y (a.toNat + 0) % 256) : Int))) (.left (decide ((0 : Int) ≤ 0 ∧ 0 < (a + 91).toNat - a.toNat)) (.left (decide ((↑(y (a.toNat + 0) % 256) : Int) = (↑(y (a.toNat + 0) % 256) : Int))) (.left (@decide (s3 ((a + 91).toNat - a.toNat) (fun (i : Nat) => by8 y (a.toNat + i))) pd) (.stop (Hd.call 56 [.data 1 ((a + 91).toNat - a.toNat) fun (i : Nat) => by8 y (a.toNat + i), .int .i64 (9 : Int)]) [] ([])))))))))))))))))))) (by kernel_rfl) ?_
   refine hl (bc fun h8 => by omega) ?_
   refine hl (bc fun h8 => by omega) ?_
   refine hl (bc fun h8 => by omega) ?_
   refine hl (bc fun h8 => by omega) ?_
   refine hl (bc fun h8 => by omega) ?_
   refine hl (bc fun h8 => by omega) ?_
   refine hl (bc fun h8 => by omega) ?_
   refine hl (bc fun h8 => by exact h8 ⟨rfl, rfl, rfl⟩) ?_
   refine hl (bc fun h8 => by omega) ?_
   refine hl (bc fun h8 => by omega) ?_
   refine hl (bc fun h8 => by omega) ?_
   refine hl (bc fun h8 => by exact h8 ⟨rfl, rfl, rfl⟩) ?_
   refine hl (bc fun h8 => by omega) ?_
   refine hl (bc fun h8 => by omega) ?_
   refine hl (bc fun h8 => by omega) ?_
   refine hl (bc fun h8 => by omega) ?_
   refine hl (bc fun h8 => by omega) ?_
   refine hl (bc fun h8 => by exact h8 ⟨rfl, rfl, rfl⟩) ?_
   refine hold_stop (fun hd hb => ?_)
   refine num_call hd (by omega) ?_
   intro bh8
   refine ok_sk (.stop []) (S := .stop (Hd.call 56 [.data 1 ((a + 91).toNat - a.toNat) fun (i : Nat) => by8 y (a.toNat + i), .int .i64 (17 : Int)]) [] ([])) (by kernel_rfl) ?_
   refine hold_stop (fun hd hb => ?_)
   refine num_call hd (by omega) ?_
   intro bh9
   refine ok_sk (.stop []) (S := .stop (Hd.call 56 [.data 1 ((a + 91).toNat - a.toNat) fun (i : Nat) => by8 y (a.toNat + i), .int .i64 (25 : Int)]) [] ([])) (by kernel_rfl) ?_
   refine hold_stop (fun hd hb => ?_)
   refine num_call hd (by omega) ?_
   intro bh10
   refine ok_sk (.stop []) (S := .stop (Hd.call 56 [.data 1 ((a + 91).toNat - a.toNat) fun (i : Nat) => by8 y (a.toNat + i), .int .i64 (33 : Int)]) [] ([])) (by kernel_rfl) ?_
   refine hold_stop (fun hd hb => ?_)
   refine num_call hd (by omega) ?_
   intro bh11
   refine ok_sk (.stop []) (S := .stop (Hd.call 56 [.data 1 ((a + 91).toNat - a.toNat) fun (i : Nat) => by8 y (a.toNat + i), .int .i64 (41 : Int)]) [] ([])) (by kernel_rfl) ?_
   refine hold_stop (fun hd hb => ?_)
   refine num_call hd (by omega) ?_
   intro bh12
   refine ok_sk (.stop []) (S := .stop (Hd.call 56 [.data 1 ((a + 91).toNat - a.toNat) fun (i : Nat) => by8 y (a.toNat + i), .int .i64 (49 : Int)]) [] ([])) (by kernel_rfl) ?_
   refine hold_stop (fun hd hb => ?_)
   refine num_call hd (by omega) ?_
   intro bh13
   refine ok_sk (.l (.stop [])) (S := .left (@decide (AllBytes ((a + 91).toNat - a.toNat) fun (i : Nat) => by8 y (a.toNat + i)) pd) (.stop (Hd.call 24 [.agg [.sint .i64 (↑(y (a.toNat + 0) % 256) : Int), .sint .u64 (n8 fun (i : Nat) => y (a.toNat + (1 + i))), .sint .u64 (n8 fun (i : Nat) => y (a.toNat + (9 + i))), .sint .u64 (n8 fun (i : Nat) => y (a.toNat + (17 + i))), .sint .u64 (n8 fun (i : Nat) => y (a.toNat + (25 + i))), .sint .u64 (n8 fun (i : Nat) => y (a.toNat + (33 + i))), .sint .u64 (n8 fun (i : Nat) => y (a.toNat + (41 + i))), .sint .u64 (n8 fun (i : Nat) => y (a.toNat + (49 + i))), .sint .u8 (↑(y (a.toNat + 57) % 256) : Int), .sint .u64 (n8 fun (i : Nat) => y (a.toNat + (58 + i))), .sint .i64 (↑(y (a.toNat + 66) % 256) : Int), .sint .i64 (n8 fun (i : Nat) => y (a.toNat + (67 + i))), .sint .u64 (n8 fun (i : Nat) => y (a.toNat + (75 + i))), .sint .u64 (n8 fun (i : Nat) => y (a.toNat + (83 + i)))]]) [] ([]))) (by kernel_rfl) ?_
   refine hl (bc fun h14 => by exact h14 (all_b8 _ fun i => y (a.toNat + i))) ?_
   refine hold_stop (fun hd hb => ?_)
   first
     | (refine ok_call0 hd (rput0 (evB a.toNat y) (evB_rng _ _)) rfl ?_
        rintro x G (⟨rfl, rfl, my⟩ | ⟨rfl, rfl, my⟩) <;> first | refine ⟨rfl, fun g hg => (by rcases List.mem_singleton.1 hg with rfl; exact rfl), ?_⟩ | refine ⟨rfl, fun g hg => (by cases hg), ?_⟩)
     | (refine ok_call0 hd (rput0 (evBw a.toNat y) (evBw_rng _ _)) rfl ?_
        rintro x G (⟨rfl, rfl, my⟩ | ⟨rfl, rfl, my⟩) <;> first | exact ((evBw_no a.toNat y (by assumption)).1 my).elim | (have mz := (evBw_no a.toNat y (by assumption)).2; refine ⟨rfl, fun g hg => (by cases hg), ?_⟩))
   ·
    refine ok_sk (.l (.l (.l (.r (.stop []))))) (S := .left (@decide (AllBytes ((a + 91).toNat - a.toNat) fun (i : Nat) => by8 y (a.toNat + i)) pd) (.left (decide ((bytesOf ((a + 91).toNat - a.toNat) fun (i : Nat) => by8 y (a.toNat + i)) = bytesOf ((a + 91).toNat - a.toNat) fun (i : Nat) => by8 y (a.toNat + i))) (.left (@decide (s3 ((a + 91).toNat - a.toNat) (fun (i : Nat) => by8 y (a.toNat + i))) pd) (.right (decide ([] = bytesOf ((a + 91).toNat - a.toNat) fun (i : Nat) => by8 y (a.toNat + i))) (.stop (Hd.leaf (.tuple [.agg [.int .i64 (0 : Int), .int .u64 (0 : Int), .int .u64 (0 : Int), .int .u64 (0 : Int), .int .u64 (0 : Int), .int .u64 (0 : Int), .int .u64 (0 : Int), .int .u64 (0 : Int), .int .u8 (0 : Int), .int .u64 (0 : Int), .int .i64 (0 : Int), .int .i64 (0 : Int), .int .u64 (0 : Int), .int .u64 (0 : Int)], .int .i64 (0 : Int), .int .i64 (5 : Int)])) [] ([])))))) (by kernel_rfl) ?_
    refine hl (bc fun h15 => by exact h15 (all_b8 _ fun i => y (a.toNat + i))) ?_
    refine hl (bc fun h15 => by exact h15 rfl) ?_
    refine hl (bc fun h15 => by exact h15 ⟨rfl, rfl, rfl⟩) ?_
    refine hzr (fun h15 => by exact nil_ne (by omega) h15) ?_
    refine hold_stop (fun hd hb => ?_)
    exact ok_leaf0 hd rfl ⟨rfl, .inr ⟨_, rfl, .inr rfl, fun h => my h.2⟩⟩
   refine ok_sk (.l (.l (.l (.l (.l (.l (.stop []))))))) (S := .left (@decide (AllBytes ((a + 91).toNat - a.toNat) fun (i : Nat) => by8 y (a.toNat + i)) pd) (.left (decide ((bytesOf ((a + 91).toNat - a.toNat) fun (i : Nat) => by8 y (a.toNat + i)) = bytesOf ((a + 91).toNat - a.toNat) fun (i : Nat) => by8 y (a.toNat + i))) (.left (@decide (s3 ((a + 91).toNat - a.toNat) (fun (i : Nat) => by8 y (a.toNat + i))) pd) (.left (@decide (ByteL [.sint .u8 ((evB a.toNat y).o % 256), .sint .u8 ((evB a.toNat y).s / 72057594037927936 % 256), .sint .u8 ((evB a.toNat y).s / 281474976710656 % 256), .sint .u8 ((evB a.toNat y).s / 1099511627776 % 256), .sint .u8 ((evB a.toNat y).s / 4294967296 % 256), .sint .u8 ((evB a.toNat y).s / 16777216 % 256), .sint .u8 ((evB a.toNat y).s / 65536 % 256), .sint .u8 ((evB a.toNat y).s / 256 % 256), .sint .u8 ((evB a.toNat y).s / 1 % 256), .sint .u8 ((evB a.toNat y).d0 / 72057594037927936 % 256), .sint .u8 ((evB a.toNat y).d0 / 281474976710656 % 256), .sint .u8 ((evB a.toNat y).d0 / 1099511627776 % 256), .sint .u8 ((evB a.toNat y).d0 / 4294967296 % 256), .sint .u8 ((evB a.toNat y).d0 / 16777216 % 256), .sint .u8 ((evB a.toNat y).d0 / 65536 % 256), .sint .u8 ((evB a.toNat y).d0 / 256 % 256), .sint .u8 ((evB a.toNat y).d0 / 1 % 256), .sint .u8 ((evB a.toNat y).d1 / 72057594037927936 % 256), .sint .u8 ((evB a.toNat y).d1 / 281474976710656 % 256), .sint .u8 ((evB a.toNat y).d1 / 1099511627776 % 256), .sint .u8 ((evB a.toNat y).d1 / 4294967296 % 256), .sint .u8 ((evB a.toNat y).d1 / 16777216 % 256), .sint .u8 ((evB a.toNat y).d1 / 65536 % 256), .sint .u8 ((evB a.toNat y).d1 / 256 % 256), .sint .u8 ((evB a.toNat y).d1 / 1 % 256), .sint .u8 ((evB a.toNat y).d2 / 72057594037927936 % 256), .sint .u8 ((evB a.toNat y).d2 / 281474976710656 % 256), .sint .u8 ((evB a.toNat y).d2 / 1099511627776 % 256), .sint .u8 ((evB a.toNat y).d2 / 4294967296 % 256), .sint .u8 ((evB a.toNat y).d2 / 16777216 % 256), .sint .u8 ((evB a.toNat y).d2 / 65536 % 256), .sint .u8 ((evB a.toNat y).d2 / 256 % 256), .sint .u8 ((evB a.toNat y).d2 / 1 % 256), .sint .u8 ((evB a.toNat y).d3 / 72057594037927936 % 256), .sint .u8 ((evB a.toNat y).d3 / 281474976710656 % 256), .sint .u8 ((evB a.toNat y).d3 / 1099511627776 % 256), .sint .u8 ((evB a.toNat y).d3 / 4294967296 % 256), .sint .u8 ((evB a.toNat y).d3 / 16777216 % 256), .sint .u8 ((evB a.toNat y).d3 / 65536 % 256), .sint .u8 ((evB a.toNat y).d3 / 256 % 256), .sint .u8 ((evB a.toNat y).d3 / 1 % 256), .sint .u8 ((evB a.toNat y).d4 / 72057594037927936 % 256), .sint .u8 ((evB a.toNat y).d4 / 281474976710656 % 256), .sint .u8 ((evB a.toNat y).d4 / 1099511627776 % 256), .sint .u8 ((evB a.toNat y).d4 / 4294967296 % 256), .sint .u8 ((evB a.toNat y).d4 / 16777216 % 256), .sint .u8 ((evB a.toNat y).d4 / 65536 % 256), .sint .u8 ((evB a.toNat y).d4 / 256 % 256), .sint .u8 ((evB a.toNat y).d4 / 1 % 256), .sint .u8 ((evB a.toNat y).d5 / 72057594037927936 % 256), .sint .u8 ((evB a.toNat y).d5 / 281474976710656 % 256), .sint .u8 ((evB a.toNat y).d5 / 1099511627776 % 256), .sint .u8 ((evB a.toNat y).d5 / 4294967296 % 256), .sint .u8 ((evB a.toNat y).d5 / 16777216 % 256), .sint .u8 ((evB a.toNat y).d5 / 65536 % 256), .sint .u8 ((evB a.toNat y).d5 / 256 % 256), .sint .u8 ((evB a.toNat y).d5 / 1 % 256), .sint .u8 (evB a.toNat y).k, .sint .u8 ((evB a.toNat y).n / 72057594037927936 % 256), .sint .u8 ((evB a.toNat y).n / 281474976710656 % 256), .sint .u8 ((evB a.toNat y).n / 1099511627776 % 256), .sint .u8 ((evB a.toNat y).n / 4294967296 % 256), .sint .u8 ((evB a.toNat y).n / 16777216 % 256), .sint .u8 ((evB a.toNat y).n / 65536 % 256), .sint .u8 ((evB a.toNat y).n / 256 % 256), .sint .u8 ((evB a.toNat y).n / 1 % 256), .sint .u8 ((evB a.toNat y).t % 256), .sint .u8 ((evB a.toNat y).a / 72057594037927936 % 256), .sint .u8 ((evB a.toNat y).a / 281474976710656 % 256), .sint .u8 ((evB a.toNat y).a / 1099511627776 % 256), .sint .u8 ((evB a.toNat y).a / 4294967296 % 256), .sint .u8 ((evB a.toNat y).a / 16777216 % 256), .sint .u8 ((evB a.toNat y).a / 65536 % 256), .sint .u8 ((evB a.toNat y).a / 256 % 256), .sint .u8 ((evB a.toNat y).a / 1 % 256), .sint .u8 ((evB a.toNat y).r / 72057594037927936 % 256), .sint .u8 ((evB a.toNat y).r / 281474976710656 % 256), .sint .u8 ((evB a.toNat y).r / 1099511627776 % 256), .sint .u8 ((evB a.toNat y).r / 4294967296 % 256), .sint .u8 ((evB a.toNat y).r / 16777216 % 256), .sint .u8 ((evB a.toNat y).r / 65536 % 256), .sint .u8 ((evB a.toNat y).r / 256 % 256), .sint .u8 ((evB a.toNat y).r / 1 % 256), .sint .u8 ((evB a.toNat y).f / 72057594037927936 % 256), .sint .u8 ((evB a.toNat y).f / 281474976710656 % 256), .sint .u8 ((evB a.toNat y).f / 1099511627776 % 256), .sint .u8 ((evB a.toNat y).f / 4294967296 % 256), .sint .u8 ((evB a.toNat y).f / 16777216 % 256), .sint .u8 ((evB a.toNat y).f / 65536 % 256), .sint .u8 ((evB a.toNat y).f / 256 % 256), .sint .u8 ((evB a.toNat y).f / 1 % 256)]) pd) (.left (decide (List.map (fun (x : AV) => natOf [x]) [.sint .u8 ((evB a.toNat y).o % 256), .sint .u8 ((evB a.toNat y).s / 72057594037927936 % 256), .sint .u8 ((evB a.toNat y).s / 281474976710656 % 256), .sint .u8 ((evB a.toNat y).s / 1099511627776 % 256), .sint .u8 ((evB a.toNat y).s / 4294967296 % 256), .sint .u8 ((evB a.toNat y).s / 16777216 % 256), .sint .u8 ((evB a.toNat y).s / 65536 % 256), .sint .u8 ((evB a.toNat y).s / 256 % 256), .sint .u8 ((evB a.toNat y).s / 1 % 256), .sint .u8 ((evB a.toNat y).d0 / 72057594037927936 % 256), .sint .u8 ((evB a.toNat y).d0 / 281474976710656 % 256), .sint .u8 ((evB a.toNat y).d0 / 1099511627776 % 256), .sint .u8 ((evB a.toNat y).d0 / 4294967296 % 256), .sint .u8 ((evB a.toNat y).d0 / 16777216 % 256), .sint .u8 ((evB a.toNat y).d0 / 65536 % 256), .sint .u8 ((evB a.toNat y).d0 / 256 % 256), .sint .u8 ((evB a.toNat y).d0 / 1 % 256), .sint .u8 ((evB a.toNat y).d1 / 72057594037927936 % 256), .sint .u8 ((evB a.toNat y).d1 / 281474976710656 % 256), .sint .u8 ((evB a.toNat y).d1 / 1099511627776 % 256), .sint .u8 ((evB a.toNat y).d1 / 4294967296 % 256), .sint .u8 ((evB a.toNat y).d1 / 16777216 % 256), .sint .u8 ((evB a.toNat y).d1 / 65536 % 256), .sint .u8 ((evB a.toNat y).d1 / 256 % 256), .sint .u8 ((evB a.toNat y).d1 / 1 % 256), .sint .u8 ((evB a.toNat y).d2 / 72057594037927936 % 256), .sint .u8 ((evB a.toNat y).d2 / 281474976710656 % 256), .sint .u8 ((evB a.toNat y).d2 / 1099511627776 % 256), .sint .u8 ((evB a.toNat y).d2 / 4294967296 % 256), .sint .u8 ((evB a.toNat y).d2 / 16777216 % 256), .sint .u8 ((evB a.toNat y).d2 / 65536 % 256), .sint .u8 ((evB a.toNat y).d2 / 256 % 256), .sint .u8 ((evB a.toNat y).d2 / 1 % 256), .sint .u8 ((evB a.toNat y).d3 / 72057594037927936 % 256), .sint .u8 ((evB a.toNat y).d3 / 281474976710656 % 256), .sint .u8 ((evB a.toNat y).d3 / 1099511627776 % 256), .sint .u8 ((evB a.toNat y).d3 / 4294967296 % 256), .sint .u8 ((evB a.toNat y).d3 / 16777216 % 256), .sint .u8 ((evB a.toNat y).d3 / 65536 % 256), .sint .u8 ((evB a.toNat y).d3 / 256 % 256), .sint .u8 ((evB a.toNat y).d3 / 1 % 256), .sint .u8 ((evB a.toNat y).d4 / 72057594037927936 % 256), .sint .u8 ((evB a.toNat y).d4 / 281474976710656 % 256), .sint .u8 ((evB a.toNat y).d4 / 1099511627776 % 256), .sint .u8 ((evB a.toNat y).d4 / 4294967296 % 256), .sint .u8 ((evB a.toNat y).d4 / 16777216 % 256), .sint .u8 ((evB a.toNat y).d4 / 65536 % 256), .sint .u8 ((evB a.toNat y).d4 / 256 % 256), .sint .u8 ((evB a.toNat y).d4 / 1 % 256), .sint .u8 ((evB a.toNat y).d5 / 72057594037927936 % 256), .sint .u8 ((evB a.toNat y).d5 / 281474976710656 % 256), .sint .u8 ((evB a.toNat y).d5 / 1099511627776 % 256), .sint .u8 ((evB a.toNat y).d5 / 4294967296 % 256), .sint .u8 ((evB a.toNat y).d5 / 16777216 % 256), .sint .u8 ((evB a.toNat y).d5 / 65536 % 256), .sint .u8 ((evB a.toNat y).d5 / 256 % 256), .sint .u8 ((evB a.toNat y).d5 / 1 % 256), .sint .u8 (evB a.toNat y).k, .sint .u8 ((evB a.toNat y).n / 72057594037927936 % 256), .sint .u8 ((evB a.toNat y).n / 281474976710656 % 256), .sint .u8 ((evB a.toNat y).n / 1099511627776 % 256), .sint .u8 ((evB a.toNat y).n / 4294967296 % 256), .sint .u8 ((evB a.toNat y).n / 16777216 % 256), .sint .u8 ((evB a.toNat y).n / 65536 % 256), .sint .u8 ((evB a.toNat y).n / 256 % 256), .sint .u8 ((evB a.toNat y).n / 1 % 256), .sint .u8 ((evB a.toNat y).t % 256), .sint .u8 ((evB a.toNat y).a / 72057594037927936 % 256), .sint .u8 ((evB a.toNat y).a / 281474976710656 % 256), .sint .u8 ((evB a.toNat y).a / 1099511627776 % 256), .sint .u8 ((evB a.toNat y).a / 4294967296 % 256), .sint .u8 ((evB a.toNat y).a / 16777216 % 256), .sint .u8 ((evB a.toNat y).a / 65536 % 256), .sint .u8 ((evB a.toNat y).a / 256 % 256), .sint .u8 ((evB a.toNat y).a / 1 % 256), .sint .u8 ((evB a.toNat y).r / 72057594037927936 % 256), .sint .u8 ((evB a.toNat y).r / 281474976710656 % 256), .sint .u8 ((evB a.toNat y).r / 1099511627776 % 256), .sint .u8 ((evB a.toNat y).r / 4294967296 % 256), .sint .u8 ((evB a.toNat y).r / 16777216 % 256), .sint .u8 ((evB a.toNat y).r / 65536 % 256), .sint .u8 ((evB a.toNat y).r / 256 % 256), .sint .u8 ((evB a.toNat y).r / 1 % 256), .sint .u8 ((evB a.toNat y).f / 72057594037927936 % 256), .sint .u8 ((evB a.toNat y).f / 281474976710656 % 256), .sint .u8 ((evB a.toNat y).f / 1099511627776 % 256), .sint .u8 ((evB a.toNat y).f / 4294967296 % 256), .sint .u8 ((evB a.toNat y).f / 16777216 % 256), .sint .u8 ((evB a.toNat y).f / 65536 % 256), .sint .u8 ((evB a.toNat y).f / 256 % 256), .sint .u8 ((evB a.toNat y).f / 1 % 256)] = bytesOf ((a + 91).toNat - a.toNat) fun (i : Nat) => by8 y (a.toNat + i))) (.left (decide ((-9223372036854775808 : Int) ≤ a + 91 ∧ a + 91 ≤ 9223372036854775807)) (.stop (Hd.leaf (.tuple [.agg [.sint .i64 (↑(y (a.toNat + 0) % 256) : Int), .sint .u64 (n8 fun (i : Nat) => y (a.toNat + (1 + i))), .sint .u64 (n8 fun (i : Nat) => y (a.toNat + (9 + i))), .sint .u64 (n8 fun (i : Nat) => y (a.toNat + (17 + i))), .sint .u64 (n8 fun (i : Nat) => y (a.toNat + (25 + i))), .sint .u64 (n8 fun (i : Nat) => y (a.toNat + (33 + i))), .sint .u64 (n8 fun (i : Nat) => y (a.toNat + (41 + i))), .sint .u64 (n8 fun (i : Nat) => y (a.toNat + (49 + i))), .sint .u8 (↑(y (a.toNat + 57) % 256) : Int), .sint .u64 (n8 fun (i : Nat) => y (a.toNat + (58 + i))), .sint .i64 (↑(y (a.toNat + 66) % 256) : Int), .sint .i64 (n8 fun (i : Nat) => y (a.toNat + (67 + i))), .sint .u64 (n8 fun (i : Nat) => y (a.toNat + (75 + i))), .sint .u64 (n8 fun (i : Nat) => y (a.toNat + (83 + i)))], .sint .i64 (a + 91), .int .i64 (0 : Int)])) [] ([])))))))) (by kernel_rfl) ?_
   refine hl (bc fun h15 => by exact h15 (all_b8 _ fun i => y (a.toNat + i))) ?_
   refine hl (bc fun h15 => by exact h15 rfl) ?_
   refine hl (bc fun h15 => by exact h15 ⟨rfl, rfl, rfl⟩) ?_
   refine hl (bc fun h15 => by exact h15 (byteL_eq (l' := (evB a.toNat y).byD.map cell8) (by kernel_rfl) (byteLD _ (b8_255 _ _)))) ?_
   refine hl (bc fun h15 => by exact h15 (back91c (A := a.toNat) (by kernel_rfl) (by omega))) ?_
   refine hl (bc fun h15 => by omega) ?_
   refine hold_stop (fun hd hb => ?_)
   exact ok_leaf0 hd rfl ⟨rfl, .inl ⟨rfl, by omega, my⟩⟩
  refine hold_stop (fun hd hb => ?_)
  refine num_call hd (by omega) ?_
  intro bh6
  refine ok_sk (.r (.l (.l (.l (.l (.l (.l (.l (.l (.l (.l (.l (.l (.l (.l (.l (.l (.l (.l (.stop [])))))))))))))))))))) (S := .right (decide (((-9223372036854775808 : Int) ≤ n8 fun (i : Nat) => y (a.toNat + (67 + i))) ∧ (n8 fun (i : Nat) => y (a.toNat + (67 + i))) ≤ 9223372036854775807)) (.left (decide (IntKind.i64.wrap (n8 fun (i : Nat) => y (a.toNat + (67 + i))) = IntKind.i64.wrap (n8 fun (i : Nat) => y (a.toNat + (67 + i))))) (.left (@decide (s3 ((a + 91).toNat - a.toNat) (fun (i : Nat) => by8 y (a.toNat + i))) pd) (.left (decide ((-9223372036854775808 : Int) ≤ (↑(y (a.toNat + 66) % 256) : Int) ∧ (↑(y (a.toNat + 66) % 256) : Int) ≤ 9223372036854775807)) (.left (decide ((↑(y (a.toNat + 66) % 256) : Int) = (↑(y (a.toNat + 66) % 256) : Int))) (.left (decide ((↑(y (a.toNat + 66) % 256) : Int) = (↑(y (a.toNat + 66) % 256) : Int))) (.left (decide ((0 : Int) ≤ 66 ∧ 66 < (a + 91).toNat - a.toNat)) (.left (decide ((↑(y (a.toNat + 66) % 256) : Int) = (↑(y (a.toNat + 66) % 256) : Int))) (.left (@decide (s3 ((a + 91).toNat - a.toNat) (fun (i : Nat) => by8 y (a.toNat + i))) pd) (.left (decide ((↑(y (a.toNat + 57) % 256) : Int) = (↑(y (a.toNat + 57) % 256) : Int))) (.left (decide ((0 : Int) ≤ 57 ∧ 57 < (a + 91).toNat - a.toNat)) (.left (decide ((↑(y (a.toNat + 57) % 256) : Int) = (↑(y (a.toNat + 57) % 256) : Int))) (.left (@decide (s3 ((a + 91).toNat - a.toNat) (fun (i : Nat) => by8 y (a.toNat + i))) pd) (.left (decide ((-9223372036854775808 : Int) ≤ (↑(y (a.toNat + 0) % 256) : Int) ∧ (↑(y (a.toNat + 0) % 256) : Int) ≤ 9223372036854775807)) (.left (decide ((↑(y (a.toNat + 0) % 256) : Int) = (↑(y (a.toNat + 0) % 256) : Int))) (.left (decide ((↑(y (a.toNat + 0) % 256) : Int) = (↑(y (a.toNat + 0) % 256) : Int))) (.left (decide ((0 : Int) ≤ 0 ∧ 0 < (a + 91).toNat - a.toNat)) (.left (decide ((↑(y (a.toNat + 0) % 256) : Int) = (↑(y (a.toNat + 0) % 256) : Int))) (.left (@decide (s3 ((a + 91).toNat - a.toNat) (fun (i : Nat) => by8 y (a.toNat + i))) pd) (.stop (Hd.call 56 [.data 1 ((a + 91).toNat - a.toNat) fun (i : Nat) => by8 y (a.toNat + i), .int .i64 (83 : Int)]) [] ([]))))))))))))))))))))) (by kernel_rfl) ?_
  refine hzr (fun h7 => by omega) ?_
  refine hl (bc fun h7 => by omega) ?_
  refine hl (bc fun h7 => by exact h7 ⟨rfl, rfl, rfl⟩) ?_
  refine hl (bc fun h7 => by omega) ?_
  refine hl (bc fun h7 => by omega) ?_
  refine hl (bc fun h7 => by omega) ?_
  refine hl (bc fun h7 => by omega) ?_
  refine hl (bc fun h7 => by omega) ?_
  refine hl (bc fun h7 => by exact h7 ⟨rfl, rfl, rfl⟩) ?_
  refine hl (bc fun h7 => by omega) ?_
  refine hl (bc fun h7 => by omega) ?_
  refine hl (bc fun h7 => by omega) ?_
  refine hl (bc fun h7 => by exact h7 ⟨rfl, rfl, rfl⟩) ?_
  refine hl (bc fun h7 => by omega) ?_
  refine hl (bc fun h7 => by omega) ?_
  refine hl (bc fun h7 => by omega) ?_
  refine hl (bc fun h7 => by omega) ?_
  refine hl (bc fun h7 => by omega) ?_
  refine hl (bc fun h7 => by exact h7 ⟨rfl, rfl, rfl⟩) ?_
  refine hold_stop (fun hd hb => ?_)
  refine num_call hd (by omega) ?_
  intro bh7
  refine ok_sk (.r (.l (.l (.l (.l (.l (.l (.l (.l (.l (.l (.l (.l (.l (.l (.l (.l (.l (.stop []))))))))))))))))))) (S := .right (decide (((-9223372036854775808 : Int) ≤ n8 fun (i : Nat) => y (a.toNat + (67 + i))) ∧ (n8 fun (i : Nat) => y (a.toNat + (67 + i))) ≤ 9223372036854775807)) (.left (decide (IntKind.i64.wrap (n8 fun (i : Nat) => y (a.toNat + (67 + i))) = IntKind.i64.wrap (n8 fun (i : Nat) => y (a.toNat + (67 + i))))) (.left (decide ((-9223372036854775808 : Int) ≤ (↑(y (a.toNat + 66) % 256) : Int) ∧ (↑(y (a.toNat + 66) % 256) : Int) ≤ 9223372036854775807)) (.left (decide ((↑(y (a.toNat + 66) % 256) : Int) = (↑(y (a.toNat + 66) % 256) : Int))) (.left (decide ((↑(y (a.toNat + 66) % 256) : Int) = (↑(y (a.toNat + 66) % 256) : Int))) (.left (decide ((0 : Int) ≤ 66 ∧ 66 < (a + 91).toNat - a.toNat)) (.left (decide ((↑(y (a.toNat + 66) % 256) : Int) = (↑(y (a.toNat + 66) % 256) : Int))) (.left (@decide (s3 ((a + 91).toNat - a.toNat) (fun (i : Nat) => by8 y (a.toNat + i))) pd) (.left (decide ((↑(y (a.toNat + 57) % 256) : Int) = (↑(y (a.toNat + 57) % 256) : Int))) (.left (decide ((0 : Int) ≤ 57 ∧ 57 < (a + 91).toNat - a.toNat)) (.left (decide ((↑(y (a.toNat + 57) % 256) : Int) = (↑(y (a.toNat + 57) % 256) : Int))) (.left (@decide (s3 ((a + 91).toNat - a.toNat) (fun (i : Nat) => by8 y (a.toNat + i))) pd) (.left (decide ((-9223372036854775808 : Int) ≤ (↑(y (a.toNat + 0) % 256) : Int) ∧ (↑(y (a.toNat + 0) % 256) : Int) ≤ 9223372036854775807)) (.left (decide ((↑(y (a.toNat + 0) % 256) : Int) = (↑(y (a.toNat + 0) % 256) : Int))) (.left (decide ((↑(y (a.toNat + 0) % 256) : Int) = (↑(y (a.toNat + 0) % 256) : Int))) (.left (decide ((0 : Int) ≤ 0 ∧ 0 < (a + 91).toNat - a.toNat)) (.left (decide ((↑(y (a.toNat + 0) % 256) : Int) = (↑(y (a.toNat + 0) % 256) : Int))) (.left (@decide (s3 ((a + 91).toNat - a.toNat) (fun (i : Nat) => by8 y (a.toNat + i))) pd) (.stop (Hd.call 56 [.data 1 ((a + 91).toNat - a.toNat) fun (i : Nat) => by8 y (a.toNat + i), .int .i64 (9 : Int)]) [] ([])))))))))))))))))))) (by kernel_rfl) ?_
  refine hzr (fun h8 => by omega) ?_
  refine hl (bc fun h8 => by omega) ?_
  refine hl (bc fun h8 => by omega) ?_
  refine hl (bc fun h8 => by omega) ?_
  refine hl (bc fun h8 => by omega) ?_
  refine hl (bc fun h8 => by omega) ?_
  refine hl (bc fun h8 => by omega) ?_
  refine hl (bc fun h8 => by exact h8 ⟨rfl, rfl, rfl⟩) ?_
  refine hl (bc fun h8 => by omega) ?_
  refine hl (bc fun h8 => by omega) ?_
  refine hl (bc fun h8 => by omega) ?_
  refine hl (bc fun h8 => by exact h8 ⟨rfl, rfl, rfl⟩) ?_
  refine hl (bc fun h8 => by omega) ?_
  refine hl (bc fun h8 => by omega) ?_
  refine hl (bc fun h8 => by omega) ?_
  refine hl (bc fun h8 => by omega) ?_
  refine hl (bc fun h8 => by omega) ?_
  refine hl (bc fun h8 => by exact h8 ⟨rfl, rfl, rfl⟩) ?_
  refine hold_stop (fun hd hb => ?_)
  refine num_call hd (by omega) ?_
  intro bh8
  refine ok_sk (.stop []) (S := .stop (Hd.call 56 [.data 1 ((a + 91).toNat - a.toNat) fun (i : Nat) => by8 y (a.toNat + i), .int .i64 (17 : Int)]) [] ([])) (by kernel_rfl) ?_
  refine hold_stop (fun hd hb => ?_)
  refine num_call hd (by omega) ?_
  intro bh9
  refine ok_sk (.stop []) (S := .stop (Hd.call 56 [.data 1 ((a + 91).toNat - a.toNat) fun (i : Nat) => by8 y (a.toNat + i), .int .i64 (25 : Int)]) [] ([])) (by kernel_rfl) ?_
  refine hold_stop (fun hd hb => ?_)
  refine num_call hd (by omega) ?_
  intro bh10
  refine ok_sk (.stop []) (S := .stop (Hd.call 56 [.data 1 ((a + 91).toNat - a.toNat) fun (i : Nat) => by8 y (a.toNat + i), .int .i64 (33 : Int)]) [] ([])) (by kernel_rfl) ?_
  refine hold_stop (fun hd hb => ?_)
  refine num_call hd (by omega) ?_
  intro bh11
  refine ok_sk (.stop []) (S := .stop (Hd.call 56 [.data 1 ((a + 91).toNat - a.toNat) fun (i : Nat) => by8 y (a.toNat + i), .int .i64 (41 : Int)]) [] ([])) (by kernel_rfl) ?_
  refine hold_stop (fun hd hb => ?_)
  refine num_call hd (by omega) ?_
  intro bh12
  refine ok_sk (.stop []) (S := .stop (Hd.call 56 [.data 1 ((a + 91).toNat - a.toNat) fun (i : Nat) => by8 y (a.toNat + i), .int .i64 (49 : Int)]) [] ([])) (by kernel_rfl) ?_
  refine hold_stop (fun hd hb => ?_)
  refine num_call hd (by omega) ?_
  intro bh13
  refine ok_sk (.l (.stop [])) (S := .left (@decide (AllBytes ((a + 91).toNat - a.toNat) fun (i : Nat) => by8 y (a.toNat + i)) pd) (.stop (Hd.call 24 [.agg [.sint .i64 (↑(y (a.toNat + 0) % 256) : Int), .sint .u64 (n8 fun (i : Nat) => y (a.toNat + (1 + i))), .sint .u64 (n8 fun (i : Nat) => y (a.toNat + (9 + i))), .sint .u64 (n8 fun (i : Nat) => y (a.toNat + (17 + i))), .sint .u64 (n8 fun (i : Nat) => y (a.toNat + (25 + i))), .sint .u64 (n8 fun (i : Nat) => y (a.toNat + (33 + i))), .sint .u64 (n8 fun (i : Nat) => y (a.toNat + (41 + i))), .sint .u64 (n8 fun (i : Nat) => y (a.toNat + (49 + i))), .sint .u8 (↑(y (a.toNat + 57) % 256) : Int), .sint .u64 (n8 fun (i : Nat) => y (a.toNat + (58 + i))), .sint .i64 (↑(y (a.toNat + 66) % 256) : Int), .sint .i64 (IntKind.i64.wrap (n8 fun (i : Nat) => y (a.toNat + (67 + i)))), .sint .u64 (n8 fun (i : Nat) => y (a.toNat + (75 + i))), .sint .u64 (n8 fun (i : Nat) => y (a.toNat + (83 + i)))]]) [] ([]))) (by kernel_rfl) ?_
  refine hl (bc fun h14 => by exact h14 (all_b8 _ fun i => y (a.toNat + i))) ?_
  refine hold_stop (fun hd hb => ?_)
  first
    | (refine ok_call0 hd (rput0 (evB a.toNat y) (evB_rng _ _)) rfl ?_
       rintro x G (⟨rfl, rfl, my⟩ | ⟨rfl, rfl, my⟩) <;> first | refine ⟨rfl, fun g hg => (by rcases List.mem_singleton.1 hg with rfl; exact rfl), ?_⟩ | refine ⟨rfl, fun g hg => (by cases hg), ?_⟩)
    | (refine ok_call0 hd (rput0 (evBw a.toNat y) (evBw_rng _ _)) rfl ?_
       rintro x G (⟨rfl, rfl, my⟩ | ⟨rfl, rfl, my⟩) <;> first | exact ((evBw_no a.toNat y (by assumption)).1 my).elim | (have mz := (evBw_no a.toNat y (by assumption)).2; refine ⟨rfl, fun g hg => (by cases hg), ?_⟩))
  refine ok_sk (.l (.l (.l (.r (.stop []))))) (S := .left (@decide (AllBytes ((a + 91).toNat - a.toNat) fun (i : Nat) => by8 y (a.toNat + i)) pd) (.left (decide ((bytesOf ((a + 91).toNat - a.toNat) fun (i : Nat) => by8 y (a.toNat + i)) = bytesOf ((a + 91).toNat - a.toNat) fun (i : Nat) => by8 y (a.toNat + i))) (.left (@decide (s3 ((a + 91).toNat - a.toNat) (fun (i : Nat) => by8 y (a.toNat + i))) pd) (.right (decide ([] = bytesOf ((a + 91).toNat - a.toNat) fun (i : Nat) => by8 y (a.toNat + i))) (.stop (Hd.leaf (.tuple [.agg [.int .i64 (0 : Int), .int .u64 (0 : Int), .int .u64 (0 : Int), .int .u64 (0 : Int), .int .u64 (0 : Int), .int .u64 (0 : Int), .int .u64 (0 : Int), .int .u64 (0 : Int), .int .u8 (0 : Int), .int .u64 (0 : Int), .int .i64 (0 : Int), .int .i64 (0 : Int), .int .u64 (0 : Int), .int .u64 (0 : Int)], .int .i64 (0 : Int), .int .i64 (5 : Int)])) [] ([])))))) (by kernel_rfl) ?_
  refine hl (bc fun h15 => by exact h15 (all_b8 _ fun i => y (a.toNat + i))) ?_
  refine hl (bc fun h15 => by exact h15 rfl) ?_
  refine hl (bc fun h15 => by exact h15 ⟨rfl, rfl, rfl⟩) ?_
  refine hzr (fun h15 => by exact nil_ne (by omega) h15) ?_
  refine hold_stop (fun hd hb => ?_)
  exact ok_leaf0 hd rfl ⟨rfl, .inr ⟨_, rfl, .inr rfl, fun h => mz h.2⟩⟩
end Go.Proofs.Ytjihbjjekhncaaa
namespace Go.Proofs.Ytjihbjjekhncaaa
open Go Go.RowKit Sv
set_option linter.unusedVariables false
set_option maxRecDepth 100000
set_option maxHeartbeats 0
theorem rtake' (n : Nat) (y : Nat → Nat) (hn : n ≤ 1099511627776) (a : Int) (ha : 0 ≤ a ∧ a ≤ 1099511627776) : Runs Try.prog 17 [.data 1 n (by8 y), .sint .i64 a] fun x G => G = [] ∧
    ((x = .tuple [.agg (evAt a.toNat y).row, .sint .i64 (a + 91), .int .i64 0] ∧ a + 91 ≤ n ∧ (evAt a.toNat y).may) ∨ (∃ e, x = .tuple [.agg zrow, .int .i64 0, .int .i64 e] ∧ ((e = 1 ∧ (n : Int) < a) ∨ e = 5) ∧ ¬ (a + 91 ≤ n ∧ (evAt a.toNat y).may))) := by
  have h := rtake n y hn a ha
  rw [evB_eq] at h
  exact h
def rallS (n : Nat) (y : Nat → Nat) (q : Nat) : List AV := [.data 1 n (by8 y), .top, .top, .top, .gsl 0 q, .sint .i64 (91 * q), .top, .top, .top, .top, .top, .top, .top, .top, .top, .top, .top, .top, .top, .top, .top, .top, .top, .top, .top, .top, .top, .top]
theorem rall (n : Nat) (y : Nat → Nat) (hn : n ≤ 5000) : Runs Try.prog 19 [.data 1 n (by8 y)] fun x G =>
    (∃ q, n = 91 * q ∧ allMay y q ∧ x = .tuple [.gsl 0 q, .int .i64 0] ∧ G = allG y q) ∨ (x = .tuple [.nilSlice, .int .i64 5] ∧ G = [] ∧ ¬ ∃ q, n = 91 * q ∧ allMay y q) ∨ (x = .tuple [.nilSlice, .int .i64 0] ∧ G = [] ∧ n = 0) := by
  refine runs_treeF plain mixed (fun g => Nat.beq g 17) (fun _ => true) 60 ?_
  refine ok_sk (.stop []) (S := .stop (Hd.loop 54 [.data 1 n (by8 y), .tuple [], .nilSlice, .int .i64 (0 : Int), .nilSlice, .int .i64 (0 : Int), .tuple [], .tuple [], .tuple [], .tuple [], .tuple [], .tuple [], .tuple [], .tuple [], .tuple [], .tuple [], .tuple [], .tuple [], .tuple [], .tuple [], .tuple [], .tuple [], .tuple [], .tuple [], .tuple [], .tuple [], .tuple [], .tuple []]) [] ([])) (by kernel_rfl) ?_
  refine hold_stop (fun hd hb => ?_)
  refine ok_loop hd (X := {q : Nat // 91 * q ≤ n ∧ allMay y q}) (fun q => rallS n y q.1) (fun q => allG y q.1) (fun q => n - 91 * q.1) [none] ⟨0, by omega, fun j hj => absurd hj (Nat.not_lt_zero j)⟩ (fits_none (by simp [rallS, fitsA, fitA, nf])) ?_
  rintro ⟨q, q1, qm⟩
  refine ok_sk (.both (.stop []) (.stop [0])) (S := .fork (decide ((91 : Int) * (↑q : Int) < (↑n : Int))) (.stop (Hd.call 17 [.data 1 n (by8 y), .sint .i64 ((91 : Int) * (↑q : Int))]) [] ([])) (.stop (Hd.leaf (.tuple [.gsl 0 q, .int .i64 (0 : Int)])) [0] ([(some (Blk.seq 0 14 q (allF y)), some (14, q, allF y))]))) (by kernel_rfl) ?_
  refine hold_forkD (fun h1 => ?_) (fun h1 => ?_)
  ·
   refine hold_stop (fun hd hb => ?_)
   refine ok_call0 hd (rtake' n y (by omega) (91 * (q : Int)) ⟨by omega, by omega⟩) rfl ?_
   rintro x G ⟨rfl, ⟨rfl, k1, km⟩ | ⟨e, rfl, ⟨rfl, ke⟩ | rfl, km⟩⟩ <;> first | (exfalso; omega) | refine ⟨rfl, fun g hg => (by cases hg), ?_⟩
   ·
    refine ok_sk (.l (.l (.stop [3, 1, 0, 2]))) (S := .left (@decide (1 < 65536 ∧ RowsOK 14 1 fun (i : Nat) => List.take 14 (List.drop (i * 14) [.sint .i64 (evAt ((91 : Int) * (↑q : Int)).toNat y).o, .sint .u64 (evAt ((91 : Int) * (↑q : Int)).toNat y).s, .sint .u64 (evAt ((91 : Int) * (↑q : Int)).toNat y).d0, .sint .u64 (evAt ((91 : Int) * (↑q : Int)).toNat y).d1, .sint .u64 (evAt ((91 : Int) * (↑q : Int)).toNat y).d2, .sint .u64 (evAt ((91 : Int) * (↑q : Int)).toNat y).d3, .sint .u64 (evAt ((91 : Int) * (↑q : Int)).toNat y).d4, .sint .u64 (evAt ((91 : Int) * (↑q : Int)).toNat y).d5, .sint .u8 (evAt ((91 : Int) * (↑q : Int)).toNat y).k, .sint .u64 (evAt ((91 : Int) * (↑q : Int)).toNat y).n, .sint .i64 (evAt ((91 : Int) * (↑q : Int)).toNat y).t, .sint .i64 (evAt ((91 : Int) * (↑q : Int)).toNat y).a, .sint .u64 (evAt ((91 : Int) * (↑q : Int)).toNat y).r, .sint .u64 (evAt ((91 : Int) * (↑q : Int)).toNat y).f])) pd) (.left (decide (q ≤ q ∧ q < 65536)) (.stop (Hd.again (again' (fun (q : { q : Nat // 91 * q ≤ n ∧ allMay y q }) => rallS n y q.val) (fun (q : { q : Nat // 91 * q ≤ n ∧ allMay y q }) => allG y q.val) (fun (q : { q : Nat // 91 * q ≤ n ∧ allMay y q }) => n - 91 * q.val) ⟨q, ⟨q1, qm⟩⟩) [.data 1 n (by8 y), .top, .top, .top, .gsl 3 (q + 1), .sint .i64 ((91 : Int) * (↑q : Int) + 91), .ptr 1 0, .sint .i64 ((91 : Int) * (↑q : Int) + 91), .int .i64 (0 : Int), .sint .i64 ((91 : Int) * (↑q : Int)), .data 1 n (by8 y), .sint .i64 (↑n : Int), .bool true, .tuple [.agg [.sint .i64 (evAt ((91 : Int) * (↑q : Int)).toNat y).o, .sint .u64 (evAt ((91 : Int) * (↑q : Int)).toNat y).s, .sint .u64 (evAt ((91 : Int) * (↑q : Int)).toNat y).d0, .sint .u64 (evAt ((91 : Int) * (↑q : Int)).toNat y).d1, .sint .u64 (evAt ((91 : Int) * (↑q : Int)).toNat y).d2, .sint .u64 (evAt ((91 : Int) * (↑q : Int)).toNat y).d3, .sint .u64 (evAt ((91 : Int) * (↑q : Int)).toNat y).d4, .sint .u64 (evAt ((91 : Int) * (↑q : Int)).toNat y).d5, .sint .u8 (evAt ((91 : Int) * (↑q : Int)).toNat y).k, .sint .u64 (evAt ((91 : Int) * (↑q : Int)).toNat y).n, .sint .i64 (evAt ((91 : Int) * (↑q : Int)).toNat y).t, .sint .i64 (evAt ((91 : Int) * (↑q : Int)).toNat y).a, .sint .u64 (evAt ((91 : Int) * (↑q : Int)).toNat y).r, .sint .u64 (evAt ((91 : Int) * (↑q : Int)).toNat y).f], .sint .i64 ((91 : Int) * (↑q : Int) + 91), .int .i64 (0 : Int)], .data 1 n (by8 y), .sint .i64 ((91 : Int) * (↑q : Int)), .tuple [.agg [.sint .i64 (evAt ((91 : Int) * (↑q : Int)).toNat y).o, .sint .u64 (evAt ((91 : Int) * (↑q : Int)).toNat y).s, .sint .u64 (evAt ((91 : Int) * (↑q : Int)).toNat y).d0, .sint .u64 (evAt ((91 : Int) * (↑q : Int)).toNat y).d1, .sint .u64 (evAt ((91 : Int) * (↑q : Int)).toNat y).d2, .sint .u64 (evAt ((91 : Int) * (↑q : Int)).toNat y).d3, .sint .u64 (evAt ((91 : Int) * (↑q : Int)).toNat y).d4, .sint .u64 (evAt ((91 : Int) * (↑q : Int)).toNat y).d5, .sint .u8 (evAt ((91 : Int) * (↑q : Int)).toNat y).k, .sint .u64 (evAt ((91 : Int) * (↑q : Int)).toNat y).n, .sint .i64 (evAt ((91 : Int) * (↑q : Int)).toNat y).t, .sint .i64 (evAt ((91 : Int) * (↑q : Int)).toNat y).a, .sint .u64 (evAt ((91 : Int) * (↑q : Int)).toNat y).r, .sint .u64 (evAt ((91 : Int) * (↑q : Int)).toNat y).f], .sint .i64 ((91 : Int) * (↑q : Int) + 91), .int .i64 (0 : Int)], .agg [.sint .i64 (evAt ((91 : Int) * (↑q : Int)).toNat y).o, .sint .u64 (evAt ((91 : Int) * (↑q : Int)).toNat y).s, .sint .u64 (evAt ((91 : Int) * (↑q : Int)).toNat y).d0, .sint .u64 (evAt ((91 : Int) * (↑q : Int)).toNat y).d1, .sint .u64 (evAt ((91 : Int) * (↑q : Int)).toNat y).d2, .sint .u64 (evAt ((91 : Int) * (↑q : Int)).toNat y).d3, .sint .u64 (evAt ((91 : Int) * (↑q : Int)).toNat y).d4, .sint .u64 (evAt ((91 : Int) * (↑q : Int)).toNat y).d5, .sint .u8 (evAt ((91 : Int) * (↑q : Int)).toNat y).k, .sint .u64 (evAt ((91 : Int) * (↑q : Int)).toNat y).n, .sint .i64 (evAt ((91 : Int) * (↑q : Int)).toNat y).t, .sint .i64 (evAt ((91 : Int) * (↑q : Int)).toNat y).a, .sint .u64 (evAt ((91 : Int) * (↑q : Int)).toNat y).r, .sint .u64 (evAt ((91 : Int) * (↑q : Int)).toNat y).f], .sint .i64 ((91 : Int) * (↑q : Int) + 91), .int .i64 (0 : Int), .int .i64 (0 : Int), .bool false, .gsl 0 q, .agg [.sint .i64 (evAt ((91 : Int) * (↑q : Int)).toNat y).o, .sint .u64 (evAt ((91 : Int) * (↑q : Int)).toNat y).s, .sint .u64 (evAt ((91 : Int) * (↑q : Int)).toNat y).d0, .sint .u64 (evAt ((91 : Int) * (↑q : Int)).toNat y).d1, .sint .u64 (evAt ((91 : Int) * (↑q : Int)).toNat y).d2, .sint .u64 (evAt ((91 : Int) * (↑q : Int)).toNat y).d3, .sint .u64 (evAt ((91 : Int) * (↑q : Int)).toNat y).d4, .sint .u64 (evAt ((91 : Int) * (↑q : Int)).toNat y).d5, .sint .u8 (evAt ((91 : Int) * (↑q : Int)).toNat y).k, .sint .u64 (evAt ((91 : Int) * (↑q : Int)).toNat y).n, .sint .i64 (evAt ((91 : Int) * (↑q : Int)).toNat y).t, .sint .i64 (evAt ((91 : Int) * (↑q : Int)).toNat y).a, .sint .u64 (evAt ((91 : Int) * (↑q : Int)).toNat y).r, .sint .u64 (evAt ((91 : Int) * (↑q : Int)).toNat y).f], .slice 2 0 1 1 true, .gsl 3 (q + 1), .sint .i64 ((91 : Int) * (↑q : Int) + 91), .top]) [3, 1, 0, 2] ([(some (Blk.seq 3 14 (q + 1) (glue q (allF y) fun (i : Nat) => List.take 14 (List.drop (i * 14) [.sint .i64 (evAt ((91 : Int) * (↑q : Int)).toNat y).o, .sint .u64 (evAt ((91 : Int) * (↑q : Int)).toNat y).s, .sint .u64 (evAt ((91 : Int) * (↑q : Int)).toNat y).d0, .sint .u64 (evAt ((91 : Int) * (↑q : Int)).toNat y).d1, .sint .u64 (evAt ((91 : Int) * (↑q : Int)).toNat y).d2, .sint .u64 (evAt ((91 : Int) * (↑q : Int)).toNat y).d3, .sint .u64 (evAt ((91 : Int) * (↑q : Int)).toNat y).d4, .sint .u64 (evAt ((91 : Int) * (↑q : Int)).toNat y).d5, .sint .u8 (evAt ((91 : Int) * (↑q : Int)).toNat y).k, .sint .u64 (evAt ((91 : Int) * (↑q : Int)).toNat y).n, .sint .i64 (evAt ((91 : Int) * (↑q : Int)).toNat y).t, .sint .i64 (evAt ((91 : Int) * (↑q : Int)).toNat y).a, .sint .u64 (evAt ((91 : Int) * (↑q : Int)).toNat y).r, .sint .u64 (evAt ((91 : Int) * (↑q : Int)).toNat y).f]))), some (14, q + 1, glue q (allF y) fun (i : Nat) => List.take 14 (List.drop (i * 14) [.sint .i64 (evAt ((91 : Int) * (↑q : Int)).toNat y).o, .sint .u64 (evAt ((91 : Int) * (↑q : Int)).toNat y).s, .sint .u64 (evAt ((91 : Int) * (↑q : Int)).toNat y).d0, .sint .u64 (evAt ((91 : Int) * (↑q : Int)).toNat y).d1, .sint .u64 (evAt ((91 : Int) * (↑q : Int)).toNat y).d2, .sint .u64 (evAt ((91 : Int) * (↑q : Int)).toNat y).d3, .sint .u64 (evAt ((91 : Int) * (↑q : Int)).toNat y).d4, .sint .u64 (evAt ((91 : Int) * (↑q : Int)).toNat y).d5, .sint .u8 (evAt ((91 : Int) * (↑q : Int)).toNat y).k, .sint .u64 (evAt ((91 : Int) * (↑q : Int)).toNat y).n, .sint .i64 (evAt ((91 : Int) * (↑q : Int)).toNat y).t, .sint .i64 (evAt ((91 : Int) * (↑q : Int)).toNat y).a, .sint .u64 (evAt ((91 : Int) * (↑q : Int)).toNat y).r, .sint .u64 (evAt ((91 : Int) * (↑q : Int)).toNat y).f]))), (some (Blk.cells 1 none [.sint .i64 (evAt ((91 : Int) * (↑q : Int)).toNat y).o, .sint .u64 (evAt ((91 : Int) * (↑q : Int)).toNat y).s, .sint .u64 (evAt ((91 : Int) * (↑q : Int)).toNat y).d0, .sint .u64 (evAt ((91 : Int) * (↑q : Int)).toNat y).d1, .sint .u64 (evAt ((91 : Int) * (↑q : Int)).toNat y).d2, .sint .u64 (evAt ((91 : Int) * (↑q : Int)).toNat y).d3, .sint .u64 (evAt ((91 : Int) * (↑q : Int)).toNat y).d4, .sint .u64 (evAt ((91 : Int) * (↑q : Int)).toNat y).d5, .sint .u8 (evAt ((91 : Int) * (↑q : Int)).toNat y).k, .sint .u64 (evAt ((91 : Int) * (↑q : Int)).toNat y).n, .sint .i64 (evAt ((91 : Int) * (↑q : Int)).toNat y).t, .sint .i64 (evAt ((91 : Int) * (↑q : Int)).toNat y).a, .sint .u64 (evAt ((91 : Int) * (↑q : Int)).toNat y).r, .sint .u64 (evAt ((91 : Int) * (↑q : Int)).toNat y).f]), none), (some Blk.dead, none), (some (Blk.cells 2 none [.sint .i64 (evAt ((91 : Int) * (↑q : Int)).toNat y).o, .sint .u64 (evAt ((91 : Int) * (↑q : Int)).toNat y).s, .sint .u64 (evAt ((91 : Int) * (↑q : Int)).toNat y).d0, .sint .u64 (evAt ((91 : Int) * (↑q : Int)).toNat y).d1, .sint .u64 (evAt ((91 : Int) * (↑q : Int)).toNat y).d2, .sint .u64 (evAt ((91 : Int) * (↑q : Int)).toNat y).d3, .sint .u64 (evAt ((91 : Int) * (↑q : Int)).toNat y).d4, .sint .u64 (evAt ((91 : Int) * (↑q : Int)).toNat y).d5, .sint .u8 (evAt ((91 : Int) * (↑q : Int)).toNat y).k, .sint .u64 (evAt ((91 : Int) * (↑q : Int)).toNat y).n, .sint .i64 (evAt ((91 : Int) * (↑q : Int)).toNat y).t, .sint .i64 (evAt ((91 : Int) * (↑q : Int)).toNat y).a, .sint .u64 (evAt ((91 : Int) * (↑q : Int)).toNat y).r, .sint .u64 (evAt ((91 : Int) * (↑q : Int)).toNat y).f]), none)])))) (by kernel_rfl) ?_
    refine hl (bc fun h3 => by exact h3 ⟨by omega, fun i hi => (by obtain rfl : i = 0 := (by omega); exact ⟨rfl, rfl⟩)⟩) ?_
    refine hl (bc fun h3 => by omega) ?_
    refine hold_stop (fun hd hb => ?_)
    refine ok_again hd _ ⟨q + 1, by omega, all_next qm km⟩ ?_ (fits_seq (look_hd hb) ?_ (Nat.le_refl _) (all_glue y q ?_))
    · show n - 91 * (q + 1) < n - 91 * q
      omega
    · simp [rallS, fitsA, fitA, nf] <;> omega
    · rfl
   refine ok_sk (.stop []) (S := .stop (Hd.leaf (.tuple [.nilSlice, .int .i64 (5 : Int)])) [] ([])) (by kernel_rfl) ?_
   refine hold_stop (fun hd hb => ?_)
   exact ok_leaf0 hd rfl (.inr (.inl ⟨rfl, rfl, all_no km (by omega)⟩))
  refine hold_stop (fun hd hb => ?_)
  exact ok_leafG hd hb (y := .tuple [.gsl 0 q, .int .i64 0]) (by simp [fitA, fitsA, nf]) (Nat.le_refl _) (fun i hi => ⟨rfl, rfl⟩) (.inl ⟨q, by omega, qm, rfl, rfl⟩)
end Go.Proofs.Ytjihbjjekhncaaa
namespace Go.Proofs.Ytjihbjjekhncaaa
open Go Go.RowKit Sv
set_option linter.unusedVariables false
set_option maxRecDepth 100000
set_option maxHeartbeats 0
def rmM (i : Nat) : List AV := [.top, .ptr 0 0, .top, .sint .i64 (i : Int), .top, .top, .top, .top, .top, .top, .top, .top, .top, .top, .top, .top, .top, .top, .top, .top, .top, .top, .top, .top, .top, .top, .top, .top, .top, .top, .top, .top, .top, .top, .top, .top, .top, .top, .top, .top, .top, .top, .top, .top, .top, .top, .top, .top, .top, .top, .top, .top, .top, .top, .top, .top, .top, .top, .top, .top, .top, .top, .top, .top, .top, .top, .top, .top, .top, .top, .top, .top, .top, .top, .top, .top, .top, .top, .top, .top, .top, .top]
theorem rmayM (m : MsI) (q : Nat) (E : Nat → EvI) (hq : q ≤ 1099511627776) (hr : m.rng) (hE : ∀ j, j < q → (E j).rng) : Runs Try.prog 31 [.agg (m.row (evs q E))] fun x G => G = [] ∧ ((x = .bool true ∧ m.may q E) ∨ (x = .bool false ∧ ¬ m.may q E)) := by
  unfold MsI.rng at hr
  refine runs_treeF plain mixed (fun g => Nat.beq g 22) (fun _ => true) 60 ?_
  refine ok_sk (.both (.both (.both (.both (.both (.stop []) (.both (.stop []) (.both (.stop []) (.both (.stop []) (.both (.stop []) (.both (.stop []) (.both (.stop []) (.both (.both (.both (.stop []) (.both (.both (.stop []) (.stop [])) (.stop []))) (.stop [])) (.both (.both (.stop []) (.both (.both (.stop [0]) (.stop [])) (.stop []))) (.stop [])))))))))) (.stop [])) (.stop [])) (.stop [])) (.stop [])) (S := .fork (decide (1 ≤ m.f)) (.fork (decide (m.f ≤ 6)) (.fork (decide (1 ≤ m.t)) (.fork (decide (m.t ≤ 6)) (.fork (decide (m.f = m.t)) (.stop (Hd.leaf (.bool false)) [] ([])) (.fork (decide (1099511627776 < m.v0)) (.stop (Hd.leaf (.bool false)) [] ([])) (.fork (decide (1099511627776 < m.v1)) (.stop (Hd.leaf (.bool false)) [] ([])) (.fork (decide (1099511627776 < m.v2)) (.stop (Hd.leaf (.bool false)) [] ([])) (.fork (decide (1099511627776 < m.v3)) (.stop (Hd.leaf (.bool false)) [] ([])) (.fork (decide (1099511627776 < m.v4)) (.stop (Hd.leaf (.bool false)) [] ([])) (.fork (decide (1099511627776 < m.v5)) (.stop (Hd.leaf (.bool false)) [] ([])) (.fork (decide (m.k = 2)) (.fork (decide ((↑q : Int) = 0)) (.fork (decide (m.n = 0)) (.stop (Hd.leaf (.bool false)) [] ([])) (.fork (decide (1 ≤ m.a)) (.fork (decide (m.a ≤ 1125899906842624)) (.stop (Hd.leaf (.bool true)) [] ([])) (.stop (Hd.leaf (.bool false)) [] ([]))) (.stop (Hd.leaf (.bool false)) [] ([])))) (.stop (Hd.leaf (.bool false)) [] ([]))) (.fork (decide (m.k = 1)) (.fork (decide (16 < (↑q : Int))) (.stop (Hd.leaf (.bool false)) [] ([])) (.fork (decide (m.n = 0)) (.fork (decide (m.a = 0)) (.stop (Hd.loop 52 [.agg [.sint .u8 m.k, .sint .i64 m.f, .sint .i64 m.t, .sint .u64 m.v0, .sint .u64 m.v1, .sint .u64 m.v2, .sint .u64 m.v3, .sint .u64 m.v4, .sint .u64 m.v5, .data 14 q fun (i : Nat) => (E i).row, .sint .u64 m.n, .sint .i64 m.a], .ptr 0 0, .bool false, .int .i64 (0 : Int), .ptr 0 1, .sint .i64 m.f, .bool true, .bool false, .bool false, .ptr 0 2, .sint .i64 m.t, .bool true, .bool false, .bool false, .bool false, .ptr 0 1, .sint .i64 m.f, .ptr 0 2, .sint .i64 m.t, .bool false, .bool false, .bool false, .ptr 0 3, .agg [.sint .u64 m.v0, .sint .u64 m.v1, .sint .u64 m.v2, .sint .u64 m.v3, .sint .u64 m.v4, .sint .u64 m.v5], .bool true, .bool false, .bool false, .ptr 0 0, .sint .u8 m.k, .bool false, .tuple [], .tuple [], .tuple [], .tuple [], .tuple [], .tuple [], .tuple [], .tuple [], .tuple [], .tuple [], .tuple [], .tuple [], .tuple [], .tuple [], .tuple [], .tuple [], .tuple [], .tuple [], .tuple [], .ptr 0 0, .sint .u8 m.k, .bool false, .bool false, .ptr 0 9, .data 14 q fun (i : Nat) => (E i).row, .sint .i64 (↑q : Int), .bool false, .bool false, .bool false, .ptr 0 10, .sint .u64 m.n, .bool false, .bool false, .bool false, .ptr 0 11, .sint .i64 m.a, .bool false, .bool false, .tuple [], .tuple [], .tuple [], .tuple [], .tuple [], .tuple [], .tuple [], .tuple [], .tuple [], .tuple [], .tuple [], .tuple [], .tuple [], .tuple []]) [0] ([(some (Blk.cells 0 none [.sint .u8 m.k, .sint .i64 m.f, .sint .i64 m.t, .sint .u64 m.v0, .sint .u64 m.v1, .sint .u64 m.v2, .sint .u64 m.v3, .sint .u64 m.v4, .sint .u64 m.v5, .data 14 q fun (i : Nat) => (E i).row, .sint .u64 m.n, .sint .i64 m.a]), none)])) (.stop (Hd.leaf (.bool false)) [] ([]))) (.stop (Hd.leaf (.bool false)) [] ([])))) (.stop (Hd.leaf (.bool false)) [] ([]))))))))))) (.stop (Hd.leaf (.bool false)) [] ([]))) (.stop (Hd.leaf (.bool false)) [] ([]))) (.stop (Hd.leaf (.bool false)) [] ([]))) (.stop (Hd.leaf (.bool false)) [] ([]))) (by kernel_rfl) ?_
  refine hold_forkD (fun h0 => ?_) (fun h0 => ?_)
  ·
   refine hold_forkD (fun h1 => ?_) (fun h1 => ?_)
   ·
    refine hold_forkD (fun h2 => ?_) (fun h2 => ?_)
    ·
     refine hold_forkD (fun h3 => ?_) (fun h3 => ?_)
     ·
      refine hold_forkD (fun h4 => ?_) (fun h4 => ?_)
      ·
       refine hold_stop (fun hd hb => ?_)
       exact ok_leaf0 hd rfl ⟨rfl, .inr ⟨rfl, by unfold MsI.may; omega⟩⟩
      refine hold_forkD (fun h5 => ?_) (fun h5 => ?_)
      ·
       refine hold_stop (fun hd hb => ?_)
       exact ok_leaf0 hd rfl ⟨rfl, .inr ⟨rfl, by unfold MsI.may; omega⟩⟩
      refine hold_forkD (fun h6 => ?_) (fun h6 => ?_)
      ·
       refine hold_stop (fun hd hb => ?_)
       exact ok_leaf0 hd rfl ⟨rfl, .inr ⟨rfl, by unfold MsI.may; omega⟩⟩
      refine hold_forkD (fun h7 => ?_) (fun h7 => ?_)
      ·
       refine hold_stop (fun hd hb => ?_)
       exact ok_leaf0 hd rfl ⟨rfl, .inr ⟨rfl, by unfold MsI.may; omega⟩⟩
      refine hold_forkD (fun h8 => ?_) (fun h8 => ?_)
      ·
       refine hold_stop (fun hd hb => ?_)
       exact ok_leaf0 hd rfl ⟨rfl, .inr ⟨rfl, by unfold MsI.may; omega⟩⟩
      refine hold_forkD (fun h9 => ?_) (fun h9 => ?_)
      ·
       refine hold_stop (fun hd hb => ?_)
       exact ok_leaf0 hd rfl ⟨rfl, .inr ⟨rfl, by unfold MsI.may; omega⟩⟩
      refine hold_forkD (fun h10 => ?_) (fun h10 => ?_)
      ·
       refine hold_stop (fun hd hb => ?_)
       exact ok_leaf0 hd rfl ⟨rfl, .inr ⟨rfl, by unfold MsI.may; omega⟩⟩
      refine hold_forkD (fun h11 => ?_) (fun h11 => ?_)
      ·
       refine hold_forkD (fun h12 => ?_) (fun h12 => ?_)
       ·
        refine hold_forkD (fun h13 => ?_) (fun h13 => ?_)
        ·
         refine hold_stop (fun hd hb => ?_)
         exact ok_leaf0 hd rfl ⟨rfl, .inr ⟨rfl, by unfold MsI.may; omega⟩⟩
        refine hold_forkD (fun h14 => ?_) (fun h14 => ?_)
        ·
         refine hold_forkD (fun h15 => ?_) (fun h15 => ?_)
         ·
          refine hold_stop (fun hd hb => ?_)
          exact ok_leaf0 hd rfl ⟨rfl, .inl ⟨rfl, by unfold MsI.may; omega⟩⟩
         refine hold_stop (fun hd hb => ?_)
         exact ok_leaf0 hd rfl ⟨rfl, .inr ⟨rfl, by unfold MsI.may; omega⟩⟩
        refine hold_stop (fun hd hb => ?_)
        exact ok_leaf0 hd rfl ⟨rfl, .inr ⟨rfl, by unfold MsI.may; omega⟩⟩
       refine hold_stop (fun hd hb => ?_)
       exact ok_leaf0 hd rfl ⟨rfl, .inr ⟨rfl, by unfold MsI.may; omega⟩⟩
      refine hold_forkD (fun h12 => ?_) (fun h12 => ?_)
      ·
       refine hold_forkD (fun h13 => ?_) (fun h13 => ?_)
       ·
        refine hold_stop (fun hd hb => ?_)
        exact ok_leaf0 hd rfl ⟨rfl, .inr ⟨rfl, by unfold MsI.may; omega⟩⟩
       refine hold_forkD (fun h14 => ?_) (fun h14 => ?_)
       ·
        refine hold_forkD (fun h15 => ?_) (fun h15 => ?_)
        ·
         refine hold_stop (fun hd hb => ?_)
         refine ok_loop hd (X := {i : Nat // i ≤ q ∧ ∀ j, j < i → (E j).may}) (fun i => rmM i.1) (fun _ => [.cells none (m.row (evs q E))]) (fun i => q - i.1) [some 0] ⟨0, by omega, fun j hj => absurd hj (Nat.not_lt_zero j)⟩ (fits_cells (look_hd hb) (by simp [rmM, fitsA, fitA, nf]) (by simp [MsI.row, evs, fitsA, fitA, nf])) ?_
         rintro ⟨i, i1, im⟩
         refine ok_sk (.both (.l (.stop [])) (.stop [])) (S := .fork (decide ((↑i : Int) < (↑q : Int))) (.left (decide (0 ≤ (↑i : Int) ∧ (↑i : Int).toNat < q)) (.stop (Hd.call 22 [.agg [.sint .i64 (E (↑i : Int).toNat).o, .sint .u64 (E (↑i : Int).toNat).s, .sint .u64 (E (↑i : Int).toNat).d0, .sint .u64 (E (↑i : Int).toNat).d1, .sint .u64 (E (↑i : Int).toNat).d2, .sint .u64 (E (↑i : Int).toNat).d3, .sint .u64 (E (↑i : Int).toNat).d4, .sint .u64 (E (↑i : Int).toNat).d5, .sint .u8 (E (↑i : Int).toNat).k, .sint .u64 (E (↑i : Int).toNat).n, .sint .i64 (E (↑i : Int).toNat).t, .sint .i64 (E (↑i : Int).toNat).a, .sint .u64 (E (↑i : Int).toNat).r, .sint .u64 (E (↑i : Int).toNat).f]]) [] ([]))) (.stop (Hd.leaf (.bool true)) [] ([]))) (by kernel_rfl) ?_
         refine hold_forkD (fun h17 => ?_) (fun h17 => ?_)
         ·
          refine hl (bc fun h18 => by omega) ?_
          refine hold_stop (fun hd hb => ?_)
          refine ok_call0 hd (rmay (E (i : Int).toNat) (hE _ (by omega))) rfl ?_
          rintro x G ⟨rfl, ⟨rfl, my⟩ | ⟨rfl, my⟩⟩ <;> refine ⟨rfl, fun g hg => (by cases hg), ?_⟩
          ·
           refine ok_sk (.l (.stop [0])) (S := .left (decide ((-9223372036854775808 : Int) ≤ (↑i : Int) + 1 ∧ (↑i : Int) + 1 ≤ 9223372036854775807)) (.stop (Hd.again (again' (fun (i : { i : Nat // i ≤ q ∧ ∀ (j : Nat), j < i → (E j).may }) => rmM i.val) (fun (x : { i : Nat // i ≤ q ∧ ∀ (j : Nat), j < i → (E j).may }) => [NewB.cells none (m.row (evs q E))]) (fun (i : { i : Nat // i ≤ q ∧ ∀ (j : Nat), j < i → (E j).may }) => q - i.val) ⟨i, ⟨i1, im⟩⟩) [.top, .ptr 0 0, .top, .sint .i64 ((↑i : Int) + 1), .top, .top, .top, .top, .top, .top, .top, .top, .top, .top, .top, .top, .top, .top, .top, .top, .top, .top, .top, .top, .top, .top, .top, .top, .top, .top, .top, .top, .top, .top, .top, .top, .top, .top, .top, .top, .top, .top, .top, .top, .top, .top, .top, .top, .top, .top, .top, .top, .top, .top, .top, .top, .top, .top, .top, .top, .top, .top, .top, .top, .top, .top, .top, .top, .sint .i64 (↑i : Int), .ptr 0 9, .data 14 q fun (i : Nat) => (E i).row, .sint .i64 (↑q : Int), .bool true, .sint .i64 (↑i : Int), .sint .i64 ((↑i : Int) + 1), .ptr 0 9, .data 14 q fun (i : Nat) => (E i).row, .sint .i64 (↑i : Int), AV.dptr [.sint .i64 (E (↑i : Int).toNat).o, .sint .u64 (E (↑i : Int).toNat).s, .sint .u64 (E (↑i : Int).toNat).d0, .sint .u64 (E (↑i : Int).toNat).d1, .sint .u64 (E (↑i : Int).toNat).d2, .sint .u64 (E (↑i : Int).toNat).d3, .sint .u64 (E (↑i : Int).toNat).d4, .sint .u64 (E (↑i : Int).toNat).d5, .sint .u8 (E (↑i : Int).toNat).k, .sint .u64 (E (↑i : Int).toNat).n, .sint .i64 (E (↑i : Int).toNat).t, .sint .i64 (E (↑i : Int).toNat).a, .sint .u64 (E (↑i : Int).toNat).r, .sint .u64 (E (↑i : Int).toNat).f], .agg [.sint .i64 (E (↑i : Int).toNat).o, .sint .u64 (E (↑i : Int).toNat).s, .sint .u64 (E (↑i : Int).toNat).d0, .sint .u64 (E (↑i : Int).toNat).d1, .sint .u64 (E (↑i : Int).toNat).d2, .sint .u64 (E (↑i : Int).toNat).d3, .sint .u64 (E (↑i : Int).toNat).d4, .sint .u64 (E (↑i : Int).toNat).d5, .sint .u8 (E (↑i : Int).toNat).k, .sint .u64 (E (↑i : Int).toNat).n, .sint .i64 (E (↑i : Int).toNat).t, .sint .i64 (E (↑i : Int).toNat).a, .sint .u64 (E (↑i : Int).toNat).r, .sint .u64 (E (↑i : Int).toNat).f], .bool true, .bool false]) [0] ([(some (Blk.cells 0 none [.sint .u8 m.k, .sint .i64 m.f, .sint .i64 m.t, .sint .u64 m.v0, .sint .u64 m.v1, .sint .u64 m.v2, .sint .u64 m.v3, .sint .u64 m.v4, .sint .u64 m.v5, .data 14 q fun (i : Nat) => (E i).row, .sint .u64 m.n, .sint .i64 m.a]), none)]))) (by kernel_rfl) ?_
           refine hl (bc fun h19 => by omega) ?_
           refine hold_stop (fun hd hb => ?_)
           refine ok_again hd [some 0] ⟨i + 1, by omega, malMay im my⟩ (by show q - (i + 1) < q - i; omega) (fits_cells (look_hd hb) (by simp [rmM, fitsA, fitA, nf]) (by simp [MsI.row, evs, fitsA, fitA, nf]))
          refine ok_sk (.stop []) (S := .stop (Hd.leaf (.bool false)) [] ([])) (by kernel_rfl) ?_
          refine hold_stop (fun hd hb => ?_)
          exact ok_leaf0 hd rfl ⟨rfl, .inr ⟨rfl, fun h => by rcases h.2.2 with k | k <;> first | omega | exact my (k.2.2.2.2 _ (by omega))⟩⟩
         refine hold_stop (fun hd hb => ?_)
         exact ok_leaf0 hd rfl ⟨rfl, .inl ⟨rfl, ⟨by omega, by omega, .inl ⟨by omega, by omega, by omega, by omega, fun j hj => im j (by omega)⟩⟩⟩⟩
        refine hold_stop (fun hd hb => ?_)
        exact ok_leaf0 hd rfl ⟨rfl, .inr ⟨rfl, by unfold MsI.may; omega⟩⟩
       refine hold_stop (fun hd hb => ?_)
       exact ok_leaf0 hd rfl ⟨rfl, .inr ⟨rfl, by unfold MsI.may; omega⟩⟩
      refine hold_stop (fun hd hb => ?_)
      exact ok_leaf0 hd rfl ⟨rfl, .inr ⟨rfl, by unfold MsI.may; omega⟩⟩
     refine hold_stop (fun hd hb => ?_)
     exact ok_leaf0 hd rfl ⟨rfl, .inr ⟨rfl, by unfold MsI.may; omega⟩⟩
    refine hold_stop (fun hd hb => ?_)
    exact ok_leaf0 hd rfl ⟨rfl, .inr ⟨rfl, by unfold MsI.may; omega⟩⟩
   refine hold_stop (fun hd hb => ?_)
   exact ok_leaf0 hd rfl ⟨rfl, .inr ⟨rfl, by unfold MsI.may; omega⟩⟩
  refine hold_stop (fun hd hb => ?_)
  exact ok_leaf0 hd rfl ⟨rfl, .inr ⟨rfl, by unfold MsI.may; omega⟩⟩
end Go.Proofs.Ytjihbjjekhncaaa
namespace Go.Proofs.Ytjihbjjekhncaaa
open Go Go.RowKit Sv
set_option linter.unusedVariables false
set_option maxRecDepth 100000
set_option maxHeartbeats 0
def MsI.askD (m : MsI) : List Int := m.hd ++ be8d m.n ++ be8d m.a
def rpM (i : Nat) : List AV := [.top, .ptr 0 0, .top, .gsl 1 (51 + 91 * i), .sint .i64 (i : Int), .top, .top, .top, .top, .top, .top, .top, .top, .top, .top, .top, .top, .top, .top, .top, .top, .top, .top, .top, .top, .top, .top, .top, .top, .top, .top, .top, .top, .top, .top, .top, .top, .top, .top, .top, .top, .top, .top, .top, .top, .top, .top, .top]
def rpG (m : MsI) (q : Nat) (E : Nat → EvI) (i : Nat) : List NewB := [.cells none (m.row (evs q E)), .seq 1 (51 + 91 * i) (synY m E)]
theorem fits_cs2 {H : AH} {j0 j1 c0 c1 z n n' m : Nat} {g0 : Option Nat} {cs0 ds0 xs bs : List AV} {f f' : Nat → List AV} {s0 : Option (Nat × Nat × (Nat → List AV))}
    (hb : Sv.look H [j0, j1] = [(some (.cells c0 g0 cs0), s0), (some (.seq c1 z m f), some (z, n, f))]) (hc : c0 ≠ c1) (hx : fitsA [some j0, some j1] bs xs) (h0 : fitsA [some j0, some j1] ds0 cs0) (h1 : n' ≤ n ∧ ∀ i, i < n' → f' i = f i ∧ nfs (f' i) = true) : Fits [some j0, some j1] xs H bs [.cells g0 ds0, .seq z n' f'] := by
  have e : Sv.look H [j0, j1] = [(H.tr.get j0, seqAt H j0), (H.tr.get j1, seqAt H j1)] := rfl
  rw [e] at hb
  simp only [List.cons.injEq, Prod.mk.injEq, and_true] at hb
  obtain ⟨⟨a0, _⟩, ⟨a1, b1⟩⟩ := hb
  refine ⟨hx, ⟨⟨_, _, a0, h0⟩, .inl ⟨_, _, b1, h1⟩, trivial⟩, ?_⟩
  simp [AH.clsOf, a0, a1, Blk.cls, hc]
theorem fits_cr2 {H : AH} {j0 j1 c0 c1 z n' : Nat} {g0 : Option Nat} {cs0 cs1 ds0 xs bs : List AV} {f' : Nat → List AV} {s0 s1 : Option (Nat × Nat × (Nat → List AV))}
    (hb : Sv.look H [j0, j1] = [(some (.cells c0 g0 cs0), s0), (some (.cells c1 (some z) cs1), s1)]) (hc : c0 ≠ c1) (hx : fitsA [some j0, some j1] bs xs) (h0 : fitsA [some j0, some j1] ds0 cs0) (hz : 0 < z) (hn : n' * z ≤ cs1.length) (h1 : ∀ i, i < n' → f' i = (cs1.drop (i * z)).take z ∧ nfs (f' i) = true) : Fits [some j0, some j1] xs H bs [.cells g0 ds0, .seq z n' f'] := by
  have e : Sv.look H [j0, j1] = [(H.tr.get j0, seqAt H j0), (H.tr.get j1, seqAt H j1)] := rfl
  rw [e] at hb
  simp only [List.cons.injEq, Prod.mk.injEq, and_true] at hb
  obtain ⟨⟨a0, _⟩, ⟨a1, _⟩⟩ := hb
  refine ⟨hx, ⟨⟨_, _, a0, h0⟩, .inr ⟨_, _, a1, hz, hn, h1⟩, trivial⟩, ?_⟩
  simp [AH.clsOf, a0, a1, Blk.cls, hc]
theorem look_join {H : AH} {j : Nat} {l : List Nat} {b : Option Blk × Option (Nat × Nat × (Nat → List AV))} {r : List (Option Blk × Option (Nat × Nat × (Nat → List AV)))} (h : Sv.look H [j] = [b]) (k : Sv.look H l = r) : Sv.look H (j :: l) = b :: r := by
  have e : Sv.look H (j :: l) = (H.tr.get j, seqAt H j) :: Sv.look H l := rfl
  have e' : Sv.look H [j] = [(H.tr.get j, seqAt H j)] := rfl
  rw [e'] at h
  rw [e, k, (List.cons.inj h).1]
theorem rows_hd (m : MsI) (E : Nat → EvI) {cs : List AV} (e : cs = m.hd.map cell8) : ∀ i, i < 51 → synY m E i = (cs.drop (i * 1)).take 1 ∧ nfs (synY m E i) = true := fun i hi => by
  refine ⟨?_, nf_syn m E i⟩
  rw [e, syn_lt m E hi]
  have hr : i < (m.hd.map cell8).length := by
    rw [List.length_map, hd_len]
    exact hi
  rw [take_drop hr, List.getElem_map, List.getD_eq_getElem?_getD, List.getElem?_eq_getElem (by rw [hd_len]; exact hi), Option.getD_some]
theorem syn_glue (m : MsI) (E : Nat → EvI) (i : Nat) (hk : 0 ≤ (E i).k ∧ (E i).k ≤ 255) {g : Nat → List AV} (hg : g = fun j => (((E i).byD.map cell8).drop (j * 1)).take 1) : ∀ j, j < 51 + 91 * (i + 1) → synY m E j = glue (51 + 91 * i) (synY m E) g j ∧ nfs (synY m E j) = true := fun j hj => by
  refine ⟨?_, nf_syn m E j⟩
  rw [byD_by _ hk] at hg
  by_cases h : j < 51
  · unfold glue
    rw [if_pos (by omega)]
  · have e := (evY_glue E i hg (j - 51) (by omega)).1
    rw [syn_ge m E h, e]
    unfold glue
    by_cases h2 : j - 51 < 91 * i
    · rw [if_pos h2, if_pos (by omega), syn_ge m E h]
    · rw [if_neg h2, if_neg (by omega), show j - (51 + 91 * i) = j - 51 - 91 * i by omega]
theorem rputM (m : MsI) (q : Nat) (E : Nat → EvI) (hq : q ≤ 1099511627776) (hr : m.rng) (hE : ∀ j, j < q → (E j).rng) : Runs Try.prog 33 [.agg (m.row (evs q E))] fun x G =>
    (x = .nilSlice ∧ G = [] ∧ ¬ m.may q E) ∨
    (m.k = 1 ∧ m.may q E ∧ x = .gsl 0 (51 + 91 * q) ∧ G = [.seq 1 (51 + 91 * q) (synY m E)]) ∨
    (m.k = 2 ∧ m.may q E ∧ x = .slice 0 0 67 67 false ∧ G = [.cells (some 1) (m.askD.map cell8)]) := by
  have hr' := hr
  unfold MsI.rng at hr'
  refine runs_treeF plain mixed (fun g => Nat.beq g 31 || Nat.beq g 24) (fun _ => true) 60 ?_
  refine ok_sk (.stop []) (S := .stop (Hd.call 31 [.agg [.sint .u8 m.k, .sint .i64 m.f, .sint .i64 m.t, .sint .u64 m.v0, .sint .u64 m.v1, .sint .u64 m.v2, .sint .u64 m.v3, .sint .u64 m.v4, .sint .u64 m.v5, .data 14 q fun (i : Nat) => (E i).row, .sint .u64 m.n, .sint .i64 m.a]]) [] ([])) (by kernel_rfl) ?_
  refine hold_stop (fun hd hb => ?_)
  refine ok_call0 hd (rmayM m q E hq hr hE) rfl ?_
  rintro x G ⟨rfl, ⟨rfl, my⟩ | ⟨rfl, my⟩⟩ <;> refine ⟨rfl, fun g hg => (by cases hg), ?_⟩
  have my1 := my.1
  have my2 := my.2.1
  have my3 := ms_kind my
  ·
   refine ok_sk (.l (.l (.l (.l (.l (.l (.l (.l (.l (.l (.l (.l (.l (.l (.l (.l (.both (.l (.l (.l (.l (.stop [131]))))) (.stop [0, 99, 1, 98])))))))))))))))))) (S := .left (decide (m.k = m.k)) (.left (decide (m.f % 256 = m.f % 256)) (.left (decide (m.t % 256 = m.t % 256)) (.left (decide (m.t % 256 = m.t % 256)) (.left (decide (m.t = m.t)) (.left (decide (m.f % 256 = m.f % 256)) (.left (decide (m.f = m.f)) (.left (decide (m.k = m.k)) (.left (decide (m.k = m.k)) (.left (decide (m.f % 256 = m.f % 256)) (.left (decide (m.t % 256 = m.t % 256)) (.left (decide (m.t % 256 = m.t % 256)) (.left (decide (m.t = m.t)) (.left (decide (m.f % 256 = m.f % 256)) (.left (decide (m.f = m.f)) (.left (decide (m.k = m.k)) (.fork (decide (m.k = 2)) (.left (decide (0 ≤ m.a ∧ m.a ≤ 18446744073709551615)) (.left (decide (0 ≤ m.a ∧ m.a ≤ 18446744073709551615)) (.left (decide (m.a = m.a)) (.left (decide (m.a = m.a)) (.stop (Hd.leaf (.slice 131 0 67 67 false)) [131] ([(some (Blk.cells 99 (some 1) [.sint .u8 m.k, .sint .u8 (m.f % 256), .sint .u8 (m.t % 256), .sint .u8 (m.v0 / 72057594037927936 % 256), .sint .u8 (m.v0 / 281474976710656 % 256), .sint .u8 (m.v0 / 1099511627776 % 256), .sint .u8 (m.v0 / 4294967296 % 256), .sint .u8 (m.v0 / 16777216 % 256), .sint .u8 (m.v0 / 65536 % 256), .sint .u8 (m.v0 / 256 % 256), .sint .u8 (m.v0 / 1 % 256), .sint .u8 (m.v1 / 72057594037927936 % 256), .sint .u8 (m.v1 / 281474976710656 % 256), .sint .u8 (m.v1 / 1099511627776 % 256), .sint .u8 (m.v1 / 4294967296 % 256), .sint .u8 (m.v1 / 16777216 % 256), .sint .u8 (m.v1 / 65536 % 256), .sint .u8 (m.v1 / 256 % 256), .sint .u8 (m.v1 / 1 % 256), .sint .u8 (m.v2 / 72057594037927936 % 256), .sint .u8 (m.v2 / 281474976710656 % 256), .sint .u8 (m.v2 / 1099511627776 % 256), .sint .u8 (m.v2 / 4294967296 % 256), .sint .u8 (m.v2 / 16777216 % 256), .sint .u8 (m.v2 / 65536 % 256), .sint .u8 (m.v2 / 256 % 256), .sint .u8 (m.v2 / 1 % 256), .sint .u8 (m.v3 / 72057594037927936 % 256), .sint .u8 (m.v3 / 281474976710656 % 256), .sint .u8 (m.v3 / 1099511627776 % 256), .sint .u8 (m.v3 / 4294967296 % 256), .sint .u8 (m.v3 / 16777216 % 256), .sint .u8 (m.v3 / 65536 % 256), .sint .u8 (m.v3 / 256 % 256), .sint .u8 (m.v3 / 1 % 256), .sint .u8 (m.v4 / 72057594037927936 % 256), .sint .u8 (m.v4 / 281474976710656 % 256), .sint .u8 (m.v4 / 1099511627776 % 256), .sint .u8 (m.v4 / 4294967296 % 256), .sint .u8 (m.v4 / 16777216 % 256), .sint .u8 (m.v4 / 65536 % 256), .sint .u8 (m.v4 / 256 % 256), .sint .u8 (m.v4 / 1 % 256), .sint .u8 (m.v5 / 72057594037927936 % 256), .sint .u8 (m.v5 / 281474976710656 % 256), .sint .u8 (m.v5 / 1099511627776 % 256), .sint .u8 (m.v5 / 4294967296 % 256), .sint .u8 (m.v5 / 16777216 % 256), .sint .u8 (m.v5 / 65536 % 256), .sint .u8 (m.v5 / 256 % 256), .sint .u8 (m.v5 / 1 % 256), .sint .u8 (m.n / 72057594037927936 % 256), .sint .u8 (m.n / 281474976710656 % 256), .sint .u8 (m.n / 1099511627776 % 256), .sint .u8 (m.n / 4294967296 % 256), .sint .u8 (m.n / 16777216 % 256), .sint .u8 (m.n / 65536 % 256), .sint .u8 (m.n / 256 % 256), .sint .u8 (m.n / 1 % 256), .sint .u8 (m.a / 72057594037927936 % 256), .sint .u8 (m.a / 281474976710656 % 256), .sint .u8 (m.a / 1099511627776 % 256), .sint .u8 (m.a / 4294967296 % 256), .sint .u8 (m.a / 16777216 % 256), .sint .u8 (m.a / 65536 % 256), .sint .u8 (m.a / 256 % 256), .sint .u8 (m.a / 1 % 256)]), none)])))))) (.stop (Hd.loop 52 [.agg [.sint .u8 m.k, .sint .i64 m.f, .sint .i64 m.t, .sint .u64 m.v0, .sint .u64 m.v1, .sint .u64 m.v2, .sint .u64 m.v3, .sint .u64 m.v4, .sint .u64 m.v5, .data 14 q fun (i : Nat) => (E i).row, .sint .u64 m.n, .sint .i64 m.a], .ptr 0 0, .nilSlice, .slice 99 0 51 51 false, .int .i64 (0 : Int), .agg [.sint .u8 m.k, .sint .i64 m.f, .sint .i64 m.t, .sint .u64 m.v0, .sint .u64 m.v1, .sint .u64 m.v2, .sint .u64 m.v3, .sint .u64 m.v4, .sint .u64 m.v5, .data 14 q fun (i : Nat) => (E i).row, .sint .u64 m.n, .sint .i64 m.a], .bool true, .bool false, .ptr 0 0, .sint .u8 m.k, .ptr 0 1, .sint .i64 m.f, .sint .u8 (m.f % 256), .ptr 0 2, .sint .i64 m.t, .sint .u8 (m.t % 256), .slice 1 0 3 3 true, .ptr 0 3, .agg [.sint .u64 m.v0, .sint .u64 m.v1, .sint .u64 m.v2, .sint .u64 m.v3, .sint .u64 m.v4, .sint .u64 m.v5], .slice 98 0 48 48 false, .slice 99 0 51 51 false, .ptr 0 0, .sint .u8 m.k, .bool false, .tuple [], .tuple [], .tuple [], .tuple [], .tuple [], .tuple [], .tuple [], .tuple [], .tuple [], .tuple [], .tuple [], .tuple [], .tuple [], .tuple [], .tuple [], .tuple [], .tuple [], .tuple [], .tuple [], .tuple [], .tuple [], .tuple [], .tuple [], .tuple []]) [0, 99, 1, 98] ([(some (Blk.cells 0 none [.sint .u8 m.k, .sint .i64 m.f, .sint .i64 m.t, .sint .u64 m.v0, .sint .u64 m.v1, .sint .u64 m.v2, .sint .u64 m.v3, .sint .u64 m.v4, .sint .u64 m.v5, .data 14 q fun (i : Nat) => (E i).row, .sint .u64 m.n, .sint .i64 m.a]), none), (some (Blk.cells 99 (some 1) [.sint .u8 m.k, .sint .u8 (m.f % 256), .sint .u8 (m.t % 256), .sint .u8 (m.v0 / 72057594037927936 % 256), .sint .u8 (m.v0 / 281474976710656 % 256), .sint .u8 (m.v0 / 1099511627776 % 256), .sint .u8 (m.v0 / 4294967296 % 256), .sint .u8 (m.v0 / 16777216 % 256), .sint .u8 (m.v0 / 65536 % 256), .sint .u8 (m.v0 / 256 % 256), .sint .u8 (m.v0 / 1 % 256), .sint .u8 (m.v1 / 72057594037927936 % 256), .sint .u8 (m.v1 / 281474976710656 % 256), .sint .u8 (m.v1 / 1099511627776 % 256), .sint .u8 (m.v1 / 4294967296 % 256), .sint .u8 (m.v1 / 16777216 % 256), .sint .u8 (m.v1 / 65536 % 256), .sint .u8 (m.v1 / 256 % 256), .sint .u8 (m.v1 / 1 % 256), .sint .u8 (m.v2 / 72057594037927936 % 256), .sint .u8 (m.v2 / 281474976710656 % 256), .sint .u8 (m.v2 / 1099511627776 % 256), .sint .u8 (m.v2 / 4294967296 % 256), .sint .u8 (m.v2 / 16777216 % 256), .sint .u8 (m.v2 / 65536 % 256), .sint .u8 (m.v2 / 256 % 256), .sint .u8 (m.v2 / 1 % 256), .sint .u8 (m.v3 / 72057594037927936 % 256), .sint .u8 (m.v3 / 281474976710656 % 256), .sint .u8 (m.v3 / 1099511627776 % 256), .sint .u8 (m.v3 / 4294967296 % 256), .sint .u8 (m.v3 / 16777216 % 256), .sint .u8 (m.v3 / 65536 % 256), .sint .u8 (m.v3 / 256 % 256), .sint .u8 (m.v3 / 1 % 256), .sint .u8 (m.v4 / 72057594037927936 % 256), .sint .u8 (m.v4 / 281474976710656 % 256), .sint .u8 (m.v4 / 1099511627776 % 256), .sint .u8 (m.v4 / 4294967296 % 256), .sint .u8 (m.v4 / 16777216 % 256), .sint .u8 (m.v4 / 65536 % 256), .sint .u8 (m.v4 / 256 % 256), .sint .u8 (m.v4 / 1 % 256), .sint .u8 (m.v5 / 72057594037927936 % 256), .sint .u8 (m.v5 / 281474976710656 % 256), .sint .u8 (m.v5 / 1099511627776 % 256), .sint .u8 (m.v5 / 4294967296 % 256), .sint .u8 (m.v5 / 16777216 % 256), .sint .u8 (m.v5 / 65536 % 256), .sint .u8 (m.v5 / 256 % 256), .sint .u8 (m.v5 / 1 % 256)]), none), (some (Blk.cells 1 none [.sint .u8 m.k, .sint .u8 (m.f % 256), .sint .u8 (m.t % 256)]), none), (some (Blk.cells 4 (some 1) [.sint .u8 (m.v0 / 72057594037927936 % 256), .sint .u8 (m.v0 / 281474976710656 % 256), .sint .u8 (m.v0 / 1099511627776 % 256), .sint .u8 (m.v0 / 4294967296 % 256), .sint .u8 (m.v0 / 16777216 % 256), .sint .u8 (m.v0 / 65536 % 256), .sint .u8 (m.v0 / 256 % 256), .sint .u8 (m.v0 / 1 % 256), .sint .u8 (m.v1 / 72057594037927936 % 256), .sint .u8 (m.v1 / 281474976710656 % 256), .sint .u8 (m.v1 / 1099511627776 % 256), .sint .u8 (m.v1 / 4294967296 % 256), .sint .u8 (m.v1 / 16777216 % 256), .sint .u8 (m.v1 / 65536 % 256), .sint .u8 (m.v1 / 256 % 256), .sint .u8 (m.v1 / 1 % 256), .sint .u8 (m.v2 / 72057594037927936 % 256), .sint .u8 (m.v2 / 281474976710656 % 256), .sint .u8 (m.v2 / 1099511627776 % 256), .sint .u8 (m.v2 / 4294967296 % 256), .sint .u8 (m.v2 / 16777216 % 256), .sint .u8 (m.v2 / 65536 % 256), .sint .u8 (m.v2 / 256 % 256), .sint .u8 (m.v2 / 1 % 256), .sint .u8 (m.v3 / 72057594037927936 % 256), .sint .u8 (m.v3 / 281474976710656 % 256), .sint .u8 (m.v3 / 1099511627776 % 256), .sint .u8 (m.v3 / 4294967296 % 256), .sint .u8 (m.v3 / 16777216 % 256), .sint .u8 (m.v3 / 65536 % 256), .sint .u8 (m.v3 / 256 % 256), .sint .u8 (m.v3 / 1 % 256), .sint .u8 (m.v4 / 72057594037927936 % 256), .sint .u8 (m.v4 / 281474976710656 % 256), .sint .u8 (m.v4 / 1099511627776 % 256), .sint .u8 (m.v4 / 4294967296 % 256), .sint .u8 (m.v4 / 16777216 % 256), .sint .u8 (m.v4 / 65536 % 256), .sint .u8 (m.v4 / 256 % 256), .sint .u8 (m.v4 / 1 % 256), .sint .u8 (m.v5 / 72057594037927936 % 256), .sint .u8 (m.v5 / 281474976710656 % 256), .sint .u8 (m.v5 / 1099511627776 % 256), .sint .u8 (m.v5 / 4294967296 % 256), .sint .u8 (m.v5 / 16777216 % 256), .sint .u8 (m.v5 / 65536 % 256), .sint .u8 (m.v5 / 256 % 256), .sint .u8 (m.v5 / 1 % 256)]), none)]))))))))))))))))))) (by kernel_rfl) ?_
   refine hl (bc fun h1 => by omega) ?_
   refine hl (bc fun h1 => by omega) ?_
   refine hl (bc fun h1 => by omega) ?_
   refine hl (bc fun h1 => by omega) ?_
   refine hl (bc fun h1 => by omega) ?_
   refine hl (bc fun h1 => by omega) ?_
   refine hl (bc fun h1 => by omega) ?_
   refine hl (bc fun h1 => by omega) ?_
   refine hl (bc fun h1 => by omega) ?_
   refine hl (bc fun h1 => by omega) ?_
   refine hl (bc fun h1 => by omega) ?_
   refine hl (bc fun h1 => by omega) ?_
   refine hl (bc fun h1 => by omega) ?_
   refine hl (bc fun h1 => by omega) ?_
   refine hl (bc fun h1 => by omega) ?_
   refine hl (bc fun h1 => by omega) ?_
   refine hold_forkD (fun h1 => ?_) (fun h1 => ?_)
   ·
    refine hl (bc fun h2 => by omega) ?_
    refine hl (bc fun h2 => by omega) ?_
    refine hl (bc fun h2 => by omega) ?_
    refine hl (bc fun h2 => by omega) ?_
    refine hold_stop (fun hd hb => ?_)
    exact ok_leafC hd hb (y := .slice 0 0 67 67 false) (by simp [fitA]) rfl (.inr (.inr ⟨by omega, my, rfl, rfl⟩))
   refine hold_stop (fun hd hb => ?_)
   refine ok_loop hd (X := {i : Nat // i ≤ q}) (fun i => rpM i.1) (fun i => rpG m q E i.1) (fun i => q - i.1) [some 0, some 99] ⟨0, by omega⟩ (fits_cr2 (look_join (look_hd hb) (look_hd (look_tl hb))) (by decide) (by simp [rpM, fitsA, fitA, nf]) (by simp [MsI.row, evs, fitsA, fitA, nf]) (by decide) (Nat.le_of_ble_eq_true (by kernel_rfl)) (rows_hd m E (by kernel_rfl))) ?_
   rintro ⟨i, i1⟩
   refine ok_sk (.both (.l (.stop [])) (.stop [1])) (S := .fork (decide ((↑i : Int) < (↑q : Int))) (.left (decide (0 ≤ (↑i : Int) ∧ (↑i : Int).toNat < q)) (.stop (Hd.call 24 [.agg [.sint .i64 (E (↑i : Int).toNat).o, .sint .u64 (E (↑i : Int).toNat).s, .sint .u64 (E (↑i : Int).toNat).d0, .sint .u64 (E (↑i : Int).toNat).d1, .sint .u64 (E (↑i : Int).toNat).d2, .sint .u64 (E (↑i : Int).toNat).d3, .sint .u64 (E (↑i : Int).toNat).d4, .sint .u64 (E (↑i : Int).toNat).d5, .sint .u8 (E (↑i : Int).toNat).k, .sint .u64 (E (↑i : Int).toNat).n, .sint .i64 (E (↑i : Int).toNat).t, .sint .i64 (E (↑i : Int).toNat).a, .sint .u64 (E (↑i : Int).toNat).r, .sint .u64 (E (↑i : Int).toNat).f]]) [] ([]))) (.stop (Hd.leaf (.gsl 1 (51 + 91 * i))) [1] ([(some (Blk.seq 1 1 (51 + 91 * i) (synY m E)), some (1, 51 + 91 * i, synY m E))]))) (by kernel_rfl) ?_
   refine hold_forkD (fun h3 => ?_) (fun h3 => ?_)
   ·
    refine hl (bc fun h4 => by omega) ?_
    refine hold_stop (fun hd hb => ?_)
    refine ok_call0 hd (rput0 (E (i : Int).toNat) (hE _ (by omega))) rfl ?_
    rintro x G (⟨rfl, rfl, me⟩ | ⟨rfl, rfl, me⟩) <;> first | exact absurd (ms_evs my (by omega) _ (by omega)) me | refine ⟨rfl, fun g hg => (by rcases List.mem_singleton.1 hg with rfl; rfl), ?_⟩
    refine ok_sk (.l (.l (.l (.stop [0, 3, 1, 2])))) (S := .left (@decide (91 < 65536 ∧ RowsOK 1 91 fun (i_1 : Nat) => List.take 1 (List.drop (i_1 * 1) [.sint .u8 ((E (↑i : Int).toNat).o % 256), .sint .u8 ((E (↑i : Int).toNat).s / 72057594037927936 % 256), .sint .u8 ((E (↑i : Int).toNat).s / 281474976710656 % 256), .sint .u8 ((E (↑i : Int).toNat).s / 1099511627776 % 256), .sint .u8 ((E (↑i : Int).toNat).s / 4294967296 % 256), .sint .u8 ((E (↑i : Int).toNat).s / 16777216 % 256), .sint .u8 ((E (↑i : Int).toNat).s / 65536 % 256), .sint .u8 ((E (↑i : Int).toNat).s / 256 % 256), .sint .u8 ((E (↑i : Int).toNat).s / 1 % 256), .sint .u8 ((E (↑i : Int).toNat).d0 / 72057594037927936 % 256), .sint .u8 ((E (↑i : Int).toNat).d0 / 281474976710656 % 256), .sint .u8 ((E (↑i : Int).toNat).d0 / 1099511627776 % 256), .sint .u8 ((E (↑i : Int).toNat).d0 / 4294967296 % 256), .sint .u8 ((E (↑i : Int).toNat).d0 / 16777216 % 256), .sint .u8 ((E (↑i : Int).toNat).d0 / 65536 % 256), .sint .u8 ((E (↑i : Int).toNat).d0 / 256 % 256), .sint .u8 ((E (↑i : Int).toNat).d0 / 1 % 256), .sint .u8 ((E (↑i : Int).toNat).d1 / 72057594037927936 % 256), .sint .u8 ((E (↑i : Int).toNat).d1 / 281474976710656 % 256), .sint .u8 ((E (↑i : Int).toNat).d1 / 1099511627776 % 256), .sint .u8 ((E (↑i : Int).toNat).d1 / 4294967296 % 256), .sint .u8 ((E (↑i : Int).toNat).d1 / 16777216 % 256), .sint .u8 ((E (↑i : Int).toNat).d1 / 65536 % 256), .sint .u8 ((E (↑i : Int).toNat).d1 / 256 % 256), .sint .u8 ((E (↑i : Int).toNat).d1 / 1 % 256), .sint .u8 ((E (↑i : Int).toNat).d2 / 72057594037927936 % 256), .sint .u8 ((E (↑i : Int).toNat).d2 / 281474976710656 % 256), .sint .u8 ((E (↑i : Int).toNat).d2 / 1099511627776 % 256), .sint .u8 ((E (↑i : Int).toNat).d2 / 4294967296 % 256), .sint .u8 ((E (↑i : Int).toNat).d2 / 16777216 % 256), .sint .u8 ((E (↑i : Int).toNat).d2 / 65536 % 256), .sint .u8 ((E (↑i : Int).toNat).d2 / 256 % 256), .sint .u8 ((E (↑i : Int).toNat).d2 / 1 % 256), .sint .u8 ((E (↑i : Int).toNat).d3 / 72057594037927936 % 256), .sint .u8 ((E (↑i : Int).toNat).d3 / 281474976710656 % 256), .sint .u8 ((E (↑i : Int).toNat).d3 / 1099511627776 % 256), .sint .u8 ((E (↑i : Int).toNat).d3 / 4294967296 % 256), .sint .u8 ((E (↑i : Int).toNat).d3 / 16777216 % 256), .sint .u8 ((E (↑i : Int).toNat).d3 / 65536 % 256), .sint .u8 ((E (↑i : Int).toNat).d3 / 256 % 256), .sint .u8 ((E (↑i : Int).toNat).d3 / 1 % 256), .sint .u8 ((E (↑i : Int).toNat).d4 / 72057594037927936 % 256), .sint .u8 ((E (↑i : Int).toNat).d4 / 281474976710656 % 256), .sint .u8 ((E (↑i : Int).toNat).d4 / 1099511627776 % 256), .sint .u8 ((E (↑i : Int).toNat).d4 / 4294967296 % 256), .sint .u8 ((E (↑i : Int).toNat).d4 / 16777216 % 256), .sint .u8 ((E (↑i : Int).toNat).d4 / 65536 % 256), .sint .u8 ((E (↑i : Int).toNat).d4 / 256 % 256), .sint .u8 ((E (↑i : Int).toNat).d4 / 1 % 256), .sint .u8 ((E (↑i : Int).toNat).d5 / 72057594037927936 % 256), .sint .u8 ((E (↑i : Int).toNat).d5 / 281474976710656 % 256), .sint .u8 ((E (↑i : Int).toNat).d5 / 1099511627776 % 256), .sint .u8 ((E (↑i : Int).toNat).d5 / 4294967296 % 256), .sint .u8 ((E (↑i : Int).toNat).d5 / 16777216 % 256), .sint .u8 ((E (↑i : Int).toNat).d5 / 65536 % 256), .sint .u8 ((E (↑i : Int).toNat).d5 / 256 % 256), .sint .u8 ((E (↑i : Int).toNat).d5 / 1 % 256), .sint .u8 (E (↑i : Int).toNat).k, .sint .u8 ((E (↑i : Int).toNat).n / 72057594037927936 % 256), .sint .u8 ((E (↑i : Int).toNat).n / 281474976710656 % 256), .sint .u8 ((E (↑i : Int).toNat).n / 1099511627776 % 256), .sint .u8 ((E (↑i : Int).toNat).n / 4294967296 % 256), .sint .u8 ((E (↑i : Int).toNat).n / 16777216 % 256), .sint .u8 ((E (↑i : Int).toNat).n / 65536 % 256), .sint .u8 ((E (↑i : Int).toNat).n / 256 % 256), .sint .u8 ((E (↑i : Int).toNat).n / 1 % 256), .sint .u8 ((E (↑i : Int).toNat).t % 256), .sint .u8 ((E (↑i : Int).toNat).a / 72057594037927936 % 256), .sint .u8 ((E (↑i : Int).toNat).a / 281474976710656 % 256), .sint .u8 ((E (↑i : Int).toNat).a / 1099511627776 % 256), .sint .u8 ((E (↑i : Int).toNat).a / 4294967296 % 256), .sint .u8 ((E (↑i : Int).toNat).a / 16777216 % 256), .sint .u8 ((E (↑i : Int).toNat).a / 65536 % 256), .sint .u8 ((E (↑i : Int).toNat).a / 256 % 256), .sint .u8 ((E (↑i : Int).toNat).a / 1 % 256), .sint .u8 ((E (↑i : Int).toNat).r / 72057594037927936 % 256), .sint .u8 ((E (↑i : Int).toNat).r / 281474976710656 % 256), .sint .u8 ((E (↑i : Int).toNat).r / 1099511627776 % 256), .sint .u8 ((E (↑i : Int).toNat).r / 4294967296 % 256), .sint .u8 ((E (↑i : Int).toNat).r / 16777216 % 256), .sint .u8 ((E (↑i : Int).toNat).r / 65536 % 256), .sint .u8 ((E (↑i : Int).toNat).r / 256 % 256), .sint .u8 ((E (↑i : Int).toNat).r / 1 % 256), .sint .u8 ((E (↑i : Int).toNat).f / 72057594037927936 % 256), .sint .u8 ((E (↑i : Int).toNat).f / 281474976710656 % 256), .sint .u8 ((E (↑i : Int).toNat).f / 1099511627776 % 256), .sint .u8 ((E (↑i : Int).toNat).f / 4294967296 % 256), .sint .u8 ((E (↑i : Int).toNat).f / 16777216 % 256), .sint .u8 ((E (↑i : Int).toNat).f / 65536 % 256), .sint .u8 ((E (↑i : Int).toNat).f / 256 % 256), .sint .u8 ((E (↑i : Int).toNat).f / 1 % 256)])) pd) (.left (decide (51 + 91 * i ≤ 51 + 91 * i ∧ 51 + 91 * i < 65536)) (.left (decide ((-9223372036854775808 : Int) ≤ (↑i : Int) + 1 ∧ (↑i : Int) + 1 ≤ 9223372036854775807)) (.stop (Hd.again (again' (fun (i : { i : Nat // i ≤ q }) => rpM i.val) (fun (i : { i : Nat // i ≤ q }) => rpG m q E i.val) (fun (i : { i : Nat // i ≤ q }) => q - i.val) ⟨i, i1⟩) [.top, .ptr 0 0, .top, .gsl 3 (51 + 91 * i + 91), .sint .i64 ((↑i : Int) + 1), .top, .top, .top, .top, .top, .top, .top, .top, .top, .top, .top, .top, .top, .top, .top, .top, .top, .top, .top, .top, .top, .top, .top, .top, .top, .top, .top, .sint .i64 (↑i : Int), .ptr 0 9, .data 14 q fun (i : Nat) => (E i).row, .sint .i64 (↑q : Int), .bool true, .sint .i64 (↑i : Int), .sint .i64 ((↑i : Int) + 1), .gsl 1 (51 + 91 * i), .ptr 0 9, .data 14 q fun (i : Nat) => (E i).row, .sint .i64 (↑i : Int), AV.dptr [.sint .i64 (E (↑i : Int).toNat).o, .sint .u64 (E (↑i : Int).toNat).s, .sint .u64 (E (↑i : Int).toNat).d0, .sint .u64 (E (↑i : Int).toNat).d1, .sint .u64 (E (↑i : Int).toNat).d2, .sint .u64 (E (↑i : Int).toNat).d3, .sint .u64 (E (↑i : Int).toNat).d4, .sint .u64 (E (↑i : Int).toNat).d5, .sint .u8 (E (↑i : Int).toNat).k, .sint .u64 (E (↑i : Int).toNat).n, .sint .i64 (E (↑i : Int).toNat).t, .sint .i64 (E (↑i : Int).toNat).a, .sint .u64 (E (↑i : Int).toNat).r, .sint .u64 (E (↑i : Int).toNat).f], .agg [.sint .i64 (E (↑i : Int).toNat).o, .sint .u64 (E (↑i : Int).toNat).s, .sint .u64 (E (↑i : Int).toNat).d0, .sint .u64 (E (↑i : Int).toNat).d1, .sint .u64 (E (↑i : Int).toNat).d2, .sint .u64 (E (↑i : Int).toNat).d3, .sint .u64 (E (↑i : Int).toNat).d4, .sint .u64 (E (↑i : Int).toNat).d5, .sint .u8 (E (↑i : Int).toNat).k, .sint .u64 (E (↑i : Int).toNat).n, .sint .i64 (E (↑i : Int).toNat).t, .sint .i64 (E (↑i : Int).toNat).a, .sint .u64 (E (↑i : Int).toNat).r, .sint .u64 (E (↑i : Int).toNat).f], .slice 2 0 91 91 false, .gsl 3 (51 + 91 * i + 91), .top]) [0, 3, 1, 2] ([(some (Blk.cells 0 none [.sint .u8 m.k, .sint .i64 m.f, .sint .i64 m.t, .sint .u64 m.v0, .sint .u64 m.v1, .sint .u64 m.v2, .sint .u64 m.v3, .sint .u64 m.v4, .sint .u64 m.v5, .data 14 q fun (i : Nat) => (E i).row, .sint .u64 m.n, .sint .i64 m.a]), none), (some (Blk.seq 3 1 (51 + 91 * i + 91) (glue (51 + 91 * i) (synY m E) fun (i_1 : Nat) => List.take 1 (List.drop (i_1 * 1) [.sint .u8 ((E (↑i : Int).toNat).o % 256), .sint .u8 ((E (↑i : Int).toNat).s / 72057594037927936 % 256), .sint .u8 ((E (↑i : Int).toNat).s / 281474976710656 % 256), .sint .u8 ((E (↑i : Int).toNat).s / 1099511627776 % 256), .sint .u8 ((E (↑i : Int).toNat).s / 4294967296 % 256), .sint .u8 ((E (↑i : Int).toNat).s / 16777216 % 256), .sint .u8 ((E (↑i : Int).toNat).s / 65536 % 256), .sint .u8 ((E (↑i : Int).toNat).s / 256 % 256), .sint .u8 ((E (↑i : Int).toNat).s / 1 % 256), .sint .u8 ((E (↑i : Int).toNat).d0 / 72057594037927936 % 256), .sint .u8 ((E (↑i : Int).toNat).d0 / 281474976710656 % 256), .sint .u8 ((E (↑i : Int).toNat).d0 / 1099511627776 % 256), .sint .u8 ((E (↑i : Int).toNat).d0 / 4294967296 % 256), .sint .u8 ((E (↑i : Int).toNat).d0 / 16777216 % 256), .sint .u8 ((E (↑i : Int).toNat).d0 / 65536 % 256), .sint .u8 ((E (↑i : Int).toNat).d0 / 256 % 256), .sint .u8 ((E (↑i : Int).toNat).d0 / 1 % 256), .sint .u8 ((E (↑i : Int).toNat).d1 / 72057594037927936 % 256), .sint .u8 ((E (↑i : Int).toNat).d1 / 281474976710656 % 256), .sint .u8 ((E (↑i : Int).toNat).d1 / 1099511627776 % 256), .sint .u8 ((E (↑i : Int).toNat).d1 / 4294967296 % 256), .sint .u8 ((E (↑i : Int).toNat).d1 / 16777216 % 256), .sint .u8 ((E (↑i : Int).toNat).d1 / 65536 % 256), .sint .u8 ((E (↑i : Int).toNat).d1 / 256 % 256), .sint .u8 ((E (↑i : Int).toNat).d1 / 1 % 256), .sint .u8 ((E (↑i : Int).toNat).d2 / 72057594037927936 % 256), .sint .u8 ((E (↑i : Int).toNat).d2 / 281474976710656 % 256), .sint .u8 ((E (↑i : Int).toNat).d2 / 1099511627776 % 256), .sint .u8 ((E (↑i : Int).toNat).d2 / 4294967296 % 256), .sint .u8 ((E (↑i : Int).toNat).d2 / 16777216 % 256), .sint .u8 ((E (↑i : Int).toNat).d2 / 65536 % 256), .sint .u8 ((E (↑i : Int).toNat).d2 / 256 % 256), .sint .u8 ((E (↑i : Int).toNat).d2 / 1 % 256), .sint .u8 ((E (↑i : Int).toNat).d3 / 72057594037927936 % 256), .sint .u8 ((E (↑i : Int).toNat).d3 / 281474976710656 % 256), .sint .u8 ((E (↑i : Int).toNat).d3 / 1099511627776 % 256), .sint .u8 ((E (↑i : Int).toNat).d3 / 4294967296 % 256), .sint .u8 ((E (↑i : Int).toNat).d3 / 16777216 % 256), .sint .u8 ((E (↑i : Int).toNat).d3 / 65536 % 256), .sint .u8 ((E (↑i : Int).toNat).d3 / 256 % 256), .sint .u8 ((E (↑i : Int).toNat).d3 / 1 % 256), .sint .u8 ((E (↑i : Int).toNat).d4 / 72057594037927936 % 256), .sint .u8 ((E (↑i : Int).toNat).d4 / 281474976710656 % 256), .sint .u8 ((E (↑i : Int).toNat).d4 / 1099511627776 % 256), .sint .u8 ((E (↑i : Int).toNat).d4 / 4294967296 % 256), .sint .u8 ((E (↑i : Int).toNat).d4 / 16777216 % 256), .sint .u8 ((E (↑i : Int).toNat).d4 / 65536 % 256), .sint .u8 ((E (↑i : Int).toNat).d4 / 256 % 256), .sint .u8 ((E (↑i : Int).toNat).d4 / 1 % 256), .sint .u8 ((E (↑i : Int).toNat).d5 / 72057594037927936 % 256), .sint .u8 ((E (↑i : Int).toNat).d5 / 281474976710656 % 256), .sint .u8 ((E (↑i : Int).toNat).d5 / 1099511627776 % 256), .sint .u8 ((E (↑i : Int).toNat).d5 / 4294967296 % 256), .sint .u8 ((E (↑i : Int).toNat).d5 / 16777216 % 256), .sint .u8 ((E (↑i : Int).toNat).d5 / 65536 % 256), .sint .u8 ((E (↑i : Int).toNat).d5 / 256 % 256), .sint .u8 ((E (↑i : Int).toNat).d5 / 1 % 256), .sint .u8 (E (↑i : Int).toNat).k, .sint .u8 ((E (↑i : Int).toNat).n / 72057594037927936 % 256), .sint .u8 ((E (↑i : Int).toNat).n / 281474976710656 % 256), .sint .u8 ((E (↑i : Int).toNat).n / 1099511627776 % 256), .sint .u8 ((E (↑i : Int).toNat).n / 4294967296 % 256), .sint .u8 ((E (↑i : Int).toNat).n / 16777216 % 256), .sint .u8 ((E (↑i : Int).toNat).n / 65536 % 256), .sint .u8 ((E (↑i : Int).toNat).n / 256 % 256), .sint .u8 ((E (↑i : Int).toNat).n / 1 % 256), .sint .u8 ((E (↑i : Int).toNat).t % 256), .sint .u8 ((E (↑i : Int).toNat).a / 72057594037927936 % 256), .sint .u8 ((E (↑i : Int).toNat).a / 281474976710656 % 256), .sint .u8 ((E (↑i : Int).toNat).a / 1099511627776 % 256), .sint .u8 ((E (↑i : Int).toNat).a / 4294967296 % 256), .sint .u8 ((E (↑i : Int).toNat).a / 16777216 % 256), .sint .u8 ((E (↑i : Int).toNat).a / 65536 % 256), .sint .u8 ((E (↑i : Int).toNat).a / 256 % 256), .sint .u8 ((E (↑i : Int).toNat).a / 1 % 256), .sint .u8 ((E (↑i : Int).toNat).r / 72057594037927936 % 256), .sint .u8 ((E (↑i : Int).toNat).r / 281474976710656 % 256), .sint .u8 ((E (↑i : Int).toNat).r / 1099511627776 % 256), .sint .u8 ((E (↑i : Int).toNat).r / 4294967296 % 256), .sint .u8 ((E (↑i : Int).toNat).r / 16777216 % 256), .sint .u8 ((E (↑i : Int).toNat).r / 65536 % 256), .sint .u8 ((E (↑i : Int).toNat).r / 256 % 256), .sint .u8 ((E (↑i : Int).toNat).r / 1 % 256), .sint .u8 ((E (↑i : Int).toNat).f / 72057594037927936 % 256), .sint .u8 ((E (↑i : Int).toNat).f / 281474976710656 % 256), .sint .u8 ((E (↑i : Int).toNat).f / 1099511627776 % 256), .sint .u8 ((E (↑i : Int).toNat).f / 4294967296 % 256), .sint .u8 ((E (↑i : Int).toNat).f / 16777216 % 256), .sint .u8 ((E (↑i : Int).toNat).f / 65536 % 256), .sint .u8 ((E (↑i : Int).toNat).f / 256 % 256), .sint .u8 ((E (↑i : Int).toNat).f / 1 % 256)]))), some (1, 51 + 91 * i + 91, glue (51 + 91 * i) (synY m E) fun (i_1 : Nat) => List.take 1 (List.drop (i_1 * 1) [.sint .u8 ((E (↑i : Int).toNat).o % 256), .sint .u8 ((E (↑i : Int).toNat).s / 72057594037927936 % 256), .sint .u8 ((E (↑i : Int).toNat).s / 281474976710656 % 256), .sint .u8 ((E (↑i : Int).toNat).s / 1099511627776 % 256), .sint .u8 ((E (↑i : Int).toNat).s / 4294967296 % 256), .sint .u8 ((E (↑i : Int).toNat).s / 16777216 % 256), .sint .u8 ((E (↑i : Int).toNat).s / 65536 % 256), .sint .u8 ((E (↑i : Int).toNat).s / 256 % 256), .sint .u8 ((E (↑i : Int).toNat).s / 1 % 256), .sint .u8 ((E (↑i : Int).toNat).d0 / 72057594037927936 % 256), .sint .u8 ((E (↑i : Int).toNat).d0 / 281474976710656 % 256), .sint .u8 ((E (↑i : Int).toNat).d0 / 1099511627776 % 256), .sint .u8 ((E (↑i : Int).toNat).d0 / 4294967296 % 256), .sint .u8 ((E (↑i : Int).toNat).d0 / 16777216 % 256), .sint .u8 ((E (↑i : Int).toNat).d0 / 65536 % 256), .sint .u8 ((E (↑i : Int).toNat).d0 / 256 % 256), .sint .u8 ((E (↑i : Int).toNat).d0 / 1 % 256), .sint .u8 ((E (↑i : Int).toNat).d1 / 72057594037927936 % 256), .sint .u8 ((E (↑i : Int).toNat).d1 / 281474976710656 % 256), .sint .u8 ((E (↑i : Int).toNat).d1 / 1099511627776 % 256), .sint .u8 ((E (↑i : Int).toNat).d1 / 4294967296 % 256), .sint .u8 ((E (↑i : Int).toNat).d1 / 16777216 % 256), .sint .u8 ((E (↑i : Int).toNat).d1 / 65536 % 256), .sint .u8 ((E (↑i : Int).toNat).d1 / 256 % 256), .sint .u8 ((E (↑i : Int).toNat).d1 / 1 % 256), .sint .u8 ((E (↑i : Int).toNat).d2 / 72057594037927936 % 256), .sint .u8 ((E (↑i : Int).toNat).d2 / 281474976710656 % 256), .sint .u8 ((E (↑i : Int).toNat).d2 / 1099511627776 % 256), .sint .u8 ((E (↑i : Int).toNat).d2 / 4294967296 % 256), .sint .u8 ((E (↑i : Int).toNat).d2 / 16777216 % 256), .sint .u8 ((E (↑i : Int).toNat).d2 / 65536 % 256), .sint .u8 ((E (↑i : Int).toNat).d2 / 256 % 256), .sint .u8 ((E (↑i : Int).toNat).d2 / 1 % 256), .sint .u8 ((E (↑i : Int).toNat).d3 / 72057594037927936 % 256), .sint .u8 ((E (↑i : Int).toNat).d3 / 281474976710656 % 256), .sint .u8 ((E (↑i : Int).toNat).d3 / 1099511627776 % 256), .sint .u8 ((E (↑i : Int).toNat).d3 / 4294967296 % 256), .sint .u8 ((E (↑i : Int).toNat).d3 / 16777216 % 256), .sint .u8 ((E (↑i : Int).toNat).d3 / 65536 % 256), .sint .u8 ((E (↑i : Int).toNat).d3 / 256 % 256), .sint .u8 ((E (↑i : Int).toNat).d3 / 1 % 256), .sint .u8 ((E (↑i : Int).toNat).d4 / 72057594037927936 % 256), .sint .u8 ((E (↑i : Int).toNat).d4 / 281474976710656 % 256), .sint .u8 ((E (↑i : Int).toNat).d4 / 1099511627776 % 256), .sint .u8 ((E (↑i : Int).toNat).d4 / 4294967296 % 256), .sint .u8 ((E (↑i : Int).toNat).d4 / 16777216 % 256), .sint .u8 ((E (↑i : Int).toNat).d4 / 65536 % 256), .sint .u8 ((E (↑i : Int).toNat).d4 / 256 % 256), .sint .u8 ((E (↑i : Int).toNat).d4 / 1 % 256), .sint .u8 ((E (↑i : Int).toNat).d5 / 72057594037927936 % 256), .sint .u8 ((E (↑i : Int).toNat).d5 / 281474976710656 % 256), .sint .u8 ((E (↑i : Int).toNat).d5 / 1099511627776 % 256), .sint .u8 ((E (↑i : Int).toNat).d5 / 4294967296 % 256), .sint .u8 ((E (↑i : Int).toNat).d5 / 16777216 % 256), .sint .u8 ((E (↑i : Int).toNat).d5 / 65536 % 256), .sint .u8 ((E (↑i : Int).toNat).d5 / 256 % 256), .sint .u8 ((E (↑i : Int).toNat).d5 / 1 % 256), .sint .u8 (E (↑i : Int).toNat).k, .sint .u8 ((E (↑i : Int).toNat).n / 72057594037927936 % 256), .sint .u8 ((E (↑i : Int).toNat).n / 281474976710656 % 256), .sint .u8 ((E (↑i : Int).toNat).n / 1099511627776 % 256), .sint .u8 ((E (↑i : Int).toNat).n / 4294967296 % 256), .sint .u8 ((E (↑i : Int).toNat).n / 16777216 % 256), .sint .u8 ((E (↑i : Int).toNat).n / 65536 % 256), .sint .u8 ((E (↑i : Int).toNat).n / 256 % 256), .sint .u8 ((E (↑i : Int).toNat).n / 1 % 256), .sint .u8 ((E (↑i : Int).toNat).t % 256), .sint .u8 ((E (↑i : Int).toNat).a / 72057594037927936 % 256), .sint .u8 ((E (↑i : Int).toNat).a / 281474976710656 % 256), .sint .u8 ((E (↑i : Int).toNat).a / 1099511627776 % 256), .sint .u8 ((E (↑i : Int).toNat).a / 4294967296 % 256), .sint .u8 ((E (↑i : Int).toNat).a / 16777216 % 256), .sint .u8 ((E (↑i : Int).toNat).a / 65536 % 256), .sint .u8 ((E (↑i : Int).toNat).a / 256 % 256), .sint .u8 ((E (↑i : Int).toNat).a / 1 % 256), .sint .u8 ((E (↑i : Int).toNat).r / 72057594037927936 % 256), .sint .u8 ((E (↑i : Int).toNat).r / 281474976710656 % 256), .sint .u8 ((E (↑i : Int).toNat).r / 1099511627776 % 256), .sint .u8 ((E (↑i : Int).toNat).r / 4294967296 % 256), .sint .u8 ((E (↑i : Int).toNat).r / 16777216 % 256), .sint .u8 ((E (↑i : Int).toNat).r / 65536 % 256), .sint .u8 ((E (↑i : Int).toNat).r / 256 % 256), .sint .u8 ((E (↑i : Int).toNat).r / 1 % 256), .sint .u8 ((E (↑i : Int).toNat).f / 72057594037927936 % 256), .sint .u8 ((E (↑i : Int).toNat).f / 281474976710656 % 256), .sint .u8 ((E (↑i : Int).toNat).f / 1099511627776 % 256), .sint .u8 ((E (↑i : Int).toNat).f / 4294967296 % 256), .sint .u8 ((E (↑i : Int).toNat).f / 16777216 % 256), .sint .u8 ((E (↑i : Int).toNat).f / 65536 % 256), .sint .u8 ((E (↑i : Int).toNat).f / 256 % 256), .sint .u8 ((E (↑i : Int).toNat).f / 1 % 256)]))), (some Blk.dead, none), (some (Blk.cells 2 (some 1) [.sint .u8 ((E (↑i : Int).toNat).o % 256), .sint .u8 ((E (↑i : Int).toNat).s / 72057594037927936 % 256), .sint .u8 ((E (↑i : Int).toNat).s / 281474976710656 % 256), .sint .u8 ((E (↑i : Int).toNat).s / 1099511627776 % 256), .sint .u8 ((E (↑i : Int).toNat).s / 4294967296 % 256), .sint .u8 ((E (↑i : Int).toNat).s / 16777216 % 256), .sint .u8 ((E (↑i : Int).toNat).s / 65536 % 256), .sint .u8 ((E (↑i : Int).toNat).s / 256 % 256), .sint .u8 ((E (↑i : Int).toNat).s / 1 % 256), .sint .u8 ((E (↑i : Int).toNat).d0 / 72057594037927936 % 256), .sint .u8 ((E (↑i : Int).toNat).d0 / 281474976710656 % 256), .sint .u8 ((E (↑i : Int).toNat).d0 / 1099511627776 % 256), .sint .u8 ((E (↑i : Int).toNat).d0 / 4294967296 % 256), .sint .u8 ((E (↑i : Int).toNat).d0 / 16777216 % 256), .sint .u8 ((E (↑i : Int).toNat).d0 / 65536 % 256), .sint .u8 ((E (↑i : Int).toNat).d0 / 256 % 256), .sint .u8 ((E (↑i : Int).toNat).d0 / 1 % 256), .sint .u8 ((E (↑i : Int).toNat).d1 / 72057594037927936 % 256), .sint .u8 ((E (↑i : Int).toNat).d1 / 281474976710656 % 256), .sint .u8 ((E (↑i : Int).toNat).d1 / 1099511627776 % 256), .sint .u8 ((E (↑i : Int).toNat).d1 / 4294967296 % 256), .sint .u8 ((E (↑i : Int).toNat).d1 / 16777216 % 256), .sint .u8 ((E (↑i : Int).toNat).d1 / 65536 % 256), .sint .u8 ((E (↑i : Int).toNat).d1 / 256 % 256), .sint .u8 ((E (↑i : Int).toNat).d1 / 1 % 256), .sint .u8 ((E (↑i : Int).toNat).d2 / 72057594037927936 % 256), .sint .u8 ((E (↑i : Int).toNat).d2 / 281474976710656 % 256), .sint .u8 ((E (↑i : Int).toNat).d2 / 1099511627776 % 256), .sint .u8 ((E (↑i : Int).toNat).d2 / 4294967296 % 256), .sint .u8 ((E (↑i : Int).toNat).d2 / 16777216 % 256), .sint .u8 ((E (↑i : Int).toNat).d2 / 65536 % 256), .sint .u8 ((E (↑i : Int).toNat).d2 / 256 % 256), .sint .u8 ((E (↑i : Int).toNat).d2 / 1 % 256), .sint .u8 ((E (↑i : Int).toNat).d3 / 72057594037927936 % 256), .sint .u8 ((E (↑i : Int).toNat).d3 / 281474976710656 % 256), .sint .u8 ((E (↑i : Int).toNat).d3 / 1099511627776 % 256), .sint .u8 ((E (↑i : Int).toNat).d3 / 4294967296 % 256), .sint .u8 ((E (↑i : Int).toNat).d3 / 16777216 % 256), .sint .u8 ((E (↑i : Int).toNat).d3 / 65536 % 256), .sint .u8 ((E (↑i : Int).toNat).d3 / 256 % 256), .sint .u8 ((E (↑i : Int).toNat).d3 / 1 % 256), .sint .u8 ((E (↑i : Int).toNat).d4 / 72057594037927936 % 256), .sint .u8 ((E (↑i : Int).toNat).d4 / 281474976710656 % 256), .sint .u8 ((E (↑i : Int).toNat).d4 / 1099511627776 % 256), .sint .u8 ((E (↑i : Int).toNat).d4 / 4294967296 % 256), .sint .u8 ((E (↑i : Int).toNat).d4 / 16777216 % 256), .sint .u8 ((E (↑i : Int).toNat).d4 / 65536 % 256), .sint .u8 ((E (↑i : Int).toNat).d4 / 256 % 256), .sint .u8 ((E (↑i : Int).toNat).d4 / 1 % 256), .sint .u8 ((E (↑i : Int).toNat).d5 / 72057594037927936 % 256), .sint .u8 ((E (↑i : Int).toNat).d5 / 281474976710656 % 256), .sint .u8 ((E (↑i : Int).toNat).d5 / 1099511627776 % 256), .sint .u8 ((E (↑i : Int).toNat).d5 / 4294967296 % 256), .sint .u8 ((E (↑i : Int).toNat).d5 / 16777216 % 256), .sint .u8 ((E (↑i : Int).toNat).d5 / 65536 % 256), .sint .u8 ((E (↑i : Int).toNat).d5 / 256 % 256), .sint .u8 ((E (↑i : Int).toNat).d5 / 1 % 256), .sint .u8 (E (↑i : Int).toNat).k, .sint .u8 ((E (↑i : Int).toNat).n / 72057594037927936 % 256), .sint .u8 ((E (↑i : Int).toNat).n / 281474976710656 % 256), .sint .u8 ((E (↑i : Int).toNat).n / 1099511627776 % 256), .sint .u8 ((E (↑i : Int).toNat).n / 4294967296 % 256), .sint .u8 ((E (↑i : Int).toNat).n / 16777216 % 256), .sint .u8 ((E (↑i : Int).toNat).n / 65536 % 256), .sint .u8 ((E (↑i : Int).toNat).n / 256 % 256), .sint .u8 ((E (↑i : Int).toNat).n / 1 % 256), .sint .u8 ((E (↑i : Int).toNat).t % 256), .sint .u8 ((E (↑i : Int).toNat).a / 72057594037927936 % 256), .sint .u8 ((E (↑i : Int).toNat).a / 281474976710656 % 256), .sint .u8 ((E (↑i : Int).toNat).a / 1099511627776 % 256), .sint .u8 ((E (↑i : Int).toNat).a / 4294967296 % 256), .sint .u8 ((E (↑i : Int).toNat).a / 16777216 % 256), .sint .u8 ((E (↑i : Int).toNat).a / 65536 % 256), .sint .u8 ((E (↑i : Int).toNat).a / 256 % 256), .sint .u8 ((E (↑i : Int).toNat).a / 1 % 256), .sint .u8 ((E (↑i : Int).toNat).r / 72057594037927936 % 256), .sint .u8 ((E (↑i : Int).toNat).r / 281474976710656 % 256), .sint .u8 ((E (↑i : Int).toNat).r / 1099511627776 % 256), .sint .u8 ((E (↑i : Int).toNat).r / 4294967296 % 256), .sint .u8 ((E (↑i : Int).toNat).r / 16777216 % 256), .sint .u8 ((E (↑i : Int).toNat).r / 65536 % 256), .sint .u8 ((E (↑i : Int).toNat).r / 256 % 256), .sint .u8 ((E (↑i : Int).toNat).r / 1 % 256), .sint .u8 ((E (↑i : Int).toNat).f / 72057594037927936 % 256), .sint .u8 ((E (↑i : Int).toNat).f / 281474976710656 % 256), .sint .u8 ((E (↑i : Int).toNat).f / 1099511627776 % 256), .sint .u8 ((E (↑i : Int).toNat).f / 4294967296 % 256), .sint .u8 ((E (↑i : Int).toNat).f / 16777216 % 256), .sint .u8 ((E (↑i : Int).toNat).f / 65536 % 256), .sint .u8 ((E (↑i : Int).toNat).f / 256 % 256), .sint .u8 ((E (↑i : Int).toNat).f / 1 % 256)]), none)]))))) (by kernel_rfl) ?_
    refine hl (bc fun h5 => by exact h5 ⟨by omega, rows1 rfl rfl⟩) ?_
    refine hl (bc fun h5 => by omega) ?_
    refine hl (bc fun h5 => by omega) ?_
    refine hold_stop (fun hd hb => ?_)
    refine ok_again hd _ ⟨i + 1, by omega⟩ (by show q - (i + 1) < q - i; omega) (fits_cs2 (look_join (look_hd hb) (look_hd (look_tl hb))) (by decide) (by simp [rpM, fitsA, fitA, nf]; omega) (by simp [MsI.row, evs, fitsA, fitA, nf]) ⟨by show 51 + 91 * (i + 1) ≤ _; omega, syn_glue m E i (by have := (hE i (by omega)).2; unfold EvI.rng at *; omega) rfl⟩)
   refine hold_stop (fun hd hb => ?_)
   exact ok_leafG hd (look_hd hb) (y := .gsl 0 (51 + 91 * q)) (by simp [fitA, fitsA, nf]; omega) (by omega) (fun i hi => ⟨rfl, nf_syn m E i⟩) (.inr (.inl ⟨by omega, my, rfl, rfl⟩))
  refine ok_sk (.stop []) (S := .stop (Hd.leaf .nilSlice) [] ([])) (by kernel_rfl) ?_
  refine hold_stop (fun hd hb => ?_)
  exact ok_leaf0 hd rfl (.inl ⟨rfl, rfl, my⟩)
end Go.Proofs.Ytjihbjjekhncaaa
