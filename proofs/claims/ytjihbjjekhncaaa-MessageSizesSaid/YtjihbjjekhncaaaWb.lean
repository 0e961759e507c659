import Derived.Test.YtjihbjjekhncaaaWa
namespace Go.Proofs.Ytjihbjjekhncaaa
open Go Go.RowKit Sv
set_option linter.unusedVariables false
set_option maxRecDepth 100000
set_option maxHeartbeats 0
def evs (n : Nat) (E : Nat → EvI) : AV := .data 14 n fun i => (E i).row
def malS (n : Nat) (E : Nat → EvI) (q : Nat) : List AV := [evs n E, .top, .bool false, .top, .top, evs n E, .sint .i64 (n : Int), .sint .i64 q, .top, .top, .top, .top, .top, .top, .top]
theorem malMay {q : Nat} {E : Nat → EvI} (h : ∀ j, j < q → (E j).may) (k : (E q).may) : ∀ j, j < q + 1 → (E j).may := fun j hj => by
  by_cases e : j < q
  · exact h j e
  · obtain rfl : j = q := by omega
    exact k
theorem emayAll (n : Nat) (E : Nat → EvI) (hn : n ≤ 1099511627776) : Runs Try.prog 70 [evs n E] fun x G => G = [] ∧ ((x = .bool true ∧ ∀ j, j < n → (E j).may) ∨ (x = .bool false ∧ ¬ ∀ j, j < n → (E j).may)) := by
  refine runs_treeF plain mixed (fun g => Nat.beq g 21) (fun _ => true) 60 ?_
  refine ok_sk (.stop []) (S := .stop (Hd.loop (55 : Nat) [AV.data (14 : Nat) n fun (i : Nat) => (E i).row, AV.tuple [], AV.bool Bool.false, AV.tuple [], AV.tuple [], AV.data (14 : Nat) n fun (i : Nat) => (E i).row, AV.sint IntKind.i64 (↑n : Int), AV.int IntKind.i64 (0 : Int), AV.tuple [], AV.tuple [], AV.tuple [], AV.tuple [], AV.tuple [], AV.tuple [], AV.tuple []]) [] ([])) (by kernel_rfl) ?_
  refine hold_stop (fun hd hb => ?_)
  refine ok_loop hd (X := {q : Nat // q ≤ n ∧ ∀ j, j < q → (E j).may}) (fun q => malS n E q.1) (fun _ => []) (fun q => n - q.1) [] ⟨0, by omega, fun j hj => absurd hj (Nat.not_lt_zero j)⟩ ⟨by simp [malS, evs, fitsA, fitA, nf], trivial, .nil⟩ ?_
  rintro ⟨q, q1, qm⟩
  refine ok_sk (.both (.l (.stop [])) (.stop [])) (S := .fork (decide ((↑q : Int) < (↑n : Int))) (.left (decide ((0 : Int) ≤ (↑q : Int) ∧ (↑q : Int).toNat < n)) (.stop (Hd.call (21 : Nat) [AV.agg [AV.sint IntKind.i64 (E (↑q : Int).toNat).o, AV.sint IntKind.u64 (E (↑q : Int).toNat).s, AV.sint IntKind.u64 (E (↑q : Int).toNat).d0, AV.sint IntKind.u64 (E (↑q : Int).toNat).d1, AV.sint IntKind.u64 (E (↑q : Int).toNat).d2, AV.sint IntKind.u64 (E (↑q : Int).toNat).d3, AV.sint IntKind.u64 (E (↑q : Int).toNat).d4, AV.sint IntKind.u64 (E (↑q : Int).toNat).d5, AV.sint IntKind.u8 (E (↑q : Int).toNat).k, AV.sint IntKind.u64 (E (↑q : Int).toNat).n, AV.sint IntKind.i64 (E (↑q : Int).toNat).t, AV.sint IntKind.i64 (E (↑q : Int).toNat).a, AV.sint IntKind.u64 (E (↑q : Int).toNat).r, AV.sint IntKind.u64 (E (↑q : Int).toNat).f]]) [] ([]))) (.stop (Hd.leaf (AV.bool Bool.true)) [] ([]))) (by kernel_rfl) ?_
  refine hold_forkD (fun h1 => ?_) (fun h1 => ?_)
  ·
   refine hold_leftD0 (Classical.byContradiction fun h2 => by omega) ?_
   refine hold_stop (fun hd hb => ?_)
   refine ok_call0 hd (emay (E (q : Int).toNat)) rfl ?_
   rintro x G (⟨rfl, rfl, my⟩ | ⟨rfl, rfl, my⟩) <;> refine ⟨rfl, fun g hg => (by cases hg), ?_⟩
   ·
    refine ok_sk (.l (.stop [0])) (S := .left (decide ((-9223372036854775808 : Int) ≤ (↑q : Int) + (1 : Int) ∧ (↑q : Int) + (1 : Int) ≤ (9223372036854775807 : Int))) (.stop (Hd.again (again' (fun (q : { q : Nat // q ≤ n ∧ ∀ (j : Nat), j < q → (E j).may }) => malS n E q.val) (fun (x : { q : Nat // q ≤ n ∧ ∀ (j : Nat), j < q → (E j).may }) => []) (fun (q : { q : Nat // q ≤ n ∧ ∀ (j : Nat), j < q → (E j).may }) => n - q.val) ⟨q, ⟨q1, qm⟩⟩) [AV.data (14 : Nat) n fun (i : Nat) => (E i).row, AV.top, AV.bool Bool.false, AV.top, AV.ptr (0 : Nat) (0 : Nat), AV.data (14 : Nat) n fun (i : Nat) => (E i).row, AV.sint IntKind.i64 (↑n : Int), AV.sint IntKind.i64 ((↑q : Int) + (1 : Int)), AV.bool Bool.true, AV.dptr [AV.sint IntKind.i64 (E (↑q : Int).toNat).o, AV.sint IntKind.u64 (E (↑q : Int).toNat).s, AV.sint IntKind.u64 (E (↑q : Int).toNat).d0, AV.sint IntKind.u64 (E (↑q : Int).toNat).d1, AV.sint IntKind.u64 (E (↑q : Int).toNat).d2, AV.sint IntKind.u64 (E (↑q : Int).toNat).d3, AV.sint IntKind.u64 (E (↑q : Int).toNat).d4, AV.sint IntKind.u64 (E (↑q : Int).toNat).d5, AV.sint IntKind.u8 (E (↑q : Int).toNat).k, AV.sint IntKind.u64 (E (↑q : Int).toNat).n, AV.sint IntKind.i64 (E (↑q : Int).toNat).t, AV.sint IntKind.i64 (E (↑q : Int).toNat).a, AV.sint IntKind.u64 (E (↑q : Int).toNat).r, AV.sint IntKind.u64 (E (↑q : Int).toNat).f], AV.agg [AV.sint IntKind.i64 (E (↑q : Int).toNat).o, AV.sint IntKind.u64 (E (↑q : Int).toNat).s, AV.sint IntKind.u64 (E (↑q : Int).toNat).d0, AV.sint IntKind.u64 (E (↑q : Int).toNat).d1, AV.sint IntKind.u64 (E (↑q : Int).toNat).d2, AV.sint IntKind.u64 (E (↑q : Int).toNat).d3, AV.sint IntKind.u64 (E (↑q : Int).toNat).d4, AV.sint IntKind.u64 (E (↑q : Int).toNat).d5, AV.sint IntKind.u8 (E (↑q : Int).toNat).k, AV.sint IntKind.u64 (E (↑q : Int).toNat).n, AV.sint IntKind.i64 (E (↑q : Int).toNat).t, AV.sint IntKind.i64 (E (↑q : Int).toNat).a, AV.sint IntKind.u64 (E (↑q : Int).toNat).r, AV.sint IntKind.u64 (E (↑q : Int).toNat).f], AV.agg [AV.sint IntKind.i64 (E (↑q : Int).toNat).o, AV.sint IntKind.u64 (E (↑q : Int).toNat).s, AV.sint IntKind.u64 (E (↑q : Int).toNat).d0, AV.sint IntKind.u64 (E (↑q : Int).toNat).d1, AV.sint IntKind.u64 (E (↑q : Int).toNat).d2, AV.sint IntKind.u64 (E (↑q : Int).toNat).d3, AV.sint IntKind.u64 (E (↑q : Int).toNat).d4, AV.sint IntKind.u64 (E (↑q : Int).toNat).d5, AV.sint IntKind.u8 (E (↑q : Int).toNat).k, AV.sint IntKind.u64 (E (↑q : Int).toNat).n, AV.sint IntKind.i64 (E (↑q : Int).toNat).t, AV.sint IntKind.i64 (E (↑q : Int).toNat).a, AV.sint IntKind.u64 (E (↑q : Int).toNat).r, AV.sint IntKind.u64 (E (↑q : Int).toNat).f], AV.bool Bool.true, AV.bool Bool.false, AV.sint IntKind.i64 ((↑q : Int) + (1 : Int))]) [0] ([(Option.some (Blk.cells (0 : Nat) Option.none [AV.sint IntKind.i64 (E (↑q : Int).toNat).o, AV.sint IntKind.u64 (E (↑q : Int).toNat).s, AV.sint IntKind.u64 (E (↑q : Int).toNat).d0, AV.sint IntKind.u64 (E (↑q : Int).toNat).d1, AV.sint IntKind.u64 (E (↑q : Int).toNat).d2, AV.sint IntKind.u64 (E (↑q : Int).toNat).d3, AV.sint IntKind.u64 (E (↑q : Int).toNat).d4, AV.sint IntKind.u64 (E (↑q : Int).toNat).d5, AV.sint IntKind.u8 (E (↑q : Int).toNat).k, AV.sint IntKind.u64 (E (↑q : Int).toNat).n, AV.sint IntKind.i64 (E (↑q : Int).toNat).t, AV.sint IntKind.i64 (E (↑q : Int).toNat).a, AV.sint IntKind.u64 (E (↑q : Int).toNat).r, AV.sint IntKind.u64 (E (↑q : Int).toNat).f]), Option.none)]))) (by kernel_rfl) ?_
    refine hold_leftD0 (Classical.byContradiction fun h3 => by omega) ?_
    refine hold_stop (fun hd hb => ?_)
    refine ok_again hd [] ⟨q + 1, by omega, malMay qm my⟩ ?_ ⟨?_, trivial, .nil⟩
    · show n - (q + 1) < n - q
      omega
    · simp [malS, evs, fitsA, fitA, nf] <;> omega
   refine ok_sk (.stop []) (S := .stop (Hd.leaf (AV.bool Bool.false)) [] ([])) (by kernel_rfl) ?_
   refine hold_stop (fun hd hb => ?_)
   exact ok_leaf0 hd rfl ⟨rfl, .inr ⟨rfl, fun h => my (h _ (by omega))⟩⟩
  refine hold_stop (fun hd hb => ?_)
  exact ok_leaf0 hd rfl ⟨rfl, .inl ⟨rfl, fun j hj => qm j (by omega)⟩⟩
end Go.Proofs.Ytjihbjjekhncaaa
namespace Go.Proofs.Ytjihbjjekhncaaa
open Go Go.RowKit Sv
set_option linter.unusedVariables false
set_option maxRecDepth 100000
set_option maxHeartbeats 0
/-- a message, its events aside. -/
structure MsI where
  k : Int
  f : Int
  t : Int
  v0 : Int
  v1 : Int
  v2 : Int
  v3 : Int
  v4 : Int
  v5 : Int
  n : Int
  a : Int
def MsI.row (m : MsI) (l : AV) : List AV := [.sint .u8 m.k, .sint .i64 m.f, .sint .i64 m.t, .sint .u64 m.v0, .sint .u64 m.v1, .sint .u64 m.v2, .sint .u64 m.v3, .sint .u64 m.v4, .sint .u64 m.v5, l, .sint .u64 m.n, .sint .i64 m.a]
def MsI.may (m : MsI) (q : Nat) (E : Nat → EvI) : Prop :=
  (1 ≤ m.f ∧ m.f ≤ 6 ∧ 1 ≤ m.t ∧ m.t ≤ 6 ∧ m.f ≠ m.t) ∧
  (m.v0 ≤ 1099511627776 ∧ m.v1 ≤ 1099511627776 ∧ m.v2 ≤ 1099511627776 ∧ m.v3 ≤ 1099511627776 ∧ m.v4 ≤ 1099511627776 ∧ m.v5 ≤ 1099511627776) ∧
  ((m.k = 1 ∧ m.n = 0 ∧ m.a = 0 ∧ q ≤ 16 ∧ ∀ j, j < q → (E j).may) ∨ (m.k = 2 ∧ m.n ≠ 0 ∧ 1 ≤ m.a ∧ m.a ≤ 1125899906842624 ∧ q = 0))
theorem mmay (m : MsI) (q : Nat) (E : Nat → EvI) (hq : q ≤ 1099511627776) : Runs Try.prog 30 [.agg (m.row (evs q E))] fun x G => G = [] ∧ ((x = .bool true ∧ m.may q E) ∨ (x = .bool false ∧ ¬ m.may q E)) := by
  refine runs_treeF plain mixed (fun g => Nat.beq g 69 || Nat.beq g 70) (fun _ => false) 60 ?_
  refine ok_sk (.both (.both (.both (.both (.both (.stop []) (.stop [])) (.stop [])) (.stop [])) (.stop [])) (.stop [])) (S := .fork (decide ((1 : Int) ≤ m.f)) (.fork (decide (m.f ≤ (6 : Int))) (.fork (decide ((1 : Int) ≤ m.t)) (.fork (decide (m.t ≤ (6 : Int))) (.fork (decide (m.f = m.t)) (.stop (Hd.leaf (AV.bool Bool.false)) [] ([])) (.stop (Hd.call (69 : Nat) [AV.agg [AV.sint IntKind.u64 m.v0, AV.sint IntKind.u64 m.v1, AV.sint IntKind.u64 m.v2, AV.sint IntKind.u64 m.v3, AV.sint IntKind.u64 m.v4, AV.sint IntKind.u64 m.v5]]) [] ([]))) (.stop (Hd.leaf (AV.bool Bool.false)) [] ([]))) (.stop (Hd.leaf (AV.bool Bool.false)) [] ([]))) (.stop (Hd.leaf (AV.bool Bool.false)) [] ([]))) (.stop (Hd.leaf (AV.bool Bool.false)) [] ([]))) (by kernel_rfl) ?_
  refine hold_forkD (fun h0 => ?_) (fun h0 => ?_)
  ·
   refine hold_forkD (fun h1 => ?_) (fun h1 => ?_)
   ·
    refine hold_forkD (fun h2 => ?_) (fun h2 => ?_)
    ·
     refine hold_forkD (fun h3 => ?_) (fun h3 => ?_)
     ·
      refine hold_forkD (fun h4 => ?_) (fun h4 => ?_)
      ·
       refine hold_stop (fun hd hb => ?_)
       exact ok_leaf0 hd rfl ⟨rfl, .inr ⟨rfl, by unfold MsI.may; omega⟩⟩
      refine hold_stop (fun hd hb => ?_)
      refine ok_call0 hd (vmay m.v0 m.v1 m.v2 m.v3 m.v4 m.v5) rfl ?_
      rintro x G ⟨rfl, ⟨rfl, mv⟩ | ⟨rfl, mv⟩⟩ <;> refine ⟨rfl, fun g hg => (by cases hg), ?_⟩
      ·
       refine ok_sk (.both (.both (.both (.both (.stop []) (.stop [])) (.stop [])) (.stop [])) (.both (.both (.stop []) (.both (.both (.both (.stop []) (.stop [])) (.stop [])) (.stop []))) (.stop []))) (S := .fork (decide (m.k = (1 : Int))) (.fork (decide (m.n = (0 : Int))) (.fork (decide (m.a = (0 : Int))) (.fork (decide ((↑q : Int) ≤ (16 : Int))) (.stop (Hd.call (70 : Nat) [AV.data (14 : Nat) q fun (i : Nat) => (E i).row]) [] ([])) (.stop (Hd.leaf (AV.bool Bool.false)) [] ([]))) (.stop (Hd.leaf (AV.bool Bool.false)) [] ([]))) (.stop (Hd.leaf (AV.bool Bool.false)) [] ([]))) (.fork (decide (m.k = (2 : Int))) (.fork (decide (m.n = (0 : Int))) (.stop (Hd.leaf (AV.bool Bool.false)) [] ([])) (.fork (decide ((1 : Int) ≤ m.a)) (.fork (decide (m.a ≤ (1125899906842624 : Int))) (.fork (decide ((↑q : Int) = (0 : Int))) (.stop (Hd.leaf (AV.bool Bool.true)) [] ([])) (.stop (Hd.leaf (AV.bool Bool.false)) [] ([]))) (.stop (Hd.leaf (AV.bool Bool.false)) [] ([]))) (.stop (Hd.leaf (AV.bool Bool.false)) [] ([])))) (.stop (Hd.leaf (AV.bool Bool.false)) [] ([])))) (by kernel_rfl) ?_
       refine hold_forkD (fun h6 => ?_) (fun h6 => ?_)
       ·
        refine hold_forkD (fun h7 => ?_) (fun h7 => ?_)
        ·
         refine hold_forkD (fun h8 => ?_) (fun h8 => ?_)
         ·
          refine hold_forkD (fun h9 => ?_) (fun h9 => ?_)
          ·
           refine hold_stop (fun hd hb => ?_)
           refine ok_call0 hd (emayAll q E hq) rfl ?_
           rintro x G ⟨rfl, ⟨rfl, ma⟩ | ⟨rfl, ma⟩⟩ <;> refine ⟨rfl, fun g hg => (by cases hg), ?_⟩
           ·
            refine ok_sk (.stop []) (S := .stop (Hd.leaf (AV.bool Bool.true)) [] ([])) (by kernel_rfl) ?_
            refine hold_stop (fun hd hb => ?_)
            exact ok_leaf0 hd rfl ⟨rfl, .inl ⟨rfl, ⟨by omega, by omega, .inl ⟨by omega, by omega, by omega, by omega, ma⟩⟩⟩⟩
           refine ok_sk (.stop []) (S := .stop (Hd.leaf (AV.bool Bool.false)) [] ([])) (by kernel_rfl) ?_
           refine hold_stop (fun hd hb => ?_)
           exact ok_leaf0 hd rfl ⟨rfl, .inr ⟨rfl, fun h => by rcases h.2.2 with k | k <;> first | omega | exact ma k.2.2.2.2⟩⟩
          refine hold_stop (fun hd hb => ?_)
          exact ok_leaf0 hd rfl ⟨rfl, .inr ⟨rfl, by unfold MsI.may; omega⟩⟩
         refine hold_stop (fun hd hb => ?_)
         exact ok_leaf0 hd rfl ⟨rfl, .inr ⟨rfl, by unfold MsI.may; omega⟩⟩
        refine hold_stop (fun hd hb => ?_)
        exact ok_leaf0 hd rfl ⟨rfl, .inr ⟨rfl, by unfold MsI.may; omega⟩⟩
       refine hold_forkD (fun h7 => ?_) (fun h7 => ?_)
       ·
        refine hold_forkD (fun h8 => ?_) (fun h8 => ?_)
        ·
         refine hold_stop (fun hd hb => ?_)
         exact ok_leaf0 hd rfl ⟨rfl, .inr ⟨rfl, by unfold MsI.may; omega⟩⟩
        refine hold_forkD (fun h9 => ?_) (fun h9 => ?_)
        ·
         refine hold_forkD (fun h10 => ?_) (fun h10 => ?_)
         ·
          refine hold_forkD (fun h11 => ?_) (fun h11 => ?_)
          ·
           refine hold_stop (fun hd hb => ?_)
           exact ok_leaf0 hd rfl ⟨rfl, .inl ⟨rfl, by unfold MsI.may; omega⟩⟩
          refine hold_stop (fun hd hb => ?_)
          exact ok_leaf0 hd rfl ⟨rfl, .inr ⟨rfl, by unfold MsI.may; omega⟩⟩
         refine hold_stop (fun hd hb => ?_)
         exact ok_leaf0 hd rfl ⟨rfl, .inr ⟨rfl, by unfold MsI.may; omega⟩⟩
        refine hold_stop (fun hd hb => ?_)
        exact ok_leaf0 hd rfl ⟨rfl, .inr ⟨rfl, by unfold MsI.may; omega⟩⟩
       refine hold_stop (fun hd hb => ?_)
       exact ok_leaf0 hd rfl ⟨rfl, .inr ⟨rfl, by unfold MsI.may; omega⟩⟩
      refine ok_sk (.stop []) (S := .stop (Hd.leaf (AV.bool Bool.false)) [] ([])) (by kernel_rfl) ?_
      refine hold_stop (fun hd hb => ?_)
      exact ok_leaf0 hd rfl ⟨rfl, .inr ⟨rfl, by unfold MsI.may; omega⟩⟩
     refine hold_stop (fun hd hb => ?_)
     exact ok_leaf0 hd rfl ⟨rfl, .inr ⟨rfl, by unfold MsI.may; omega⟩⟩
    refine hold_stop (fun hd hb => ?_)
    exact ok_leaf0 hd rfl ⟨rfl, .inr ⟨rfl, by unfold MsI.may; omega⟩⟩
   refine hold_stop (fun hd hb => ?_)
   exact ok_leaf0 hd rfl ⟨rfl, .inr ⟨rfl, by unfold MsI.may; omega⟩⟩
  refine hold_stop (fun hd hb => ?_)
  exact ok_leaf0 hd rfl ⟨rfl, .inr ⟨rfl, by unfold MsI.may; omega⟩⟩
end Go.Proofs.Ytjihbjjekhncaaa
namespace Go.Proofs.Ytjihbjjekhncaaa
open Go Go.RowKit Sv
set_option linter.unusedVariables false
set_option maxRecDepth 100000
set_option maxHeartbeats 0
/-- the bytes of events behind each other. -/
def evY (E : Nat → EvI) (i : Nat) : List AV := [cell8 ((E (i / 91)).by.getD (i % 91) 0)]
theorem by_len (e : EvI) : e.by.length = 91 := rfl
theorem take_drop {l : List AV} {r : Nat} (h : r < l.length) : (l.drop (r * 1)).take 1 = [l[r]] := by
  rw [Nat.mul_one, List.drop_eq_getElem_cons h, List.take_succ_cons, List.take_zero]
theorem leafy_get : ∀ {l : List AV} {i : Nat} (h : i < l.length), leafy l = true → leafy [l[i]] = true
  | a :: r, 0, h, hl => by cases a <;> first | rfl | cases hl
  | a :: r, i + 1, h, hl => by
    have h' : i < r.length := Nat.lt_of_succ_lt_succ h
    show leafy [r[i]] = true
    refine leafy_get h' ?_
    cases a <;> first | exact hl | cases hl
theorem rows1 {l : List AV} {m : Nat} (hm : l.length = m) (hl : leafy l = true) : RowsOK 1 m fun i => (l.drop (i * 1)).take 1 := fun i hi => by
  subst hm
  show ((l.drop (i * 1)).take 1).length = 1 ∧ leafy ((l.drop (i * 1)).take 1) = true
  rw [take_drop hi]
  exact ⟨rfl, leafy_get hi hl⟩
theorem evY_glue (E : Nat → EvI) (q : Nat) {g : Nat → List AV} (hg : g = fun i => (((E q).by.map cell8).drop (i * 1)).take 1) : ∀ i, i < 91 * q + 91 → evY E i = glue (91 * q) (evY E) g i ∧ nfs (evY E i) = true := fun i hi => by
  refine ⟨?_, rfl⟩
  unfold glue
  by_cases h : i < 91 * q
  · rw [if_pos h]
  · have hr : i - 91 * q < ((E q).by.map cell8).length := by
      rw [List.length_map, by_len]
      omega
    rw [if_neg h, hg]
    show _ = (((E q).by.map cell8).drop ((i - 91 * q) * 1)).take 1
    rw [take_drop hr, List.getElem_map]
    have e1 : i / 91 = q := by omega
    have e2 : i % 91 = i - 91 * q := by omega
    unfold evY
    rw [e1, e2, List.getD_eq_getElem?_getD, List.getElem?_eq_getElem (by rw [by_len]; omega), Option.getD_some]
def wsS (n : Nat) (E : Nat → EvI) (q : Nat) : List AV := [.top, .top, .top, .gsl 0 (91 * q), .top, .top, .top, evs n E, .sint .i64 (n : Int), .sint .i64 q, .top, .top, .top, .top, .top, .top, .top, .top, .top]
def wsG (E : Nat → EvI) (q : Nat) : List NewB := [.seq 1 (91 * q) (evY E)]
theorem wsync (m : MsI) (n : Nat) (E : Nat → EvI) (hn : n ≤ 16) (hE : ∀ j, j < n → (E j).rng ∧ (E j).may) : Runs Try.prog 95 [.agg (m.row (evs n E))] fun x G => x = .gsl 0 (91 * n) ∧ G = [.seq 1 (91 * n) (evY E)] := by
  refine runs_treeF plain mixed (fun g => Nat.beq g 23) (fun _ => true) 60 ?_
  refine ok_sk (.stop [0]) (S := .stop (Hd.loop (54 : Nat) [AV.agg [AV.sint IntKind.u8 m.k, AV.sint IntKind.i64 m.f, AV.sint IntKind.i64 m.t, AV.sint IntKind.u64 m.v0, AV.sint IntKind.u64 m.v1, AV.sint IntKind.u64 m.v2, AV.sint IntKind.u64 m.v3, AV.sint IntKind.u64 m.v4, AV.sint IntKind.u64 m.v5, AV.data (14 : Nat) n fun (i : Nat) => (E i).row, AV.sint IntKind.u64 m.n, AV.sint IntKind.i64 m.a], AV.ptr (0 : Nat) (0 : Nat), AV.nilSlice, AV.nilSlice, AV.tuple [], AV.tuple [], AV.ptr (0 : Nat) (9 : Nat), AV.data (14 : Nat) n fun (i : Nat) => (E i).row, AV.sint IntKind.i64 (↑n : Int), AV.int IntKind.i64 (0 : Int), AV.tuple [], AV.tuple [], AV.tuple [], AV.tuple [], AV.tuple [], AV.tuple [], AV.tuple [], AV.tuple [], AV.tuple []]) [0] ([(Option.some (Blk.cells (0 : Nat) Option.none [AV.sint IntKind.u8 m.k, AV.sint IntKind.i64 m.f, AV.sint IntKind.i64 m.t, AV.sint IntKind.u64 m.v0, AV.sint IntKind.u64 m.v1, AV.sint IntKind.u64 m.v2, AV.sint IntKind.u64 m.v3, AV.sint IntKind.u64 m.v4, AV.sint IntKind.u64 m.v5, AV.data (14 : Nat) n fun (i : Nat) => (E i).row, AV.sint IntKind.u64 m.n, AV.sint IntKind.i64 m.a]), Option.none)])) (by kernel_rfl) ?_
  refine hold_stop (fun hd hb => ?_)
  refine ok_loop hd (X := {q : Nat // q ≤ n}) (fun q => wsS n E q.1) (fun q => wsG E q.1) (fun q => n - q.1) [none] ⟨0, by omega⟩ (fits_none (by simp [wsS, evs, fitsA, fitA, nf])) ?_
  rintro ⟨q, q1⟩
  refine ok_sk (.both (.l (.stop [])) (.stop [0])) (S := .fork (decide ((↑q : Int) < (↑n : Int))) (.left (decide ((0 : Int) ≤ (↑q : Int) ∧ (↑q : Int).toNat < n)) (.stop (Hd.call (23 : Nat) [AV.agg [AV.sint IntKind.i64 (E (↑q : Int).toNat).o, AV.sint IntKind.u64 (E (↑q : Int).toNat).s, AV.sint IntKind.u64 (E (↑q : Int).toNat).d0, AV.sint IntKind.u64 (E (↑q : Int).toNat).d1, AV.sint IntKind.u64 (E (↑q : Int).toNat).d2, AV.sint IntKind.u64 (E (↑q : Int).toNat).d3, AV.sint IntKind.u64 (E (↑q : Int).toNat).d4, AV.sint IntKind.u64 (E (↑q : Int).toNat).d5, AV.sint IntKind.u8 (E (↑q : Int).toNat).k, AV.sint IntKind.u64 (E (↑q : Int).toNat).n, AV.sint IntKind.i64 (E (↑q : Int).toNat).t, AV.sint IntKind.i64 (E (↑q : Int).toNat).a, AV.sint IntKind.u64 (E (↑q : Int).toNat).r, AV.sint IntKind.u64 (E (↑q : Int).toNat).f]]) [] ([]))) (.stop (Hd.leaf (AV.gsl (0 : Nat) ((91 : Nat) * q))) [0] ([(Option.some (Blk.seq (0 : Nat) (1 : Nat) ((91 : Nat) * q) (evY E)), Option.some ((1 : Nat), (91 : Nat) * q, evY E))]))) (by kernel_rfl) ?_
  refine hold_forkD (fun h1 => ?_) (fun h1 => ?_)
  ·
   refine hold_leftD0 (Classical.byContradiction fun h2 => by omega) ?_
   refine hold_stop (fun hd hb => ?_)
   refine ok_call0 hd (eput (E q) (hE q (by omega)).1) rfl ?_
   rintro x G (⟨rfl, rfl, my⟩ | ⟨rfl, rfl, my⟩) <;> first | exact absurd (hE q (by omega)).2 my | refine ⟨rfl, fun g hg => (by rcases List.mem_singleton.1 hg with rfl; rfl), ?_⟩
   refine ok_sk (.l (.l (.l (.stop [3, 1, 0, 2])))) (S := .left (@decide ((91 : Nat) < (65536 : Nat) ∧ RowsOK (1 : Nat) (91 : Nat) fun (i : Nat) => List.take (1 : Nat) (List.drop (i * (1 : Nat)) [AV.sint IntKind.u8 ((E q).o % (256 : Int)), AV.sint IntKind.u8 ((E q).s / (72057594037927936 : Int) % (256 : Int)), AV.sint IntKind.u8 ((E q).s / (281474976710656 : Int) % (256 : Int)), AV.sint IntKind.u8 ((E q).s / (1099511627776 : Int) % (256 : Int)), AV.sint IntKind.u8 ((E q).s / (4294967296 : Int) % (256 : Int)), AV.sint IntKind.u8 ((E q).s / (16777216 : Int) % (256 : Int)), AV.sint IntKind.u8 ((E q).s / (65536 : Int) % (256 : Int)), AV.sint IntKind.u8 ((E q).s / (256 : Int) % (256 : Int)), AV.sint IntKind.u8 ((E q).s % (256 : Int)), AV.sint IntKind.u8 ((E q).d0 / (72057594037927936 : Int) % (256 : Int)), AV.sint IntKind.u8 ((E q).d0 / (281474976710656 : Int) % (256 : Int)), AV.sint IntKind.u8 ((E q).d0 / (1099511627776 : Int) % (256 : Int)), AV.sint IntKind.u8 ((E q).d0 / (4294967296 : Int) % (256 : Int)), AV.sint IntKind.u8 ((E q).d0 / (16777216 : Int) % (256 : Int)), AV.sint IntKind.u8 ((E q).d0 / (65536 : Int) % (256 : Int)), AV.sint IntKind.u8 ((E q).d0 / (256 : Int) % (256 : Int)), AV.sint IntKind.u8 ((E q).d0 / (1 : Int) % (256 : Int)), AV.sint IntKind.u8 ((E q).d1 / (72057594037927936 : Int) % (256 : Int)), AV.sint IntKind.u8 ((E q).d1 / (281474976710656 : Int) % (256 : Int)), AV.sint IntKind.u8 ((E q).d1 / (1099511627776 : Int) % (256 : Int)), AV.sint IntKind.u8 ((E q).d1 / (4294967296 : Int) % (256 : Int)), AV.sint IntKind.u8 ((E q).d1 / (16777216 : Int) % (256 : Int)), AV.sint IntKind.u8 ((E q).d1 / (65536 : Int) % (256 : Int)), AV.sint IntKind.u8 ((E q).d1 / (256 : Int) % (256 : Int)), AV.sint IntKind.u8 ((E q).d1 / (1 : Int) % (256 : Int)), AV.sint IntKind.u8 ((E q).d2 / (72057594037927936 : Int) % (256 : Int)), AV.sint IntKind.u8 ((E q).d2 / (281474976710656 : Int) % (256 : Int)), AV.sint IntKind.u8 ((E q).d2 / (1099511627776 : Int) % (256 : Int)), AV.sint IntKind.u8 ((E q).d2 / (4294967296 : Int) % (256 : Int)), AV.sint IntKind.u8 ((E q).d2 / (16777216 : Int) % (256 : Int)), AV.sint IntKind.u8 ((E q).d2 / (65536 : Int) % (256 : Int)), AV.sint IntKind.u8 ((E q).d2 / (256 : Int) % (256 : Int)), AV.sint IntKind.u8 ((E q).d2 / (1 : Int) % (256 : Int)), AV.sint IntKind.u8 ((E q).d3 / (72057594037927936 : Int) % (256 : Int)), AV.sint IntKind.u8 ((E q).d3 / (281474976710656 : Int) % (256 : Int)), AV.sint IntKind.u8 ((E q).d3 / (1099511627776 : Int) % (256 : Int)), AV.sint IntKind.u8 ((E q).d3 / (4294967296 : Int) % (256 : Int)), AV.sint IntKind.u8 ((E q).d3 / (16777216 : Int) % (256 : Int)), AV.sint IntKind.u8 ((E q).d3 / (65536 : Int) % (256 : Int)), AV.sint IntKind.u8 ((E q).d3 / (256 : Int) % (256 : Int)), AV.sint IntKind.u8 ((E q).d3 / (1 : Int) % (256 : Int)), AV.sint IntKind.u8 ((E q).d4 / (72057594037927936 : Int) % (256 : Int)), AV.sint IntKind.u8 ((E q).d4 / (281474976710656 : Int) % (256 : Int)), AV.sint IntKind.u8 ((E q).d4 / (1099511627776 : Int) % (256 : Int)), AV.sint IntKind.u8 ((E q).d4 / (4294967296 : Int) % (256 : Int)), AV.sint IntKind.u8 ((E q).d4 / (16777216 : Int) % (256 : Int)), AV.sint IntKind.u8 ((E q).d4 / (65536 : Int) % (256 : Int)), AV.sint IntKind.u8 ((E q).d4 / (256 : Int) % (256 : Int)), AV.sint IntKind.u8 ((E q).d4 / (1 : Int) % (256 : Int)), AV.sint IntKind.u8 ((E q).d5 / (72057594037927936 : Int) % (256 : Int)), AV.sint IntKind.u8 ((E q).d5 / (281474976710656 : Int) % (256 : Int)), AV.sint IntKind.u8 ((E q).d5 / (1099511627776 : Int) % (256 : Int)), AV.sint IntKind.u8 ((E q).d5 / (4294967296 : Int) % (256 : Int)), AV.sint IntKind.u8 ((E q).d5 / (16777216 : Int) % (256 : Int)), AV.sint IntKind.u8 ((E q).d5 / (65536 : Int) % (256 : Int)), AV.sint IntKind.u8 ((E q).d5 / (256 : Int) % (256 : Int)), AV.sint IntKind.u8 ((E q).d5 / (1 : Int) % (256 : Int)), AV.sint IntKind.u8 ((E q).k % (256 : Int)), AV.sint IntKind.u8 ((E q).n / (72057594037927936 : Int) % (256 : Int)), AV.sint IntKind.u8 ((E q).n / (281474976710656 : Int) % (256 : Int)), AV.sint IntKind.u8 ((E q).n / (1099511627776 : Int) % (256 : Int)), AV.sint IntKind.u8 ((E q).n / (4294967296 : Int) % (256 : Int)), AV.sint IntKind.u8 ((E q).n / (16777216 : Int) % (256 : Int)), AV.sint IntKind.u8 ((E q).n / (65536 : Int) % (256 : Int)), AV.sint IntKind.u8 ((E q).n / (256 : Int) % (256 : Int)), AV.sint IntKind.u8 ((E q).n % (256 : Int)), AV.sint IntKind.u8 ((E q).t % (256 : Int)), AV.sint IntKind.u8 ((E q).a / (72057594037927936 : Int) % (256 : Int)), AV.sint IntKind.u8 ((E q).a / (281474976710656 : Int) % (256 : Int)), AV.sint IntKind.u8 ((E q).a / (1099511627776 : Int) % (256 : Int)), AV.sint IntKind.u8 ((E q).a / (4294967296 : Int) % (256 : Int)), AV.sint IntKind.u8 ((E q).a / (16777216 : Int) % (256 : Int)), AV.sint IntKind.u8 ((E q).a / (65536 : Int) % (256 : Int)), AV.sint IntKind.u8 ((E q).a / (256 : Int) % (256 : Int)), AV.sint IntKind.u8 ((E q).a % (256 : Int)), AV.sint IntKind.u8 ((E q).r / (72057594037927936 : Int) % (256 : Int)), AV.sint IntKind.u8 ((E q).r / (281474976710656 : Int) % (256 : Int)), AV.sint IntKind.u8 ((E q).r / (1099511627776 : Int) % (256 : Int)), AV.sint IntKind.u8 ((E q).r / (4294967296 : Int) % (256 : Int)), AV.sint IntKind.u8 ((E q).r / (16777216 : Int) % (256 : Int)), AV.sint IntKind.u8 ((E q).r / (65536 : Int) % (256 : Int)), AV.sint IntKind.u8 ((E q).r / (256 : Int) % (256 : Int)), AV.sint IntKind.u8 ((E q).r % (256 : Int)), AV.sint IntKind.u8 ((E q).f / (72057594037927936 : Int) % (256 : Int)), AV.sint IntKind.u8 ((E q).f / (281474976710656 : Int) % (256 : Int)), AV.sint IntKind.u8 ((E q).f / (1099511627776 : Int) % (256 : Int)), AV.sint IntKind.u8 ((E q).f / (4294967296 : Int) % (256 : Int)), AV.sint IntKind.u8 ((E q).f / (16777216 : Int) % (256 : Int)), AV.sint IntKind.u8 ((E q).f / (65536 : Int) % (256 : Int)), AV.sint IntKind.u8 ((E q).f / (256 : Int) % (256 : Int)), AV.sint IntKind.u8 ((E q).f % (256 : Int))])) (Classical.propDecidable _)) (.left (decide ((91 : Nat) * q ≤ (91 : Nat) * q ∧ (91 : Nat) * q < (65536 : Nat))) (.left (decide ((-9223372036854775808 : Int) ≤ (↑q : Int) + (1 : Int) ∧ (↑q : Int) + (1 : Int) ≤ (9223372036854775807 : Int))) (.stop (Hd.again (again' (fun (q : { q : Nat // q ≤ n }) => wsS n E q.val) (fun (q : { q : Nat // q ≤ n }) => wsG E q.val) (fun (q : { q : Nat // q ≤ n }) => n - q.val) ⟨q, q1⟩) [AV.top, AV.top, AV.top, AV.gsl (3 : Nat) ((91 : Nat) * q + (91 : Nat)), AV.top, AV.ptr (1 : Nat) (0 : Nat), AV.top, AV.data (14 : Nat) n fun (i : Nat) => (E i).row, AV.sint IntKind.i64 (↑n : Int), AV.sint IntKind.i64 ((↑q : Int) + (1 : Int)), AV.bool Bool.true, AV.dptr [AV.sint IntKind.i64 (E (↑q : Int).toNat).o, AV.sint IntKind.u64 (E (↑q : Int).toNat).s, AV.sint IntKind.u64 (E (↑q : Int).toNat).d0, AV.sint IntKind.u64 (E (↑q : Int).toNat).d1, AV.sint IntKind.u64 (E (↑q : Int).toNat).d2, AV.sint IntKind.u64 (E (↑q : Int).toNat).d3, AV.sint IntKind.u64 (E (↑q : Int).toNat).d4, AV.sint IntKind.u64 (E (↑q : Int).toNat).d5, AV.sint IntKind.u8 (E (↑q : Int).toNat).k, AV.sint IntKind.u64 (E (↑q : Int).toNat).n, AV.sint IntKind.i64 (E (↑q : Int).toNat).t, AV.sint IntKind.i64 (E (↑q : Int).toNat).a, AV.sint IntKind.u64 (E (↑q : Int).toNat).r, AV.sint IntKind.u64 (E (↑q : Int).toNat).f], AV.agg [AV.sint IntKind.i64 (E (↑q : Int).toNat).o, AV.sint IntKind.u64 (E (↑q : Int).toNat).s, AV.sint IntKind.u64 (E (↑q : Int).toNat).d0, AV.sint IntKind.u64 (E (↑q : Int).toNat).d1, AV.sint IntKind.u64 (E (↑q : Int).toNat).d2, AV.sint IntKind.u64 (E (↑q : Int).toNat).d3, AV.sint IntKind.u64 (E (↑q : Int).toNat).d4, AV.sint IntKind.u64 (E (↑q : Int).toNat).d5, AV.sint IntKind.u8 (E (↑q : Int).toNat).k, AV.sint IntKind.u64 (E (↑q : Int).toNat).n, AV.sint IntKind.i64 (E (↑q : Int).toNat).t, AV.sint IntKind.i64 (E (↑q : Int).toNat).a, AV.sint IntKind.u64 (E (↑q : Int).toNat).r, AV.sint IntKind.u64 (E (↑q : Int).toNat).f], AV.gsl (0 : Nat) ((91 : Nat) * q), AV.agg [AV.sint IntKind.i64 (E (↑q : Int).toNat).o, AV.sint IntKind.u64 (E (↑q : Int).toNat).s, AV.sint IntKind.u64 (E (↑q : Int).toNat).d0, AV.sint IntKind.u64 (E (↑q : Int).toNat).d1, AV.sint IntKind.u64 (E (↑q : Int).toNat).d2, AV.sint IntKind.u64 (E (↑q : Int).toNat).d3, AV.sint IntKind.u64 (E (↑q : Int).toNat).d4, AV.sint IntKind.u64 (E (↑q : Int).toNat).d5, AV.sint IntKind.u8 (E (↑q : Int).toNat).k, AV.sint IntKind.u64 (E (↑q : Int).toNat).n, AV.sint IntKind.i64 (E (↑q : Int).toNat).t, AV.sint IntKind.i64 (E (↑q : Int).toNat).a, AV.sint IntKind.u64 (E (↑q : Int).toNat).r, AV.sint IntKind.u64 (E (↑q : Int).toNat).f], AV.slice (2 : Nat) (0 : Nat) (91 : Nat) (91 : Nat) Bool.false, AV.gsl (3 : Nat) ((91 : Nat) * q + (91 : Nat)), AV.sint IntKind.i64 ((↑q : Int) + (1 : Int)), AV.top]) [3, 1, 0, 2] ([(Option.some (Blk.seq (3 : Nat) (1 : Nat) ((91 : Nat) * q + (91 : Nat)) (glue ((91 : Nat) * q) (evY E) fun (i : Nat) => List.take (1 : Nat) (List.drop (i * (1 : Nat)) [AV.sint IntKind.u8 ((E q).o % (256 : Int)), AV.sint IntKind.u8 ((E q).s / (72057594037927936 : Int) % (256 : Int)), AV.sint IntKind.u8 ((E q).s / (281474976710656 : Int) % (256 : Int)), AV.sint IntKind.u8 ((E q).s / (1099511627776 : Int) % (256 : Int)), AV.sint IntKind.u8 ((E q).s / (4294967296 : Int) % (256 : Int)), AV.sint IntKind.u8 ((E q).s / (16777216 : Int) % (256 : Int)), AV.sint IntKind.u8 ((E q).s / (65536 : Int) % (256 : Int)), AV.sint IntKind.u8 ((E q).s / (256 : Int) % (256 : Int)), AV.sint IntKind.u8 ((E q).s % (256 : Int)), AV.sint IntKind.u8 ((E q).d0 / (72057594037927936 : Int) % (256 : Int)), AV.sint IntKind.u8 ((E q).d0 / (281474976710656 : Int) % (256 : Int)), AV.sint IntKind.u8 ((E q).d0 / (1099511627776 : Int) % (256 : Int)), AV.sint IntKind.u8 ((E q).d0 / (4294967296 : Int) % (256 : Int)), AV.sint IntKind.u8 ((E q).d0 / (16777216 : Int) % (256 : Int)), AV.sint IntKind.u8 ((E q).d0 / (65536 : Int) % (256 : Int)), AV.sint IntKind.u8 ((E q).d0 / (256 : Int) % (256 : Int)), AV.sint IntKind.u8 ((E q).d0 / (1 : Int) % (256 : Int)), AV.sint IntKind.u8 ((E q).d1 / (72057594037927936 : Int) % (256 : Int)), AV.sint IntKind.u8 ((E q).d1 / (281474976710656 : Int) % (256 : Int)), AV.sint IntKind.u8 ((E q).d1 / (1099511627776 : Int) % (256 : Int)), AV.sint IntKind.u8 ((E q).d1 / (4294967296 : Int) % (256 : Int)), AV.sint IntKind.u8 ((E q).d1 / (16777216 : Int) % (256 : Int)), AV.sint IntKind.u8 ((E q).d1 / (65536 : Int) % (256 : Int)), AV.sint IntKind.u8 ((E q).d1 / (256 : Int) % (256 : Int)), AV.sint IntKind.u8 ((E q).d1 / (1 : Int) % (256 : Int)), AV.sint IntKind.u8 ((E q).d2 / (72057594037927936 : Int) % (256 : Int)), AV.sint IntKind.u8 ((E q).d2 / (281474976710656 : Int) % (256 : Int)), AV.sint IntKind.u8 ((E q).d2 / (1099511627776 : Int) % (256 : Int)), AV.sint IntKind.u8 ((E q).d2 / (4294967296 : Int) % (256 : Int)), AV.sint IntKind.u8 ((E q).d2 / (16777216 : Int) % (256 : Int)), AV.sint IntKind.u8 ((E q).d2 / (65536 : Int) % (256 : Int)), AV.sint IntKind.u8 ((E q).d2 / (256 : Int) % (256 : Int)), AV.sint IntKind.u8 ((E q).d2 / (1 : Int) % (256 : Int)), AV.sint IntKind.u8 ((E q).d3 / (72057594037927936 : Int) % (256 : Int)), AV.sint IntKind.u8 ((E q).d3 / (281474976710656 : Int) % (256 : Int)), AV.sint IntKind.u8 ((E q).d3 / (1099511627776 : Int) % (256 : Int)), AV.sint IntKind.u8 ((E q).d3 / (4294967296 : Int) % (256 : Int)), AV.sint IntKind.u8 ((E q).d3 / (16777216 : Int) % (256 : Int)), AV.sint IntKind.u8 ((E q).d3 / (65536 : Int) % (256 : Int)), AV.sint IntKind.u8 ((E q).d3 / (256 : Int) % (256 : Int)), AV.sint IntKind.u8 ((E q).d3 / (1 : Int) % (256 : Int)), AV.sint IntKind.u8 ((E q).d4 / (72057594037927936 : Int) % (256 : Int)), AV.sint IntKind.u8 ((E q).d4 / (281474976710656 : Int) % (256 : Int)), AV.sint IntKind.u8 ((E q).d4 / (1099511627776 : Int) % (256 : Int)), AV.sint IntKind.u8 ((E q).d4 / (4294967296 : Int) % (256 : Int)), AV.sint IntKind.u8 ((E q).d4 / (16777216 : Int) % (256 : Int)), AV.sint IntKind.u8 ((E q).d4 / (65536 : Int) % (256 : Int)), AV.sint IntKind.u8 ((E q).d4 / (256 : Int) % (256 : Int)), AV.sint IntKind.u8 ((E q).d4 / (1 : Int) % (256 : Int)), AV.sint IntKind.u8 ((E q).d5 / (72057594037927936 : Int) % (256 : Int)), AV.sint IntKind.u8 ((E q).d5 / (281474976710656 : Int) % (256 : Int)), AV.sint IntKind.u8 ((E q).d5 / (1099511627776 : Int) % (256 : Int)), AV.sint IntKind.u8 ((E q).d5 / (4294967296 : Int) % (256 : Int)), AV.sint IntKind.u8 ((E q).d5 / (16777216 : Int) % (256 : Int)), AV.sint IntKind.u8 ((E q).d5 / (65536 : Int) % (256 : Int)), AV.sint IntKind.u8 ((E q).d5 / (256 : Int) % (256 : Int)), AV.sint IntKind.u8 ((E q).d5 / (1 : Int) % (256 : Int)), AV.sint IntKind.u8 ((E q).k % (256 : Int)), AV.sint IntKind.u8 ((E q).n / (72057594037927936 : Int) % (256 : Int)), AV.sint IntKind.u8 ((E q).n / (281474976710656 : Int) % (256 : Int)), AV.sint IntKind.u8 ((E q).n / (1099511627776 : Int) % (256 : Int)), AV.sint IntKind.u8 ((E q).n / (4294967296 : Int) % (256 : Int)), AV.sint IntKind.u8 ((E q).n / (16777216 : Int) % (256 : Int)), AV.sint IntKind.u8 ((E q).n / (65536 : Int) % (256 : Int)), AV.sint IntKind.u8 ((E q).n / (256 : Int) % (256 : Int)), AV.sint IntKind.u8 ((E q).n % (256 : Int)), AV.sint IntKind.u8 ((E q).t % (256 : Int)), AV.sint IntKind.u8 ((E q).a / (72057594037927936 : Int) % (256 : Int)), AV.sint IntKind.u8 ((E q).a / (281474976710656 : Int) % (256 : Int)), AV.sint IntKind.u8 ((E q).a / (1099511627776 : Int) % (256 : Int)), AV.sint IntKind.u8 ((E q).a / (4294967296 : Int) % (256 : Int)), AV.sint IntKind.u8 ((E q).a / (16777216 : Int) % (256 : Int)), AV.sint IntKind.u8 ((E q).a / (65536 : Int) % (256 : Int)), AV.sint IntKind.u8 ((E q).a / (256 : Int) % (256 : Int)), AV.sint IntKind.u8 ((E q).a % (256 : Int)), AV.sint IntKind.u8 ((E q).r / (72057594037927936 : Int) % (256 : Int)), AV.sint IntKind.u8 ((E q).r / (281474976710656 : Int) % (256 : Int)), AV.sint IntKind.u8 ((E q).r / (1099511627776 : Int) % (256 : Int)), AV.sint IntKind.u8 ((E q).r / (4294967296 : Int) % (256 : Int)), AV.sint IntKind.u8 ((E q).r / (16777216 : Int) % (256 : Int)), AV.sint IntKind.u8 ((E q).r / (65536 : Int) % (256 : Int)), AV.sint IntKind.u8 ((E q).r / (256 : Int) % (256 : Int)), AV.sint IntKind.u8 ((E q).r % (256 : Int)), AV.sint IntKind.u8 ((E q).f / (72057594037927936 : Int) % (256 : Int)), AV.sint IntKind.u8 ((E q).f / (281474976710656 : Int) % (256 : Int)), AV.sint IntKind.u8 ((E q).f / (1099511627776 : Int) % (256 : Int)), AV.sint IntKind.u8 ((E q).f / (4294967296 : Int) % (256 : Int)), AV.sint IntKind.u8 ((E q).f / (16777216 : Int) % (256 : Int)), AV.sint IntKind.u8 ((E q).f / (65536 : Int) % (256 : Int)), AV.sint IntKind.u8 ((E q).f / (256 : Int) % (256 : Int)), AV.sint IntKind.u8 ((E q).f % (256 : Int))]))), Option.some ((1 : Nat), (91 : Nat) * q + (91 : Nat), glue ((91 : Nat) * q) (evY E) fun (i : Nat) => List.take (1 : Nat) (List.drop (i * (1 : Nat)) [AV.sint IntKind.u8 ((E q).o % (256 : Int)), AV.sint IntKind.u8 ((E q).s / (72057594037927936 : Int) % (256 : Int)), AV.sint IntKind.u8 ((E q).s / (281474976710656 : Int) % (256 : Int)), AV.sint IntKind.u8 ((E q).s / (1099511627776 : Int) % (256 : Int)), AV.sint IntKind.u8 ((E q).s / (4294967296 : Int) % (256 : Int)), AV.sint IntKind.u8 ((E q).s / (16777216 : Int) % (256 : Int)), AV.sint IntKind.u8 ((E q).s / (65536 : Int) % (256 : Int)), AV.sint IntKind.u8 ((E q).s / (256 : Int) % (256 : Int)), AV.sint IntKind.u8 ((E q).s % (256 : Int)), AV.sint IntKind.u8 ((E q).d0 / (72057594037927936 : Int) % (256 : Int)), AV.sint IntKind.u8 ((E q).d0 / (281474976710656 : Int) % (256 : Int)), AV.sint IntKind.u8 ((E q).d0 / (1099511627776 : Int) % (256 : Int)), AV.sint IntKind.u8 ((E q).d0 / (4294967296 : Int) % (256 : Int)), AV.sint IntKind.u8 ((E q).d0 / (16777216 : Int) % (256 : Int)), AV.sint IntKind.u8 ((E q).d0 / (65536 : Int) % (256 : Int)), AV.sint IntKind.u8 ((E q).d0 / (256 : Int) % (256 : Int)), AV.sint IntKind.u8 ((E q).d0 / (1 : Int) % (256 : Int)), AV.sint IntKind.u8 ((E q).d1 / (72057594037927936 : Int) % (256 : Int)), AV.sint IntKind.u8 ((E q).d1 / (281474976710656 : Int) % (256 : Int)), AV.sint IntKind.u8 ((E q).d1 / (1099511627776 : Int) % (256 : Int)), AV.sint IntKind.u8 ((E q).d1 / (4294967296 : Int) % (256 : Int)), AV.sint IntKind.u8 ((E q).d1 / (16777216 : Int) % (256 : Int)), AV.sint IntKind.u8 ((E q).d1 / (65536 : Int) % (256 : Int)), AV.sint IntKind.u8 ((E q).d1 / (256 : Int) % (256 : Int)), AV.sint IntKind.u8 ((E q).d1 / (1 : Int) % (256 : Int)), AV.sint IntKind.u8 ((E q).d2 / (72057594037927936 : Int) % (256 : Int)), AV.sint IntKind.u8 ((E q).d2 / (281474976710656 : Int) % (256 : Int)), AV.sint IntKind.u8 ((E q).d2 / (1099511627776 : Int) % (256 : Int)), AV.sint IntKind.u8 ((E q).d2 / (4294967296 : Int) % (256 : Int)), AV.sint IntKind.u8 ((E q).d2 / (16777216 : Int) % (256 : Int)), AV.sint IntKind.u8 ((E q).d2 / (65536 : Int) % (256 : Int)), AV.sint IntKind.u8 ((E q).d2 / (256 : Int) % (256 : Int)), AV.sint IntKind.u8 ((E q).d2 / (1 : Int) % (256 : Int)), AV.sint IntKind.u8 ((E q).d3 / (72057594037927936 : Int) % (256 : Int)), AV.sint IntKind.u8 ((E q).d3 / (281474976710656 : Int) % (256 : Int)), AV.sint IntKind.u8 ((E q).d3 / (1099511627776 : Int) % (256 : Int)), AV.sint IntKind.u8 ((E q).d3 / (4294967296 : Int) % (256 : Int)), AV.sint IntKind.u8 ((E q).d3 / (16777216 : Int) % (256 : Int)), AV.sint IntKind.u8 ((E q).d3 / (65536 : Int) % (256 : Int)), AV.sint IntKind.u8 ((E q).d3 / (256 : Int) % (256 : Int)), AV.sint IntKind.u8 ((E q).d3 / (1 : Int) % (256 : Int)), AV.sint IntKind.u8 ((E q).d4 / (72057594037927936 : Int) % (256 : Int)), AV.sint IntKind.u8 ((E q).d4 / (281474976710656 : Int) % (256 : Int)), AV.sint IntKind.u8 ((E q).d4 / (1099511627776 : Int) % (256 : Int)), AV.sint IntKind.u8 ((E q).d4 / (4294967296 : Int) % (256 : Int)), AV.sint IntKind.u8 ((E q).d4 / (16777216 : Int) % (256 : Int)), AV.sint IntKind.u8 ((E q).d4 / (65536 : Int) % (256 : Int)), AV.sint IntKind.u8 ((E q).d4 / (256 : Int) % (256 : Int)), AV.sint IntKind.u8 ((E q).d4 / (1 : Int) % (256 : Int)), AV.sint IntKind.u8 ((E q).d5 / (72057594037927936 : Int) % (256 : Int)), AV.sint IntKind.u8 ((E q).d5 / (281474976710656 : Int) % (256 : Int)), AV.sint IntKind.u8 ((E q).d5 / (1099511627776 : Int) % (256 : Int)), AV.sint IntKind.u8 ((E q).d5 / (4294967296 : Int) % (256 : Int)), AV.sint IntKind.u8 ((E q).d5 / (16777216 : Int) % (256 : Int)), AV.sint IntKind.u8 ((E q).d5 / (65536 : Int) % (256 : Int)), AV.sint IntKind.u8 ((E q).d5 / (256 : Int) % (256 : Int)), AV.sint IntKind.u8 ((E q).d5 / (1 : Int) % (256 : Int)), AV.sint IntKind.u8 ((E q).k % (256 : Int)), AV.sint IntKind.u8 ((E q).n / (72057594037927936 : Int) % (256 : Int)), AV.sint IntKind.u8 ((E q).n / (281474976710656 : Int) % (256 : Int)), AV.sint IntKind.u8 ((E q).n / (1099511627776 : Int) % (256 : Int)), AV.sint IntKind.u8 ((E q).n / (4294967296 : Int) % (256 : Int)), AV.sint IntKind.u8 ((E q).n / (16777216 : Int) % (256 : Int)), AV.sint IntKind.u8 ((E q).n / (65536 : Int) % (256 : Int)), AV.sint IntKind.u8 ((E q).n / (256 : Int) % (256 : Int)), AV.sint IntKind.u8 ((E q).n % (256 : Int)), AV.sint IntKind.u8 ((E q).t % (256 : Int)), AV.sint IntKind.u8 ((E q).a / (72057594037927936 : Int) % (256 : Int)), AV.sint IntKind.u8 ((E q).a / (281474976710656 : Int) % (256 : Int)), AV.sint IntKind.u8 ((E q).a / (1099511627776 : Int) % (256 : Int)), AV.sint IntKind.u8 ((E q).a / (4294967296 : Int) % (256 : Int)), AV.sint IntKind.u8 ((E q).a / (16777216 : Int) % (256 : Int)), AV.sint IntKind.u8 ((E q).a / (65536 : Int) % (256 : Int)), AV.sint IntKind.u8 ((E q).a / (256 : Int) % (256 : Int)), AV.sint IntKind.u8 ((E q).a % (256 : Int)), AV.sint IntKind.u8 ((E q).r / (72057594037927936 : Int) % (256 : Int)), AV.sint IntKind.u8 ((E q).r / (281474976710656 : Int) % (256 : Int)), AV.sint IntKind.u8 ((E q).r / (1099511627776 : Int) % (256 : Int)), AV.sint IntKind.u8 ((E q).r / (4294967296 : Int) % (256 : Int)), AV.sint IntKind.u8 ((E q).r / (16777216 : Int) % (256 : Int)), AV.sint IntKind.u8 ((E q).r / (65536 : Int) % (256 : Int)), AV.sint IntKind.u8 ((E q).r / (256 : Int) % (256 : Int)), AV.sint IntKind.u8 ((E q).r % (256 : Int)), AV.sint IntKind.u8 ((E q).f / (72057594037927936 : Int) % (256 : Int)), AV.sint IntKind.u8 ((E q).f / (281474976710656 : Int) % (256 : Int)), AV.sint IntKind.u8 ((E q).f / (1099511627776 : Int) % (256 : Int)), AV.sint IntKind.u8 ((E q).f / (4294967296 : Int) % (256 : Int)), AV.sint IntKind.u8 ((E q).f / (16777216 : Int) % (256 : Int)), AV.sint IntKind.u8 ((E q).f / (65536 : Int) % (256 : Int)), AV.sint IntKind.u8 ((E q).f / (256 : Int) % (256 : Int)), AV.sint IntKind.u8 ((E q).f % (256 : Int))]))), (Option.some (Blk.cells (1 : Nat) Option.none [AV.sint IntKind.i64 (E (↑q : Int).toNat).o, AV.sint IntKind.u64 (E (↑q : Int).toNat).s, AV.sint IntKind.u64 (E (↑q : Int).toNat).d0, AV.sint IntKind.u64 (E (↑q : Int).toNat).d1, AV.sint IntKind.u64 (E (↑q : Int).toNat).d2, AV.sint IntKind.u64 (E (↑q : Int).toNat).d3, AV.sint IntKind.u64 (E (↑q : Int).toNat).d4, AV.sint IntKind.u64 (E (↑q : Int).toNat).d5, AV.sint IntKind.u8 (E (↑q : Int).toNat).k, AV.sint IntKind.u64 (E (↑q : Int).toNat).n, AV.sint IntKind.i64 (E (↑q : Int).toNat).t, AV.sint IntKind.i64 (E (↑q : Int).toNat).a, AV.sint IntKind.u64 (E (↑q : Int).toNat).r, AV.sint IntKind.u64 (E (↑q : Int).toNat).f]), Option.none), (Option.some Blk.dead, Option.none), (Option.some (Blk.cells (2 : Nat) (Option.some (1 : Nat)) [AV.sint IntKind.u8 ((E q).o % (256 : Int)), AV.sint IntKind.u8 ((E q).s / (72057594037927936 : Int) % (256 : Int)), AV.sint IntKind.u8 ((E q).s / (281474976710656 : Int) % (256 : Int)), AV.sint IntKind.u8 ((E q).s / (1099511627776 : Int) % (256 : Int)), AV.sint IntKind.u8 ((E q).s / (4294967296 : Int) % (256 : Int)), AV.sint IntKind.u8 ((E q).s / (16777216 : Int) % (256 : Int)), AV.sint IntKind.u8 ((E q).s / (65536 : Int) % (256 : Int)), AV.sint IntKind.u8 ((E q).s / (256 : Int) % (256 : Int)), AV.sint IntKind.u8 ((E q).s % (256 : Int)), AV.sint IntKind.u8 ((E q).d0 / (72057594037927936 : Int) % (256 : Int)), AV.sint IntKind.u8 ((E q).d0 / (281474976710656 : Int) % (256 : Int)), AV.sint IntKind.u8 ((E q).d0 / (1099511627776 : Int) % (256 : Int)), AV.sint IntKind.u8 ((E q).d0 / (4294967296 : Int) % (256 : Int)), AV.sint IntKind.u8 ((E q).d0 / (16777216 : Int) % (256 : Int)), AV.sint IntKind.u8 ((E q).d0 / (65536 : Int) % (256 : Int)), AV.sint IntKind.u8 ((E q).d0 / (256 : Int) % (256 : Int)), AV.sint IntKind.u8 ((E q).d0 / (1 : Int) % (256 : Int)), AV.sint IntKind.u8 ((E q).d1 / (72057594037927936 : Int) % (256 : Int)), AV.sint IntKind.u8 ((E q).d1 / (281474976710656 : Int) % (256 : Int)), AV.sint IntKind.u8 ((E q).d1 / (1099511627776 : Int) % (256 : Int)), AV.sint IntKind.u8 ((E q).d1 / (4294967296 : Int) % (256 : Int)), AV.sint IntKind.u8 ((E q).d1 / (16777216 : Int) % (256 : Int)), AV.sint IntKind.u8 ((E q).d1 / (65536 : Int) % (256 : Int)), AV.sint IntKind.u8 ((E q).d1 / (256 : Int) % (256 : Int)), AV.sint IntKind.u8 ((E q).d1 / (1 : Int) % (256 : Int)), AV.sint IntKind.u8 ((E q).d2 / (72057594037927936 : Int) % (256 : Int)), AV.sint IntKind.u8 ((E q).d2 / (281474976710656 : Int) % (256 : Int)), AV.sint IntKind.u8 ((E q).d2 / (1099511627776 : Int) % (256 : Int)), AV.sint IntKind.u8 ((E q).d2 / (4294967296 : Int) % (256 : Int)), AV.sint IntKind.u8 ((E q).d2 / (16777216 : Int) % (256 : Int)), AV.sint IntKind.u8 ((E q).d2 / (65536 : Int) % (256 : Int)), AV.sint IntKind.u8 ((E q).d2 / (256 : Int) % (256 : Int)), AV.sint IntKind.u8 ((E q).d2 / (1 : Int) % (256 : Int)), AV.sint IntKind.u8 ((E q).d3 / (72057594037927936 : Int) % (256 : Int)), AV.sint IntKind.u8 ((E q).d3 / (281474976710656 : Int) % (256 : Int)), AV.sint IntKind.u8 ((E q).d3 / (1099511627776 : Int) % (256 : Int)), AV.sint IntKind.u8 ((E q).d3 / (4294967296 : Int) % (256 : Int)), AV.sint IntKind.u8 ((E q).d3 / (16777216 : Int) % (256 : Int)), AV.sint IntKind.u8 ((E q).d3 / (65536 : Int) % (256 : Int)), AV.sint IntKind.u8 ((E q).d3 / (256 : Int) % (256 : Int)), AV.sint IntKind.u8 ((E q).d3 / (1 : Int) % (256 : Int)), AV.sint IntKind.u8 ((E q).d4 / (72057594037927936 : Int) % (256 : Int)), AV.sint IntKind.u8 ((E q).d4 / (281474976710656 : Int) % (256 : Int)), AV.sint IntKind.u8 ((E q).d4 / (1099511627776 : Int) % (256 : Int)), AV.sint IntKind.u8 ((E q).d4 / (4294967296 : Int) % (256 : Int)), AV.sint IntKind.u8 ((E q).d4 / (16777216 : Int) % (256 : Int)), AV.sint IntKind.u8 ((E q).d4 / (65536 : Int) % (256 : Int)), AV.sint IntKind.u8 ((E q).d4 / (256 : Int) % (256 : Int)), AV.sint IntKind.u8 ((E q).d4 / (1 : Int) % (256 : Int)), AV.sint IntKind.u8 ((E q).d5 / (72057594037927936 : Int) % (256 : Int)), AV.sint IntKind.u8 ((E q).d5 / (281474976710656 : Int) % (256 : Int)), AV.sint IntKind.u8 ((E q).d5 / (1099511627776 : Int) % (256 : Int)), AV.sint IntKind.u8 ((E q).d5 / (4294967296 : Int) % (256 : Int)), AV.sint IntKind.u8 ((E q).d5 / (16777216 : Int) % (256 : Int)), AV.sint IntKind.u8 ((E q).d5 / (65536 : Int) % (256 : Int)), AV.sint IntKind.u8 ((E q).d5 / (256 : Int) % (256 : Int)), AV.sint IntKind.u8 ((E q).d5 / (1 : Int) % (256 : Int)), AV.sint IntKind.u8 ((E q).k % (256 : Int)), AV.sint IntKind.u8 ((E q).n / (72057594037927936 : Int) % (256 : Int)), AV.sint IntKind.u8 ((E q).n / (281474976710656 : Int) % (256 : Int)), AV.sint IntKind.u8 ((E q).n / (1099511627776 : Int) % (256 : Int)), AV.sint IntKind.u8 ((E q).n / (4294967296 : Int) % (256 : Int)), AV.sint IntKind.u8 ((E q).n / (16777216 : Int) % (256 : Int)), AV.sint IntKind.u8 ((E q).n / (65536 : Int) % (256 : Int)), AV.sint IntKind.u8 ((E q).n / (256 : Int) % (256 : Int)), AV.sint IntKind.u8 ((E q).n % (256 : Int)), AV.sint IntKind.u8 ((E q).t % (256 : Int)), AV.sint IntKind.u8 ((E q).a / (72057594037927936 : Int) % (256 : Int)), AV.sint IntKind.u8 ((E q).a / (281474976710656 : Int) % (256 : Int)), AV.sint IntKind.u8 ((E q).a / (1099511627776 : Int) % (256 : Int)), AV.sint IntKind.u8 ((E q).a / (4294967296 : Int) % (256 : Int)), AV.sint IntKind.u8 ((E q).a / (16777216 : Int) % (256 : Int)), AV.sint IntKind.u8 ((E q).a / (65536 : Int) % (256 : Int)), AV.sint IntKind.u8 ((E q).a / (256 : Int) % (256 : Int)), AV.sint IntKind.u8 ((E q).a % (256 : Int)), AV.sint IntKind.u8 ((E q).r / (72057594037927936 : Int) % (256 : Int)), AV.sint IntKind.u8 ((E q).r / (281474976710656 : Int) % (256 : Int)), AV.sint IntKind.u8 ((E q).r / (1099511627776 : Int) % (256 : Int)), AV.sint IntKind.u8 ((E q).r / (4294967296 : Int) % (256 : Int)), AV.sint IntKind.u8 ((E q).r / (16777216 : Int) % (256 : Int)), AV.sint IntKind.u8 ((E q).r / (65536 : Int) % (256 : Int)), AV.sint IntKind.u8 ((E q).r / (256 : Int) % (256 : Int)), AV.sint IntKind.u8 ((E q).r % (256 : Int)), AV.sint IntKind.u8 ((E q).f / (72057594037927936 : Int) % (256 : Int)), AV.sint IntKind.u8 ((E q).f / (281474976710656 : Int) % (256 : Int)), AV.sint IntKind.u8 ((E q).f / (1099511627776 : Int) % (256 : Int)), AV.sint IntKind.u8 ((E q).f / (4294967296 : Int) % (256 : Int)), AV.sint IntKind.u8 ((E q).f / (16777216 : Int) % (256 : Int)), AV.sint IntKind.u8 ((E q).f / (65536 : Int) % (256 : Int)), AV.sint IntKind.u8 ((E q).f / (256 : Int) % (256 : Int)), AV.sint IntKind.u8 ((E q).f % (256 : Int))]), Option.none)]))))) (by kernel_rfl) ?_
   refine hold_leftD0 (Classical.byContradiction fun h3 => by exact h3 ⟨by omega, rows1 rfl rfl⟩) ?_
   refine hold_leftD0 (Classical.byContradiction fun h3 => by omega) ?_
   refine hold_leftD0 (Classical.byContradiction fun h3 => by omega) ?_
   refine hold_stop (fun hd hb => ?_)
   refine ok_again hd _ ⟨q + 1, by omega⟩ ?_ (fits_seq (look_hd hb) ?_ (Nat.le_refl _) (evY_glue E q ?_))
   · show n - (q + 1) < n - q
     omega
   · simp [wsS, evs, fitsA, fitA, nf] <;> omega
   · rfl
  refine hold_stop (fun hd hb => ?_)
  exact ok_leafG hd hb (y := .gsl 0 (91 * n)) (by simp [fitA, fitsA, nf]; omega) (by omega) (fun i hi => ⟨rfl, rfl⟩) ⟨rfl, rfl⟩
end Go.Proofs.Ytjihbjjekhncaaa
namespace Go.Proofs.Ytjihbjjekhncaaa
open Go Go.RowKit Sv
set_option linter.unusedVariables false
set_option maxRecDepth 100000
set_option maxHeartbeats 0
def MsI.rng (m : MsI) : Prop := (0 ≤ m.v0 ∧ m.v0 ≤ 18446744073709551615) ∧ (0 ≤ m.v1 ∧ m.v1 ≤ 18446744073709551615) ∧ (0 ≤ m.v2 ∧ m.v2 ≤ 18446744073709551615) ∧ (0 ≤ m.v3 ∧ m.v3 ≤ 18446744073709551615) ∧ (0 ≤ m.v4 ∧ m.v4 ≤ 18446744073709551615) ∧ (0 ≤ m.v5 ∧ m.v5 ≤ 18446744073709551615) ∧ (0 ≤ m.n ∧ m.n ≤ 18446744073709551615)
/-- the first 51 bytes. -/
def MsI.hd (m : MsI) : List Int := [m.k, m.f % 256, m.t % 256] ++ be8d m.v0 ++ be8d m.v1 ++ be8d m.v2 ++ be8d m.v3 ++ be8d m.v4 ++ be8d m.v5
def MsI.ask (m : MsI) : List Int := m.hd ++ be8 m.n ++ be8 m.a
theorem ms_kind {m : MsI} {q : Nat} {E : Nat → EvI} (h : m.may q E) : (m.k = 1 ∨ m.k = 2) ∧ (m.k = 2 → 1 ≤ m.a ∧ m.a ≤ 1125899906842624) ∧ (m.k = 1 → q ≤ 16) := by
  rcases h.2.2 with h | h <;> omega
theorem ms_evs {m : MsI} {q : Nat} {E : Nat → EvI} (h : m.may q E) (h1 : m.k = 1) : ∀ j, j < q → (E j).may := by
  rcases h.2.2 with h | h
  · exact h.2.2.2.2
  · omega
/-- a Sync's bytes. -/
def synY (m : MsI) (E : Nat → EvI) : Nat → List AV := glue 51 (fun j => ((m.hd.map cell8).drop (j * 1)).take 1) (evY E)
theorem rowsE (E : Nat → EvI) (n : Nat) : RowsOK 1 n (evY E) := fun i hi => ⟨rfl, rfl⟩
theorem hd_len (m : MsI) : m.hd.length = 51 := rfl
theorem syn_lt (m : MsI) (E : Nat → EvI) {i : Nat} (h : i < 51) : synY m E i = [cell8 (m.hd.getD i 0)] := by
  have hr : i < (m.hd.map cell8).length := by
    rw [List.length_map, hd_len]
    exact h
  unfold synY glue
  rw [if_pos h]
  show ((m.hd.map cell8).drop (i * 1)).take 1 = _
  rw [take_drop hr, List.getElem_map, List.getD_eq_getElem?_getD, List.getElem?_eq_getElem (by rw [hd_len]; exact h), Option.getD_some]
theorem syn_ge (m : MsI) (E : Nat → EvI) {i : Nat} (h : ¬ i < 51) : synY m E i = evY E (i - 51) := by
  unfold synY glue
  rw [if_neg h]
theorem nf_syn (m : MsI) (E : Nat → EvI) (i : Nat) : nfs (synY m E i) = true := by
  by_cases h : i < 51
  · rw [syn_lt m E h]
    rfl
  · rw [syn_ge m E h]
    rfl
theorem mput (m : MsI) (q : Nat) (E : Nat → EvI) (hq : q ≤ 1099511627776) (hr : m.rng) (hE : ∀ j, j < q → (E j).rng) : Runs Try.prog 32 [.agg (m.row (evs q E))] fun x G =>
    (x = .nilSlice ∧ G = [] ∧ ¬ m.may q E) ∨
    (m.k = 1 ∧ m.may q E ∧ x = .gsl 0 (51 + 91 * q) ∧ G = [.seq 1 (51 + 91 * q) (synY m E)]) ∨
    (m.k = 2 ∧ m.may q E ∧ x = .slice 0 0 67 67 false ∧ G = [.cells (some 1) (m.ask.map cell8)]) := by
  unfold MsI.rng at hr
  refine runs_treeF plain mixed (fun g => Nat.beq g 30 || Nat.beq g 95) (fun _ => true) 60 ?_
  refine ok_sk (.stop []) (S := .stop (Hd.call (30 : Nat) [AV.agg [AV.sint IntKind.u8 m.k, AV.sint IntKind.i64 m.f, AV.sint IntKind.i64 m.t, AV.sint IntKind.u64 m.v0, AV.sint IntKind.u64 m.v1, AV.sint IntKind.u64 m.v2, AV.sint IntKind.u64 m.v3, AV.sint IntKind.u64 m.v4, AV.sint IntKind.u64 m.v5, AV.data (14 : Nat) q fun (i : Nat) => (E i).row, AV.sint IntKind.u64 m.n, AV.sint IntKind.i64 m.a]]) [] ([])) (by kernel_rfl) ?_
  refine hold_stop (fun hd hb => ?_)
  refine ok_call0 hd (mmay m q E hq) rfl ?_
  rintro x G ⟨rfl, ⟨rfl, my⟩ | ⟨rfl, my⟩⟩ <;> refine ⟨rfl, fun g hg => (by cases hg), ?_⟩
  have my1 := my.1
  have my2 := my.2.1
  have my3 := ms_kind my
  ·
   refine ok_sk (.l (.l (.l (.l (.l (.l (.l (.l (.l (.l (.l (.l (.l (.both (.stop []) (.l (.r (.l (.r (.stop [65]))))))))))))))))))) (S := .left (decide (m.k = m.k)) (.left (decide (m.f = m.f)) (.left (decide (m.t = m.t)) (.left (decide (m.v0 = m.v0)) (.left (decide (m.v1 = m.v1)) (.left (decide (m.v2 = m.v2)) (.left (decide (m.v3 = m.v3)) (.left (decide (m.v4 = m.v4)) (.left (decide (m.v5 = m.v5)) (.left (@decide ((14 : Nat) = (14 : Nat) ∧ q = q ∧ (fun (i : Nat) => (E i).row) = fun (i : Nat) => (E i).row) (Classical.propDecidable _)) (.left (decide (m.n = m.n)) (.left (decide (m.a = m.a)) (.left (decide (m.k = m.k)) (.fork (decide (m.k = (1 : Int))) (.stop (Hd.call (95 : Nat) [AV.agg [AV.sint IntKind.u8 m.k, AV.sint IntKind.i64 m.f, AV.sint IntKind.i64 m.t, AV.sint IntKind.u64 m.v0, AV.sint IntKind.u64 m.v1, AV.sint IntKind.u64 m.v2, AV.sint IntKind.u64 m.v3, AV.sint IntKind.u64 m.v4, AV.sint IntKind.u64 m.v5, AV.data (14 : Nat) q fun (i : Nat) => (E i).row, AV.sint IntKind.u64 m.n, AV.sint IntKind.i64 m.a]]) [] ([])) (.left (decide (m.k = (2 : Int))) (.right (decide ((18446744073709551615 : Int) < m.n)) (.left (decide ((0 : Int) ≤ m.a ∧ m.a ≤ (18446744073709551615 : Int))) (.right (decide ((18446744073709551615 : Int) < m.a)) (.stop (Hd.leaf (AV.slice (65 : Nat) (0 : Nat) (67 : Nat) (67 : Nat) Bool.false)) [65] ([(Option.some (Blk.cells (52 : Nat) (Option.some (1 : Nat)) [AV.sint IntKind.u8 m.k, AV.sint IntKind.u8 (m.f % (256 : Int)), AV.sint IntKind.u8 (m.t % (256 : Int)), AV.sint IntKind.u8 (m.v0 / (72057594037927936 : Int) % (256 : Int)), AV.sint IntKind.u8 (m.v0 / (281474976710656 : Int) % (256 : Int)), AV.sint IntKind.u8 (m.v0 / (1099511627776 : Int) % (256 : Int)), AV.sint IntKind.u8 (m.v0 / (4294967296 : Int) % (256 : Int)), AV.sint IntKind.u8 (m.v0 / (16777216 : Int) % (256 : Int)), AV.sint IntKind.u8 (m.v0 / (65536 : Int) % (256 : Int)), AV.sint IntKind.u8 (m.v0 / (256 : Int) % (256 : Int)), AV.sint IntKind.u8 (m.v0 / (1 : Int) % (256 : Int)), AV.sint IntKind.u8 (m.v1 / (72057594037927936 : Int) % (256 : Int)), AV.sint IntKind.u8 (m.v1 / (281474976710656 : Int) % (256 : Int)), AV.sint IntKind.u8 (m.v1 / (1099511627776 : Int) % (256 : Int)), AV.sint IntKind.u8 (m.v1 / (4294967296 : Int) % (256 : Int)), AV.sint IntKind.u8 (m.v1 / (16777216 : Int) % (256 : Int)), AV.sint IntKind.u8 (m.v1 / (65536 : Int) % (256 : Int)), AV.sint IntKind.u8 (m.v1 / (256 : Int) % (256 : Int)), AV.sint IntKind.u8 (m.v1 / (1 : Int) % (256 : Int)), AV.sint IntKind.u8 (m.v2 / (72057594037927936 : Int) % (256 : Int)), AV.sint IntKind.u8 (m.v2 / (281474976710656 : Int) % (256 : Int)), AV.sint IntKind.u8 (m.v2 / (1099511627776 : Int) % (256 : Int)), AV.sint IntKind.u8 (m.v2 / (4294967296 : Int) % (256 : Int)), AV.sint IntKind.u8 (m.v2 / (16777216 : Int) % (256 : Int)), AV.sint IntKind.u8 (m.v2 / (65536 : Int) % (256 : Int)), AV.sint IntKind.u8 (m.v2 / (256 : Int) % (256 : Int)), AV.sint IntKind.u8 (m.v2 / (1 : Int) % (256 : Int)), AV.sint IntKind.u8 (m.v3 / (72057594037927936 : Int) % (256 : Int)), AV.sint IntKind.u8 (m.v3 / (281474976710656 : Int) % (256 : Int)), AV.sint IntKind.u8 (m.v3 / (1099511627776 : Int) % (256 : Int)), AV.sint IntKind.u8 (m.v3 / (4294967296 : Int) % (256 : Int)), AV.sint IntKind.u8 (m.v3 / (16777216 : Int) % (256 : Int)), AV.sint IntKind.u8 (m.v3 / (65536 : Int) % (256 : Int)), AV.sint IntKind.u8 (m.v3 / (256 : Int) % (256 : Int)), AV.sint IntKind.u8 (m.v3 / (1 : Int) % (256 : Int)), AV.sint IntKind.u8 (m.v4 / (72057594037927936 : Int) % (256 : Int)), AV.sint IntKind.u8 (m.v4 / (281474976710656 : Int) % (256 : Int)), AV.sint IntKind.u8 (m.v4 / (1099511627776 : Int) % (256 : Int)), AV.sint IntKind.u8 (m.v4 / (4294967296 : Int) % (256 : Int)), AV.sint IntKind.u8 (m.v4 / (16777216 : Int) % (256 : Int)), AV.sint IntKind.u8 (m.v4 / (65536 : Int) % (256 : Int)), AV.sint IntKind.u8 (m.v4 / (256 : Int) % (256 : Int)), AV.sint IntKind.u8 (m.v4 / (1 : Int) % (256 : Int)), AV.sint IntKind.u8 (m.v5 / (72057594037927936 : Int) % (256 : Int)), AV.sint IntKind.u8 (m.v5 / (281474976710656 : Int) % (256 : Int)), AV.sint IntKind.u8 (m.v5 / (1099511627776 : Int) % (256 : Int)), AV.sint IntKind.u8 (m.v5 / (4294967296 : Int) % (256 : Int)), AV.sint IntKind.u8 (m.v5 / (16777216 : Int) % (256 : Int)), AV.sint IntKind.u8 (m.v5 / (65536 : Int) % (256 : Int)), AV.sint IntKind.u8 (m.v5 / (256 : Int) % (256 : Int)), AV.sint IntKind.u8 (m.v5 / (1 : Int) % (256 : Int)), AV.sint IntKind.u8 (m.n / (72057594037927936 : Int) % (256 : Int)), AV.sint IntKind.u8 (m.n / (281474976710656 : Int) % (256 : Int)), AV.sint IntKind.u8 (m.n / (1099511627776 : Int) % (256 : Int)), AV.sint IntKind.u8 (m.n / (4294967296 : Int) % (256 : Int)), AV.sint IntKind.u8 (m.n / (16777216 : Int) % (256 : Int)), AV.sint IntKind.u8 (m.n / (65536 : Int) % (256 : Int)), AV.sint IntKind.u8 (m.n / (256 : Int) % (256 : Int)), AV.sint IntKind.u8 (m.n % (256 : Int)), AV.sint IntKind.u8 (m.a / (72057594037927936 : Int) % (256 : Int)), AV.sint IntKind.u8 (m.a / (281474976710656 : Int) % (256 : Int)), AV.sint IntKind.u8 (m.a / (1099511627776 : Int) % (256 : Int)), AV.sint IntKind.u8 (m.a / (4294967296 : Int) % (256 : Int)), AV.sint IntKind.u8 (m.a / (16777216 : Int) % (256 : Int)), AV.sint IntKind.u8 (m.a / (65536 : Int) % (256 : Int)), AV.sint IntKind.u8 (m.a / (256 : Int) % (256 : Int)), AV.sint IntKind.u8 (m.a % (256 : Int))]), Option.none)])))))))))))))))))))) (by kernel_rfl) ?_
   refine hold_leftD0 (Classical.byContradiction fun h1 => by omega) ?_
   refine hold_leftD0 (Classical.byContradiction fun h1 => by omega) ?_
   refine hold_leftD0 (Classical.byContradiction fun h1 => by omega) ?_
   refine hold_leftD0 (Classical.byContradiction fun h1 => by omega) ?_
   refine hold_leftD0 (Classical.byContradiction fun h1 => by omega) ?_
   refine hold_leftD0 (Classical.byContradiction fun h1 => by omega) ?_
   refine hold_leftD0 (Classical.byContradiction fun h1 => by omega) ?_
   refine hold_leftD0 (Classical.byContradiction fun h1 => by omega) ?_
   refine hold_leftD0 (Classical.byContradiction fun h1 => by omega) ?_
   refine hold_leftD0 (Classical.byContradiction fun h1 => by exact h1 ⟨rfl, rfl, rfl⟩) ?_
   refine hold_leftD0 (Classical.byContradiction fun h1 => by omega) ?_
   refine hold_leftD0 (Classical.byContradiction fun h1 => by omega) ?_
   refine hold_leftD0 (Classical.byContradiction fun h1 => by omega) ?_
   refine hold_forkD (fun h1 => ?_) (fun h1 => ?_)
   ·
    refine hold_stop (fun hd hb => ?_)
    refine ok_call0 hd (wsync m q E (by omega) fun j hj => ⟨hE j hj, ms_evs my (by omega) j hj⟩) rfl ?_
    rintro x G ⟨rfl, rfl⟩
    refine ⟨rfl, fun g hg => (by rcases List.mem_singleton.1 hg with rfl; exact fun _ _ => rfl), ?_⟩
    refine ok_sk (.l (.l (.stop [55]))) (S := .left (decide ((91 : Nat) * q ≤ (91 : Nat) * q)) (.left (@decide ((91 : Nat) * q < (65536 : Nat) ∧ RowsOK (1 : Nat) ((91 : Nat) * q) (evY E)) (Classical.propDecidable _)) (.stop (Hd.leaf (AV.gsl (55 : Nat) ((51 : Nat) + (91 : Nat) * q))) [55] ([(Option.some (Blk.seq (55 : Nat) (1 : Nat) ((51 : Nat) + (91 : Nat) * q) (glue (51 : Nat) (fun (j : Nat) => List.take (1 : Nat) (List.drop (j * (1 : Nat)) ([AV.sint IntKind.u8 m.k, AV.sint IntKind.u8 (m.f % (256 : Int)), AV.sint IntKind.u8 (m.t % (256 : Int))] ++ [AV.sint IntKind.u8 (m.v0 / (72057594037927936 : Int) % (256 : Int)), AV.sint IntKind.u8 (m.v0 / (281474976710656 : Int) % (256 : Int)), AV.sint IntKind.u8 (m.v0 / (1099511627776 : Int) % (256 : Int)), AV.sint IntKind.u8 (m.v0 / (4294967296 : Int) % (256 : Int)), AV.sint IntKind.u8 (m.v0 / (16777216 : Int) % (256 : Int)), AV.sint IntKind.u8 (m.v0 / (65536 : Int) % (256 : Int)), AV.sint IntKind.u8 (m.v0 / (256 : Int) % (256 : Int)), AV.sint IntKind.u8 (m.v0 / (1 : Int) % (256 : Int)), AV.sint IntKind.u8 (m.v1 / (72057594037927936 : Int) % (256 : Int)), AV.sint IntKind.u8 (m.v1 / (281474976710656 : Int) % (256 : Int)), AV.sint IntKind.u8 (m.v1 / (1099511627776 : Int) % (256 : Int)), AV.sint IntKind.u8 (m.v1 / (4294967296 : Int) % (256 : Int)), AV.sint IntKind.u8 (m.v1 / (16777216 : Int) % (256 : Int)), AV.sint IntKind.u8 (m.v1 / (65536 : Int) % (256 : Int)), AV.sint IntKind.u8 (m.v1 / (256 : Int) % (256 : Int)), AV.sint IntKind.u8 (m.v1 / (1 : Int) % (256 : Int)), AV.sint IntKind.u8 (m.v2 / (72057594037927936 : Int) % (256 : Int)), AV.sint IntKind.u8 (m.v2 / (281474976710656 : Int) % (256 : Int)), AV.sint IntKind.u8 (m.v2 / (1099511627776 : Int) % (256 : Int)), AV.sint IntKind.u8 (m.v2 / (4294967296 : Int) % (256 : Int)), AV.sint IntKind.u8 (m.v2 / (16777216 : Int) % (256 : Int)), AV.sint IntKind.u8 (m.v2 / (65536 : Int) % (256 : Int)), AV.sint IntKind.u8 (m.v2 / (256 : Int) % (256 : Int)), AV.sint IntKind.u8 (m.v2 / (1 : Int) % (256 : Int)), AV.sint IntKind.u8 (m.v3 / (72057594037927936 : Int) % (256 : Int)), AV.sint IntKind.u8 (m.v3 / (281474976710656 : Int) % (256 : Int)), AV.sint IntKind.u8 (m.v3 / (1099511627776 : Int) % (256 : Int)), AV.sint IntKind.u8 (m.v3 / (4294967296 : Int) % (256 : Int)), AV.sint IntKind.u8 (m.v3 / (16777216 : Int) % (256 : Int)), AV.sint IntKind.u8 (m.v3 / (65536 : Int) % (256 : Int)), AV.sint IntKind.u8 (m.v3 / (256 : Int) % (256 : Int)), AV.sint IntKind.u8 (m.v3 / (1 : Int) % (256 : Int)), AV.sint IntKind.u8 (m.v4 / (72057594037927936 : Int) % (256 : Int)), AV.sint IntKind.u8 (m.v4 / (281474976710656 : Int) % (256 : Int)), AV.sint IntKind.u8 (m.v4 / (1099511627776 : Int) % (256 : Int)), AV.sint IntKind.u8 (m.v4 / (4294967296 : Int) % (256 : Int)), AV.sint IntKind.u8 (m.v4 / (16777216 : Int) % (256 : Int)), AV.sint IntKind.u8 (m.v4 / (65536 : Int) % (256 : Int)), AV.sint IntKind.u8 (m.v4 / (256 : Int) % (256 : Int)), AV.sint IntKind.u8 (m.v4 / (1 : Int) % (256 : Int)), AV.sint IntKind.u8 (m.v5 / (72057594037927936 : Int) % (256 : Int)), AV.sint IntKind.u8 (m.v5 / (281474976710656 : Int) % (256 : Int)), AV.sint IntKind.u8 (m.v5 / (1099511627776 : Int) % (256 : Int)), AV.sint IntKind.u8 (m.v5 / (4294967296 : Int) % (256 : Int)), AV.sint IntKind.u8 (m.v5 / (16777216 : Int) % (256 : Int)), AV.sint IntKind.u8 (m.v5 / (65536 : Int) % (256 : Int)), AV.sint IntKind.u8 (m.v5 / (256 : Int) % (256 : Int)), AV.sint IntKind.u8 (m.v5 / (1 : Int) % (256 : Int))]))) (evY E))), Option.some ((1 : Nat), (51 : Nat) + (91 : Nat) * q, glue (51 : Nat) (fun (j : Nat) => List.take (1 : Nat) (List.drop (j * (1 : Nat)) ([AV.sint IntKind.u8 m.k, AV.sint IntKind.u8 (m.f % (256 : Int)), AV.sint IntKind.u8 (m.t % (256 : Int))] ++ [AV.sint IntKind.u8 (m.v0 / (72057594037927936 : Int) % (256 : Int)), AV.sint IntKind.u8 (m.v0 / (281474976710656 : Int) % (256 : Int)), AV.sint IntKind.u8 (m.v0 / (1099511627776 : Int) % (256 : Int)), AV.sint IntKind.u8 (m.v0 / (4294967296 : Int) % (256 : Int)), AV.sint IntKind.u8 (m.v0 / (16777216 : Int) % (256 : Int)), AV.sint IntKind.u8 (m.v0 / (65536 : Int) % (256 : Int)), AV.sint IntKind.u8 (m.v0 / (256 : Int) % (256 : Int)), AV.sint IntKind.u8 (m.v0 / (1 : Int) % (256 : Int)), AV.sint IntKind.u8 (m.v1 / (72057594037927936 : Int) % (256 : Int)), AV.sint IntKind.u8 (m.v1 / (281474976710656 : Int) % (256 : Int)), AV.sint IntKind.u8 (m.v1 / (1099511627776 : Int) % (256 : Int)), AV.sint IntKind.u8 (m.v1 / (4294967296 : Int) % (256 : Int)), AV.sint IntKind.u8 (m.v1 / (16777216 : Int) % (256 : Int)), AV.sint IntKind.u8 (m.v1 / (65536 : Int) % (256 : Int)), AV.sint IntKind.u8 (m.v1 / (256 : Int) % (256 : Int)), AV.sint IntKind.u8 (m.v1 / (1 : Int) % (256 : Int)), AV.sint IntKind.u8 (m.v2 / (72057594037927936 : Int) % (256 : Int)), AV.sint IntKind.u8 (m.v2 / (281474976710656 : Int) % (256 : Int)), AV.sint IntKind.u8 (m.v2 / (1099511627776 : Int) % (256 : Int)), AV.sint IntKind.u8 (m.v2 / (4294967296 : Int) % (256 : Int)), AV.sint IntKind.u8 (m.v2 / (16777216 : Int) % (256 : Int)), AV.sint IntKind.u8 (m.v2 / (65536 : Int) % (256 : Int)), AV.sint IntKind.u8 (m.v2 / (256 : Int) % (256 : Int)), AV.sint IntKind.u8 (m.v2 / (1 : Int) % (256 : Int)), AV.sint IntKind.u8 (m.v3 / (72057594037927936 : Int) % (256 : Int)), AV.sint IntKind.u8 (m.v3 / (281474976710656 : Int) % (256 : Int)), AV.sint IntKind.u8 (m.v3 / (1099511627776 : Int) % (256 : Int)), AV.sint IntKind.u8 (m.v3 / (4294967296 : Int) % (256 : Int)), AV.sint IntKind.u8 (m.v3 / (16777216 : Int) % (256 : Int)), AV.sint IntKind.u8 (m.v3 / (65536 : Int) % (256 : Int)), AV.sint IntKind.u8 (m.v3 / (256 : Int) % (256 : Int)), AV.sint IntKind.u8 (m.v3 / (1 : Int) % (256 : Int)), AV.sint IntKind.u8 (m.v4 / (72057594037927936 : Int) % (256 : Int)), AV.sint IntKind.u8 (m.v4 / (281474976710656 : Int) % (256 : Int)), AV.sint IntKind.u8 (m.v4 / (1099511627776 : Int) % (256 : Int)), AV.sint IntKind.u8 (m.v4 / (4294967296 : Int) % (256 : Int)), AV.sint IntKind.u8 (m.v4 / (16777216 : Int) % (256 : Int)), AV.sint IntKind.u8 (m.v4 / (65536 : Int) % (256 : Int)), AV.sint IntKind.u8 (m.v4 / (256 : Int) % (256 : Int)), AV.sint IntKind.u8 (m.v4 / (1 : Int) % (256 : Int)), AV.sint IntKind.u8 (m.v5 / (72057594037927936 : Int) % (256 : Int)), AV.sint IntKind.u8 (m.v5 / (281474976710656 : Int) % (256 : Int)), AV.sint IntKind.u8 (m.v5 / (1099511627776 : Int) % (256 : Int)), AV.sint IntKind.u8 (m.v5 / (4294967296 : Int) % (256 : Int)), AV.sint IntKind.u8 (m.v5 / (16777216 : Int) % (256 : Int)), AV.sint IntKind.u8 (m.v5 / (65536 : Int) % (256 : Int)), AV.sint IntKind.u8 (m.v5 / (256 : Int) % (256 : Int)), AV.sint IntKind.u8 (m.v5 / (1 : Int) % (256 : Int))]))) (evY E)))])))) (by kernel_rfl) ?_
    refine hold_leftD0 (Classical.byContradiction fun h3 => by omega) ?_
    refine hold_leftD0 (Classical.byContradiction fun h3 => by exact h3 ⟨by omega, rowsE _ _⟩) ?_
    refine hold_stop (fun hd hb => ?_)
    exact ok_leafG hd hb (y := .gsl 0 (51 + 91 * q)) (by simp [fitA]) (by omega) (fun i hi => ⟨rfl, nf_syn m E i⟩) (.inr (.inl ⟨by omega, my, rfl, rfl⟩))
   refine hold_leftD0 (Classical.byContradiction fun h2 => by omega) ?_
   refine hold_rightD0 (fun h2 => by omega) ?_
   refine hold_leftD0 (Classical.byContradiction fun h2 => by omega) ?_
   refine hold_rightD0 (fun h2 => by omega) ?_
   refine hold_stop (fun hd hb => ?_)
   exact ok_leafC hd hb (y := .slice 0 0 67 67 false) (by simp [fitA]) rfl (.inr (.inr ⟨by omega, my, rfl, rfl⟩))
  refine ok_sk (.stop []) (S := .stop (Hd.leaf AV.nilSlice) [] ([])) (by kernel_rfl) ?_
  refine hold_stop (fun hd hb => ?_)
  exact ok_leaf0 hd rfl (.inl ⟨rfl, rfl, my⟩)
end Go.Proofs.Ytjihbjjekhncaaa
namespace Go.Proofs.Ytjihbjjekhncaaa
open Go Go.RowKit Sv
set_option linter.unusedVariables false
set_option maxRecDepth 100000
set_option maxHeartbeats 0
def msS (y : Nat → Nat) : MsI where
  k := ((y 0 % 256 : Nat) : Int)
  f := ((y 1 % 256 : Nat) : Int)
  t := ((y 2 % 256 : Nat) : Int)
  v0 := n8 fun i => y (3 + (0 + i))
  v1 := n8 fun i => y (3 + (8 + i))
  v2 := n8 fun i => y (3 + (16 + i))
  v3 := n8 fun i => y (3 + (24 + i))
  v4 := n8 fun i => y (3 + (32 + i))
  v5 := n8 fun i => y (3 + (40 + i))
  n := 0
  a := 0
def msK (y : Nat → Nat) : MsI := { msS y with n := n8 fun i => y (51 + i), a := n8 fun i => y (59 + i) }
def msW (y : Nat → Nat) : MsI := { msK y with a := IntKind.i64.wrap (n8 fun i => y (59 + i)) }
theorem wr64 (z : Int) : IntKind.i64.wrap z = (z + 9223372036854775808) % 18446744073709551616 - 9223372036854775808 := by
  simp [IntKind.wrap, IntKind.bits, IntKind.signed]
  omega
/-- the events behind. -/
def msE (y : Nat → Nat) (j : Nat) : EvI := evAt (91 * j) fun i => y (51 + i)
def zms : List AV := [.int .u8 0, .int .i64 0, .int .i64 0, .int .u64 0, .int .u64 0, .int .u64 0, .int .u64 0, .int .u64 0, .int .u64 0, .nilSlice, .int .u64 0, .int .i64 0]
/-- what n bytes are. -/
def isSyn (n : Nat) (y : Nat → Nat) (q : Nat) : Prop := n = 51 + 91 * q ∧ (msS y).k = 1 ∧ (msS y).may q (msE y)
def isAsk (n : Nat) (y : Nat → Nat) : Prop := n = 67 ∧ (msS y).k = 2 ∧ (msK y).may 0 (msE y)
theorem look_seq {H : AH} {j : Nat} {l : List Nat} {b : Option Blk} {s : Option (Nat × Nat × (Nat → List AV))} {r : List (Option Blk × Option (Nat × Nat × (Nat → List AV)))} (h : Sv.look H (j :: l) = (b, s) :: r) : seqAt H j = s := by
  have e : Sv.look H (j :: l) = (H.tr.get j, seqAt H j) :: Sv.look H l := rfl
  rw [e] at h
  exact (Prod.mk.inj (List.cons.inj h).1).2
theorem vrow {H : AH} {m : MsI} {l d n' a' : AV} (h : view H l d) (hn : view H n' (.sint .u64 m.n)) (ha : view H a' (.sint .i64 m.a)) : views H [.agg [.sint .u8 m.k, .sint .i64 m.f, .sint .i64 m.t, .sint .u64 m.v0, .sint .u64 m.v1, .sint .u64 m.v2, .sint .u64 m.v3, .sint .u64 m.v4, .sint .u64 m.v5, l, n', a']] [.agg (m.row d)] :=
  ⟨⟨⟨rfl, rfl⟩, ⟨rfl, rfl⟩, ⟨rfl, rfl⟩, ⟨rfl, rfl⟩, ⟨rfl, rfl⟩, ⟨rfl, rfl⟩, ⟨rfl, rfl⟩, ⟨rfl, rfl⟩, ⟨rfl, rfl⟩, h, hn, ha, trivial⟩, trivial⟩
theorem frow {ns : List (Option Nat)} {m : MsI} {l d n' a' : AV} (h : fitA ns d l) (hn : fitA ns (.sint .u64 m.n) n') (ha : fitA ns (.sint .i64 m.a) a') : fitA ns (.tuple [.agg (m.row d), .int .i64 0]) (.tuple [.agg [.sint .u8 m.k, .sint .i64 m.f, .sint .i64 m.t, .sint .u64 m.v0, .sint .u64 m.v1, .sint .u64 m.v2, .sint .u64 m.v3, .sint .u64 m.v4, .sint .u64 m.v5, l, n', a'], .int .i64 0]) :=
  ⟨⟨⟨rfl, rfl⟩, ⟨rfl, rfl⟩, ⟨rfl, rfl⟩, ⟨rfl, rfl⟩, ⟨rfl, rfl⟩, ⟨rfl, rfl⟩, ⟨rfl, rfl⟩, ⟨rfl, rfl⟩, ⟨rfl, rfl⟩, h, hn, ha, trivial⟩, ⟨rfl, rfl⟩, trivial⟩
theorem may_vec {y : Nat → Nat} {q : Nat} {E : Nat → EvI} (h : (msS y).may q E ∨ (msK y).may q E) : vecMay fun i => y (3 + i) := by
  rcases h with h | h <;> exact h.2.1
theorem msW_no {y : Nat → Nat} {E : Nat → EvI} (hk : ((y 0 % 256 : Nat) : Int) = 2) (h : ¬ (-9223372036854775808 ≤ n8 (fun i => y (59 + i)) ∧ n8 (fun i => y (59 + i)) ≤ 9223372036854775807)) : ¬ (msW y).may 0 E ∧ ¬ (msK y).may 0 E := by
  have b := n8_bd (fun i => y (59 + i))
  have e : (msW y).a = IntKind.i64.wrap (n8 (fun i => y (59 + i))) := rfl
  have e' : (msK y).a = n8 (fun i => y (59 + i)) := rfl
  rw [wr64] at e
  refine ⟨fun hm => ?_, fun hm => ?_⟩
  · have h2 := (ms_kind hm).2.1 hk
    omega
  · have h2 := (ms_kind hm).2.1 hk
    omega
theorem mget (n : Nat) (y : Nat → Nat) (hn : n ≤ 5000) : Runs Try.prog 28 [.data 1 n (by8 y)] fun x G =>
    (∃ q, isSyn n y q ∧ x = .tuple [.agg ((msS y).row (.gsl 0 q)), .int .i64 0] ∧ G = [.seq 14 q fun j => (msE y j).row]) ∨
    (isSyn n y 0 ∧ x = .tuple [.agg ((msS y).row .nilSlice), .int .i64 0] ∧ G = []) ∨
    (isAsk n y ∧ x = .tuple [.agg ((msK y).row .nilSlice), .int .i64 0] ∧ G = []) ∨
    (x = .tuple [.agg zms, .int .i64 5] ∧ G = [] ∧ ¬ (∃ q, isSyn n y q) ∧ ¬ isAsk n y) := by
  refine runs_treeF plain mixed (fun g => Nat.beq g 30 || Nat.beq g 55 || Nat.beq g 18) (fun _ => true) 60 ?_
  refine ok_sk (.both (.stop []) (.l (.stop []))) (S := .fork (decide ((↑n : Int) < (51 : Int))) (.stop (Hd.leaf (AV.tuple [AV.agg [AV.int IntKind.u8 (0 : Int), AV.int IntKind.i64 (0 : Int), AV.int IntKind.i64 (0 : Int), AV.int IntKind.u64 (0 : Int), AV.int IntKind.u64 (0 : Int), AV.int IntKind.u64 (0 : Int), AV.int IntKind.u64 (0 : Int), AV.int IntKind.u64 (0 : Int), AV.int IntKind.u64 (0 : Int), AV.nilSlice, AV.int IntKind.u64 (0 : Int), AV.int IntKind.i64 (0 : Int)], AV.int IntKind.i64 (5 : Int)])) [] ([])) (.left (decide ((0 : Int) ≤ (3 : Int) ∧ (3 : Int) ≤ (51 : Int) ∧ (51 : Int) ≤ (↑n : Int))) (.stop (Hd.call (55 : Nat) [AV.data (1 : Nat) (48 : Nat) fun (i : Nat) => by8 y ((3 : Nat) + i)]) [] ([])))) (by kernel_rfl) ?_
  refine hold_forkD (fun h0 => ?_) (fun h0 => ?_)
  ·
   refine hold_stop (fun hd hb => ?_)
   exact ok_leaf0 hd rfl (.inr (.inr (.inr ⟨rfl, rfl, fun ⟨q', h⟩ => (by have e1 := h.1; have e2 : ((y 0 % 256 : Nat) : Int) = 1 := h.2.1; omega), fun h => (by have e1 := h.1; have e2 : ((y 0 % 256 : Nat) : Int) = 2 := h.2.1; omega)⟩)))
  refine hold_leftD0 (Classical.byContradiction fun h1 => by omega) ?_
  refine hold_stop (fun hd hb => ?_)
  refine ok_call0 hd (vof _) rfl ?_
  rintro x G ⟨rfl, ⟨rfl, vv⟩ | ⟨rfl, vv⟩⟩ <;> refine ⟨rfl, fun g hg => (by cases hg), ?_⟩
  ·
   refine ok_sk (.l (.l (.l (.l (.l (.l (.l (.l (.l (.l (.l (.l (.l (.l (.l (.l (.l (.l (.l (.l (.l (.l (.l (.l (.l (.l (.l (.l (.l (.l (.l (.l (.l (.l (.l (.l (.both (.l (.stop [])) (.both (.l (.both (.r (.l (.r (.l (.l (.l (.l (.l (.l (.l (.l (.l (.l (.l (.l (.l (.l (.l (.l (.l (.l (.l (.l (.l (.l (.l (.l (.l (.l (.l (.l (.l (.l (.l (.l (.l (.l (.l (.l (.l (.l (.l (.l (.r (.r (.l (.r (.l (.l (.l (.l (.l (.l (.l (.l (.l (.l (.l (.l (.l (.l (.l (.l (.l (.l (.l (.l (.l (.l (.l (.l (.l (.l (.l (.l (.l (.l (.l (.l (.l (.l (.l (.l (.l (.l (.l (.l (.r (.both (.stop []) (.stop [])))))))))))))))))))))))))))))))))))))))))))))))))))))))))))))))))))))))))))))))))))))))))) (.stop []))) (.stop []))))))))))))))))))))))))))))))))))))))) (S := .left (decide ((0 : Int) ≤ (0 : Int) ∧ (0 : Nat) < n)) (.left (decide ((0 : Int) ≤ (1 : Int) ∧ (1 : Nat) < n)) (.left (decide ((-9223372036854775808 : Int) ≤ (↑(y (1 : Nat) % (256 : Nat)) : Int) ∧ (↑(y (1 : Nat) % (256 : Nat)) : Int) ≤ (9223372036854775807 : Int))) (.left (decide ((0 : Int) ≤ (2 : Int) ∧ (2 : Nat) < n)) (.left (decide ((-9223372036854775808 : Int) ≤ (↑(y (2 : Nat) % (256 : Nat)) : Int) ∧ (↑(y (2 : Nat) % (256 : Nat)) : Int) ≤ (9223372036854775807 : Int))) (.left (decide ((↑(y (0 : Nat) % (256 : Nat)) : Int) = (↑(y (0 : Nat) % (256 : Nat)) : Int))) (.left (decide ((↑(y (1 : Nat) % (256 : Nat)) : Int) = (↑(y (1 : Nat) % (256 : Nat)) : Int))) (.left (decide ((↑(y (2 : Nat) % (256 : Nat)) : Int) = (↑(y (2 : Nat) % (256 : Nat)) : Int))) (.left (decide ((n8 fun (i : Nat) => y ((3 : Nat) + ((0 : Nat) + i))) = n8 fun (i : Nat) => y ((3 : Nat) + ((0 : Nat) + i)))) (.left (decide ((n8 fun (i : Nat) => y ((3 : Nat) + ((8 : Nat) + i))) = n8 fun (i : Nat) => y ((3 : Nat) + ((8 : Nat) + i)))) (.left (decide ((n8 fun (i : Nat) => y ((3 : Nat) + ((16 : Nat) + i))) = n8 fun (i : Nat) => y ((3 : Nat) + ((16 : Nat) + i)))) (.left (decide ((n8 fun (i : Nat) => y ((3 : Nat) + ((24 : Nat) + i))) = n8 fun (i : Nat) => y ((3 : Nat) + ((24 : Nat) + i)))) (.left (decide ((n8 fun (i : Nat) => y ((3 : Nat) + ((32 : Nat) + i))) = n8 fun (i : Nat) => y ((3 : Nat) + ((32 : Nat) + i)))) (.left (decide ((n8 fun (i : Nat) => y ((3 : Nat) + ((40 : Nat) + i))) = n8 fun (i : Nat) => y ((3 : Nat) + ((40 : Nat) + i)))) (.left (decide ((n8 fun (i : Nat) => y ((3 : Nat) + ((0 : Nat) + i))) = n8 fun (i : Nat) => y ((3 : Nat) + ((0 : Nat) + i)))) (.left (decide ((n8 fun (i : Nat) => y ((3 : Nat) + ((8 : Nat) + i))) = n8 fun (i : Nat) => y ((3 : Nat) + ((8 : Nat) + i)))) (.left (decide ((n8 fun (i : Nat) => y ((3 : Nat) + ((16 : Nat) + i))) = n8 fun (i : Nat) => y ((3 : Nat) + ((16 : Nat) + i)))) (.left (decide ((n8 fun (i : Nat) => y ((3 : Nat) + ((24 : Nat) + i))) = n8 fun (i : Nat) => y ((3 : Nat) + ((24 : Nat) + i)))) (.left (decide ((n8 fun (i : Nat) => y ((3 : Nat) + ((32 : Nat) + i))) = n8 fun (i : Nat) => y ((3 : Nat) + ((32 : Nat) + i)))) (.left (decide ((n8 fun (i : Nat) => y ((3 : Nat) + ((40 : Nat) + i))) = n8 fun (i : Nat) => y ((3 : Nat) + ((40 : Nat) + i)))) (.left (decide ((-9223372036854775808 : Int) ≤ (↑(y (2 : Nat) % (256 : Nat)) : Int) ∧ (↑(y (2 : Nat) % (256 : Nat)) : Int) ≤ (9223372036854775807 : Int))) (.left (decide ((↑(y (2 : Nat) % (256 : Nat)) : Int) = (↑(y (2 : Nat) % (256 : Nat)) : Int))) (.left (decide ((↑(y (2 : Nat) % (256 : Nat)) : Int) = (↑(y (2 : Nat) % (256 : Nat)) : Int))) (.left (decide ((0 : Int) ≤ (2 : Int) ∧ (2 : Nat) < n)) (.left (decide ((↑(y (2 : Nat) % (256 : Nat)) : Int) = (↑(y (2 : Nat) % (256 : Nat)) : Int))) (.left (@decide ((1 : Nat) = (1 : Nat) ∧ n = n ∧ by8 y = by8 y) (Classical.propDecidable _)) (.left (decide ((-9223372036854775808 : Int) ≤ (↑(y (1 : Nat) % (256 : Nat)) : Int) ∧ (↑(y (1 : Nat) % (256 : Nat)) : Int) ≤ (9223372036854775807 : Int))) (.left (decide ((↑(y (1 : Nat) % (256 : Nat)) : Int) = (↑(y (1 : Nat) % (256 : Nat)) : Int))) (.left (decide ((↑(y (1 : Nat) % (256 : Nat)) : Int) = (↑(y (1 : Nat) % (256 : Nat)) : Int))) (.left (decide ((0 : Int) ≤ (1 : Int) ∧ (1 : Nat) < n)) (.left (decide ((↑(y (1 : Nat) % (256 : Nat)) : Int) = (↑(y (1 : Nat) % (256 : Nat)) : Int))) (.left (@decide ((1 : Nat) = (1 : Nat) ∧ n = n ∧ by8 y = by8 y) (Classical.propDecidable _)) (.left (decide ((↑(y (0 : Nat) % (256 : Nat)) : Int) = (↑(y (0 : Nat) % (256 : Nat)) : Int))) (.left (decide ((0 : Int) ≤ (0 : Int) ∧ (0 : Nat) < n)) (.left (decide ((↑(y (0 : Nat) % (256 : Nat)) : Int) = (↑(y (0 : Nat) % (256 : Nat)) : Int))) (.left (@decide ((1 : Nat) = (1 : Nat) ∧ n = n ∧ by8 y = by8 y) (Classical.propDecidable _)) (.fork (decide ((↑(y (0 : Nat) % (256 : Nat)) : Int) = (1 : Int))) (.left (decide ((0 : Int) ≤ (51 : Int) ∧ (51 : Int) ≤ (↑n : Int) ∧ (↑n : Int) ≤ (↑n : Int))) (.stop (Hd.call (18 : Nat) [AV.data (1 : Nat) ((↑n : Int).toNat - (51 : Nat)) fun (i : Nat) => by8 y ((51 : Nat) + i)]) [] ([]))) (.fork (decide ((↑(y (0 : Nat) % (256 : Nat)) : Int) = (2 : Int))) (.left (decide ((0 : Int) ≤ (51 : Int) ∧ (51 : Int) ≤ (↑n : Int) ∧ (↑n : Int) ≤ (↑n : Int))) (.fork (decide ((↑((↑n : Int).toNat - (51 : Nat)) : Int) = (16 : Int))) (.right (decide ((↑((↑n : Int).toNat - (51 : Nat)) : Int) < (0 : Int))) (.left (decide ((-9223372036854775808 : Int) ≤ (↑((↑n : Int).toNat - (51 : Nat)) : Int) - (0 : Int) ∧ (↑((↑n : Int).toNat - (51 : Nat)) : Int) - (0 : Int) ≤ (9223372036854775807 : Int))) (.right (decide ((↑((↑n : Int).toNat - (51 : Nat)) : Int) - (0 : Int) < (8 : Int))) (.left (decide ((0 : Int) ≤ (0 : Int) ∧ (0 : Int) ≤ (8 : Int) ∧ (8 : Int) ≤ (↑((↑n : Int).toNat - (51 : Nat)) : Int))) (.left (decide ((0 : Int) < (8 : Int))) (.left (decide ((0 : Int) ≤ (0 : Int) ∧ (0 : Nat) < (8 : Nat))) (.left (decide ((0 : Int) ≤ (↑(y (51 : Nat) % (256 : Nat)) : Int) ∧ (↑(y (51 : Nat) % (256 : Nat)) : Int) ≤ (18446744073709551615 : Int))) (.left (decide ((0 : Int) ≤ (0 : Int) ∧ (0 : Int) = (0 : Int) ∧ (0 : Int) ≤ (18446744073709551360 : Int) ∧ (0 : Int) ≤ (↑(y (51 : Nat) % (256 : Nat)) : Int) ∧ (↑(y (51 : Nat) % (256 : Nat)) : Int) < (256 : Int))) (.left (decide ((1 : Int) < (8 : Int))) (.left (decide ((0 : Int) ≤ (1 : Int) ∧ (1 : Nat) < (8 : Nat))) (.left (decide ((0 : Int) ≤ ((0 : Int) + (↑(y (51 : Nat) % (256 : Nat)) : Int)) * (256 : Int) ∧ ((0 : Int) + (↑(y (51 : Nat) % (256 : Nat)) : Int)) * (256 : Int) ≤ (18446744073709551615 : Int))) (.left (decide ((0 : Int) ≤ (↑(y (52 : Nat) % (256 : Nat)) : Int) ∧ (↑(y (52 : Nat) % (256 : Nat)) : Int) ≤ (18446744073709551615 : Int))) (.left (decide ((0 : Int) ≤ ((0 : Int) + (↑(y (51 : Nat) % (256 : Nat)) : Int)) * (256 : Int) ∧ ((0 : Int) + (↑(y (51 : Nat) % (256 : Nat)) : Int)) * (256 : Int) % (256 : Int) = (0 : Int) ∧ ((0 : Int) + (↑(y (51 : Nat) % (256 : Nat)) : Int)) * (256 : Int) ≤ (18446744073709551360 : Int) ∧ (0 : Int) ≤ (↑(y (52 : Nat) % (256 : Nat)) : Int) ∧ (↑(y (52 : Nat) % (256 : Nat)) : Int) < (256 : Int))) (.left (decide ((2 : Int) < (8 : Int))) (.left (decide ((0 : Int) ≤ (2 : Int) ∧ (2 : Nat) < (8 : Nat))) (.left (decide ((0 : Int) ≤ (((0 : Int) + (↑(y (51 : Nat) % (256 : Nat)) : Int)) * (256 : Int) + (↑(y (52 : Nat) % (256 : Nat)) : Int)) * (256 : Int) ∧ (((0 : Int) + (↑(y (51 : Nat) % (256 : Nat)) : Int)) * (256 : Int) + (↑(y (52 : Nat) % (256 : Nat)) : Int)) * (256 : Int) ≤ (18446744073709551615 : Int))) (.left (decide ((0 : Int) ≤ (↑(y (53 : Nat) % (256 : Nat)) : Int) ∧ (↑(y (53 : Nat) % (256 : Nat)) : Int) ≤ (18446744073709551615 : Int))) (.left (decide ((0 : Int) ≤ (((0 : Int) + (↑(y (51 : Nat) % (256 : Nat)) : Int)) * (256 : Int) + (↑(y (52 : Nat) % (256 : Nat)) : Int)) * (256 : Int) ∧ (((0 : Int) + (↑(y (51 : Nat) % (256 : Nat)) : Int)) * (256 : Int) + (↑(y (52 : Nat) % (256 : Nat)) : Int)) * (256 : Int) % (256 : Int) = (0 : Int) ∧ (((0 : Int) + (↑(y (51 : Nat) % (256 : Nat)) : Int)) * (256 : Int) + (↑(y (52 : Nat) % (256 : Nat)) : Int)) * (256 : Int) ≤ (18446744073709551360 : Int) ∧ (0 : Int) ≤ (↑(y (53 : Nat) % (256 : Nat)) : Int) ∧ (↑(y (53 : Nat) % (256 : Nat)) : Int) < (256 : Int))) (.left (decide ((3 : Int) < (8 : Int))) (.left (decide ((0 : Int) ≤ (3 : Int) ∧ (3 : Nat) < (8 : Nat))) (.left (decide ((0 : Int) ≤ ((((0 : Int) + (↑(y (51 : Nat) % (256 : Nat)) : Int)) * (256 : Int) + (↑(y (52 : Nat) % (256 : Nat)) : Int)) * (256 : Int) + (↑(y (53 : Nat) % (256 : Nat)) : Int)) * (256 : Int) ∧ ((((0 : Int) + (↑(y (51 : Nat) % (256 : Nat)) : Int)) * (256 : Int) + (↑(y (52 : Nat) % (256 : Nat)) : Int)) * (256 : Int) + (↑(y (53 : Nat) % (256 : Nat)) : Int)) * (256 : Int) ≤ (18446744073709551615 : Int))) (.left (decide ((0 : Int) ≤ (↑(y (54 : Nat) % (256 : Nat)) : Int) ∧ (↑(y (54 : Nat) % (256 : Nat)) : Int) ≤ (18446744073709551615 : Int))) (.left (decide ((0 : Int) ≤ ((((0 : Int) + (↑(y (51 : Nat) % (256 : Nat)) : Int)) * (256 : Int) + (↑(y (52 : Nat) % (256 : Nat)) : Int)) * (256 : Int) + (↑(y (53 : Nat) % (256 : Nat)) : Int)) * (256 : Int) ∧ ((((0 : Int) + (↑(y (51 : Nat) % (256 : Nat)) : Int)) * (256 : Int) + (↑(y (52 : Nat) % (256 : Nat)) : Int)) * (256 : Int) + (↑(y (53 : Nat) % (256 : Nat)) : Int)) * (256 : Int) % (256 : Int) = (0 : Int) ∧ ((((0 : Int) + (↑(y (51 : Nat) % (256 : Nat)) : Int)) * (256 : Int) + (↑(y (52 : Nat) % (256 : Nat)) : Int)) * (256 : Int) + (↑(y (53 : Nat) % (256 : Nat)) : Int)) * (256 : Int) ≤ (18446744073709551360 : Int) ∧ (0 : Int) ≤ (↑(y (54 : Nat) % (256 : Nat)) : Int) ∧ (↑(y (54 : Nat) % (256 : Nat)) : Int) < (256 : Int))) (.left (decide ((4 : Int) < (8 : Int))) (.left (decide ((0 : Int) ≤ (4 : Int) ∧ (4 : Nat) < (8 : Nat))) (.left (decide ((0 : Int) ≤ (((((0 : Int) + (↑(y (51 : Nat) % (256 : Nat)) : Int)) * (256 : Int) + (↑(y (52 : Nat) % (256 : Nat)) : Int)) * (256 : Int) + (↑(y (53 : Nat) % (256 : Nat)) : Int)) * (256 : Int) + (↑(y (54 : Nat) % (256 : Nat)) : Int)) * (256 : Int) ∧ (((((0 : Int) + (↑(y (51 : Nat) % (256 : Nat)) : Int)) * (256 : Int) + (↑(y (52 : Nat) % (256 : Nat)) : Int)) * (256 : Int) + (↑(y (53 : Nat) % (256 : Nat)) : Int)) * (256 : Int) + (↑(y (54 : Nat) % (256 : Nat)) : Int)) * (256 : Int) ≤ (18446744073709551615 : Int))) (.left (decide ((0 : Int) ≤ (↑(y (55 : Nat) % (256 : Nat)) : Int) ∧ (↑(y (55 : Nat) % (256 : Nat)) : Int) ≤ (18446744073709551615 : Int))) (.left (decide ((0 : Int) ≤ (((((0 : Int) + (↑(y (51 : Nat) % (256 : Nat)) : Int)) * (256 : Int) + (↑(y (52 : Nat) % (256 : Nat)) : Int)) * (256 : Int) + (↑(y (53 : Nat) % (256 : Nat)) : Int)) * (256 : Int) + (↑(y (54 : Nat) % (256 : Nat)) : Int)) * (256 : Int) ∧ (((((0 : Int) + (↑(y (51 : Nat) % (256 : Nat)) : Int)) * (256 : Int) + (↑(y (52 : Nat) % (256 : Nat)) : Int)) * (256 : Int) + (↑(y (53 : Nat) % (256 : Nat)) : Int)) * (256 : Int) + (↑(y (54 : Nat) % (256 : Nat)) : Int)) * (256 : Int) % (256 : Int) = (0 : Int) ∧ (((((0 : Int) + (↑(y (51 : Nat) % (256 : Nat)) : Int)) * (256 : Int) + (↑(y (52 : Nat) % (256 : Nat)) : Int)) * (256 : Int) + (↑(y (53 : Nat) % (256 : Nat)) : Int)) * (256 : Int) + (↑(y (54 : Nat) % (256 : Nat)) : Int)) * (256 : Int) ≤ (18446744073709551360 : Int) ∧ (0 : Int) ≤ (↑(y (55 : Nat) % (256 : Nat)) : Int) ∧ (↑(y (55 : Nat) % (256 : Nat)) : Int) < (256 : Int))) (.left (decide ((5 : Int) < (8 : Int))) (.left (decide ((0 : Int) ≤ (5 : Int) ∧ (5 : Nat) < (8 : Nat))) (.left (decide ((0 : Int) ≤ ((((((0 : Int) + (↑(y (51 : Nat) % (256 : Nat)) : Int)) * (256 : Int) + (↑(y (52 : Nat) % (256 : Nat)) : Int)) * (256 : Int) + (↑(y (53 : Nat) % (256 : Nat)) : Int)) * (256 : Int) + (↑(y (54 : Nat) % (256 : Nat)) : Int)) * (256 : Int) + (↑(y (55 : Nat) % (256 : Nat)) : Int)) * (256 : Int) ∧ ((((((0 : Int) + (↑(y (51 : Nat) % (256 : Nat)) : Int)) * (256 : Int) + (↑(y (52 : Nat) % (256 : Nat)) : Int)) * (256 : Int) + (↑(y (53 : Nat) % (256 : Nat)) : Int)) * (256 : Int) + (↑(y (54 : Nat) % (256 : Nat)) : Int)) * (256 : Int) + (↑(y (55 : Nat) % (256 : Nat)) : Int)) * (256 : Int) ≤ (18446744073709551615 : Int))) (.left (decide ((0 : Int) ≤ (↑(y (56 : Nat) % (256 : Nat)) : Int) ∧ (↑(y (56 : Nat) % (256 : Nat)) : Int) ≤ (18446744073709551615 : Int))) (.left (decide ((0 : Int) ≤ ((((((0 : Int) + (↑(y (51 : Nat) % (256 : Nat)) : Int)) * (256 : Int) + (↑(y (52 : Nat) % (256 : Nat)) : Int)) * (256 : Int) + (↑(y (53 : Nat) % (256 : Nat)) : Int)) * (256 : Int) + (↑(y (54 : Nat) % (256 : Nat)) : Int)) * (256 : Int) + (↑(y (55 : Nat) % (256 : Nat)) : Int)) * (256 : Int) ∧ ((((((0 : Int) + (↑(y (51 : Nat) % (256 : Nat)) : Int)) * (256 : Int) + (↑(y (52 : Nat) % (256 : Nat)) : Int)) * (256 : Int) + (↑(y (53 : Nat) % (256 : Nat)) : Int)) * (256 : Int) + (↑(y (54 : Nat) % (256 : Nat)) : Int)) * (256 : Int) + (↑(y (55 : Nat) % (256 : Nat)) : Int)) * (256 : Int) % (256 : Int) = (0 : Int) ∧ ((((((0 : Int) + (↑(y (51 : Nat) % (256 : Nat)) : Int)) * (256 : Int) + (↑(y (52 : Nat) % (256 : Nat)) : Int)) * (256 : Int) + (↑(y (53 : Nat) % (256 : Nat)) : Int)) * (256 : Int) + (↑(y (54 : Nat) % (256 : Nat)) : Int)) * (256 : Int) + (↑(y (55 : Nat) % (256 : Nat)) : Int)) * (256 : Int) ≤ (18446744073709551360 : Int) ∧ (0 : Int) ≤ (↑(y (56 : Nat) % (256 : Nat)) : Int) ∧ (↑(y (56 : Nat) % (256 : Nat)) : Int) < (256 : Int))) (.left (decide ((6 : Int) < (8 : Int))) (.left (decide ((0 : Int) ≤ (6 : Int) ∧ (6 : Nat) < (8 : Nat))) (.left (decide ((0 : Int) ≤ (((((((0 : Int) + (↑(y (51 : Nat) % (256 : Nat)) : Int)) * (256 : Int) + (↑(y (52 : Nat) % (256 : Nat)) : Int)) * (256 : Int) + (↑(y (53 : Nat) % (256 : Nat)) : Int)) * (256 : Int) + (↑(y (54 : Nat) % (256 : Nat)) : Int)) * (256 : Int) + (↑(y (55 : Nat) % (256 : Nat)) : Int)) * (256 : Int) + (↑(y (56 : Nat) % (256 : Nat)) : Int)) * (256 : Int) ∧ (((((((0 : Int) + (↑(y (51 : Nat) % (256 : Nat)) : Int)) * (256 : Int) + (↑(y (52 : Nat) % (256 : Nat)) : Int)) * (256 : Int) + (↑(y (53 : Nat) % (256 : Nat)) : Int)) * (256 : Int) + (↑(y (54 : Nat) % (256 : Nat)) : Int)) * (256 : Int) + (↑(y (55 : Nat) % (256 : Nat)) : Int)) * (256 : Int) + (↑(y (56 : Nat) % (256 : Nat)) : Int)) * (256 : Int) ≤ (18446744073709551615 : Int))) (.left (decide ((0 : Int) ≤ (↑(y (57 : Nat) % (256 : Nat)) : Int) ∧ (↑(y (57 : Nat) % (256 : Nat)) : Int) ≤ (18446744073709551615 : Int))) (.left (decide ((0 : Int) ≤ (((((((0 : Int) + (↑(y (51 : Nat) % (256 : Nat)) : Int)) * (256 : Int) + (↑(y (52 : Nat) % (256 : Nat)) : Int)) * (256 : Int) + (↑(y (53 : Nat) % (256 : Nat)) : Int)) * (256 : Int) + (↑(y (54 : Nat) % (256 : Nat)) : Int)) * (256 : Int) + (↑(y (55 : Nat) % (256 : Nat)) : Int)) * (256 : Int) + (↑(y (56 : Nat) % (256 : Nat)) : Int)) * (256 : Int) ∧ (((((((0 : Int) + (↑(y (51 : Nat) % (256 : Nat)) : Int)) * (256 : Int) + (↑(y (52 : Nat) % (256 : Nat)) : Int)) * (256 : Int) + (↑(y (53 : Nat) % (256 : Nat)) : Int)) * (256 : Int) + (↑(y (54 : Nat) % (256 : Nat)) : Int)) * (256 : Int) + (↑(y (55 : Nat) % (256 : Nat)) : Int)) * (256 : Int) + (↑(y (56 : Nat) % (256 : Nat)) : Int)) * (256 : Int) % (256 : Int) = (0 : Int) ∧ (((((((0 : Int) + (↑(y (51 : Nat) % (256 : Nat)) : Int)) * (256 : Int) + (↑(y (52 : Nat) % (256 : Nat)) : Int)) * (256 : Int) + (↑(y (53 : Nat) % (256 : Nat)) : Int)) * (256 : Int) + (↑(y (54 : Nat) % (256 : Nat)) : Int)) * (256 : Int) + (↑(y (55 : Nat) % (256 : Nat)) : Int)) * (256 : Int) + (↑(y (56 : Nat) % (256 : Nat)) : Int)) * (256 : Int) ≤ (18446744073709551360 : Int) ∧ (0 : Int) ≤ (↑(y (57 : Nat) % (256 : Nat)) : Int) ∧ (↑(y (57 : Nat) % (256 : Nat)) : Int) < (256 : Int))) (.left (decide ((7 : Int) < (8 : Int))) (.left (decide ((0 : Int) ≤ (7 : Int) ∧ (7 : Nat) < (8 : Nat))) (.left (decide ((0 : Int) ≤ ((((((((0 : Int) + (↑(y (51 : Nat) % (256 : Nat)) : Int)) * (256 : Int) + (↑(y (52 : Nat) % (256 : Nat)) : Int)) * (256 : Int) + (↑(y (53 : Nat) % (256 : Nat)) : Int)) * (256 : Int) + (↑(y (54 : Nat) % (256 : Nat)) : Int)) * (256 : Int) + (↑(y (55 : Nat) % (256 : Nat)) : Int)) * (256 : Int) + (↑(y (56 : Nat) % (256 : Nat)) : Int)) * (256 : Int) + (↑(y (57 : Nat) % (256 : Nat)) : Int)) * (256 : Int) ∧ ((((((((0 : Int) + (↑(y (51 : Nat) % (256 : Nat)) : Int)) * (256 : Int) + (↑(y (52 : Nat) % (256 : Nat)) : Int)) * (256 : Int) + (↑(y (53 : Nat) % (256 : Nat)) : Int)) * (256 : Int) + (↑(y (54 : Nat) % (256 : Nat)) : Int)) * (256 : Int) + (↑(y (55 : Nat) % (256 : Nat)) : Int)) * (256 : Int) + (↑(y (56 : Nat) % (256 : Nat)) : Int)) * (256 : Int) + (↑(y (57 : Nat) % (256 : Nat)) : Int)) * (256 : Int) ≤ (18446744073709551615 : Int))) (.left (decide ((0 : Int) ≤ (↑(y (58 : Nat) % (256 : Nat)) : Int) ∧ (↑(y (58 : Nat) % (256 : Nat)) : Int) ≤ (18446744073709551615 : Int))) (.left (decide ((0 : Int) ≤ ((((((((0 : Int) + (↑(y (51 : Nat) % (256 : Nat)) : Int)) * (256 : Int) + (↑(y (52 : Nat) % (256 : Nat)) : Int)) * (256 : Int) + (↑(y (53 : Nat) % (256 : Nat)) : Int)) * (256 : Int) + (↑(y (54 : Nat) % (256 : Nat)) : Int)) * (256 : Int) + (↑(y (55 : Nat) % (256 : Nat)) : Int)) * (256 : Int) + (↑(y (56 : Nat) % (256 : Nat)) : Int)) * (256 : Int) + (↑(y (57 : Nat) % (256 : Nat)) : Int)) * (256 : Int) ∧ ((((((((0 : Int) + (↑(y (51 : Nat) % (256 : Nat)) : Int)) * (256 : Int) + (↑(y (52 : Nat) % (256 : Nat)) : Int)) * (256 : Int) + (↑(y (53 : Nat) % (256 : Nat)) : Int)) * (256 : Int) + (↑(y (54 : Nat) % (256 : Nat)) : Int)) * (256 : Int) + (↑(y (55 : Nat) % (256 : Nat)) : Int)) * (256 : Int) + (↑(y (56 : Nat) % (256 : Nat)) : Int)) * (256 : Int) + (↑(y (57 : Nat) % (256 : Nat)) : Int)) * (256 : Int) % (256 : Int) = (0 : Int) ∧ ((((((((0 : Int) + (↑(y (51 : Nat) % (256 : Nat)) : Int)) * (256 : Int) + (↑(y (52 : Nat) % (256 : Nat)) : Int)) * (256 : Int) + (↑(y (53 : Nat) % (256 : Nat)) : Int)) * (256 : Int) + (↑(y (54 : Nat) % (256 : Nat)) : Int)) * (256 : Int) + (↑(y (55 : Nat) % (256 : Nat)) : Int)) * (256 : Int) + (↑(y (56 : Nat) % (256 : Nat)) : Int)) * (256 : Int) + (↑(y (57 : Nat) % (256 : Nat)) : Int)) * (256 : Int) ≤ (18446744073709551360 : Int) ∧ (0 : Int) ≤ (↑(y (58 : Nat) % (256 : Nat)) : Int) ∧ (↑(y (58 : Nat) % (256 : Nat)) : Int) < (256 : Int))) (.right (decide ((8 : Int) < (8 : Int))) (.right (decide ((↑((↑n : Int).toNat - (51 : Nat)) : Int) < (8 : Int))) (.left (decide ((-9223372036854775808 : Int) ≤ (↑((↑n : Int).toNat - (51 : Nat)) : Int) - (8 : Int) ∧ (↑((↑n : Int).toNat - (51 : Nat)) : Int) - (8 : Int) ≤ (9223372036854775807 : Int))) (.right (decide ((↑((↑n : Int).toNat - (51 : Nat)) : Int) - (8 : Int) < (8 : Int))) (.left (decide ((0 : Int) ≤ (8 : Int) ∧ (8 : Int) ≤ (16 : Int) ∧ (16 : Int) ≤ (↑((↑n : Int).toNat - (51 : Nat)) : Int))) (.left (decide ((0 : Int) < (8 : Int))) (.left (decide ((0 : Int) ≤ (0 : Int) ∧ (0 : Nat) < (8 : Nat))) (.left (decide ((0 : Int) ≤ (↑(y (59 : Nat) % (256 : Nat)) : Int) ∧ (↑(y (59 : Nat) % (256 : Nat)) : Int) ≤ (18446744073709551615 : Int))) (.left (decide ((0 : Int) ≤ (0 : Int) ∧ (0 : Int) = (0 : Int) ∧ (0 : Int) ≤ (18446744073709551360 : Int) ∧ (0 : Int) ≤ (↑(y (59 : Nat) % (256 : Nat)) : Int) ∧ (↑(y (59 : Nat) % (256 : Nat)) : Int) < (256 : Int))) (.left (decide ((1 : Int) < (8 : Int))) (.left (decide ((0 : Int) ≤ (1 : Int) ∧ (1 : Nat) < (8 : Nat))) (.left (decide ((0 : Int) ≤ ((0 : Int) + (↑(y (59 : Nat) % (256 : Nat)) : Int)) * (256 : Int) ∧ ((0 : Int) + (↑(y (59 : Nat) % (256 : Nat)) : Int)) * (256 : Int) ≤ (18446744073709551615 : Int))) (.left (decide ((0 : Int) ≤ (↑(y (60 : Nat) % (256 : Nat)) : Int) ∧ (↑(y (60 : Nat) % (256 : Nat)) : Int) ≤ (18446744073709551615 : Int))) (.left (decide ((0 : Int) ≤ ((0 : Int) + (↑(y (59 : Nat) % (256 : Nat)) : Int)) * (256 : Int) ∧ ((0 : Int) + (↑(y (59 : Nat) % (256 : Nat)) : Int)) * (256 : Int) % (256 : Int) = (0 : Int) ∧ ((0 : Int) + (↑(y (59 : Nat) % (256 : Nat)) : Int)) * (256 : Int) ≤ (18446744073709551360 : Int) ∧ (0 : Int) ≤ (↑(y (60 : Nat) % (256 : Nat)) : Int) ∧ (↑(y (60 : Nat) % (256 : Nat)) : Int) < (256 : Int))) (.left (decide ((2 : Int) < (8 : Int))) (.left (decide ((0 : Int) ≤ (2 : Int) ∧ (2 : Nat) < (8 : Nat))) (.left (decide ((0 : Int) ≤ (((0 : Int) + (↑(y (59 : Nat) % (256 : Nat)) : Int)) * (256 : Int) + (↑(y (60 : Nat) % (256 : Nat)) : Int)) * (256 : Int) ∧ (((0 : Int) + (↑(y (59 : Nat) % (256 : Nat)) : Int)) * (256 : Int) + (↑(y (60 : Nat) % (256 : Nat)) : Int)) * (256 : Int) ≤ (18446744073709551615 : Int))) (.left (decide ((0 : Int) ≤ (↑(y (61 : Nat) % (256 : Nat)) : Int) ∧ (↑(y (61 : Nat) % (256 : Nat)) : Int) ≤ (18446744073709551615 : Int))) (.left (decide ((0 : Int) ≤ (((0 : Int) + (↑(y (59 : Nat) % (256 : Nat)) : Int)) * (256 : Int) + (↑(y (60 : Nat) % (256 : Nat)) : Int)) * (256 : Int) ∧ (((0 : Int) + (↑(y (59 : Nat) % (256 : Nat)) : Int)) * (256 : Int) + (↑(y (60 : Nat) % (256 : Nat)) : Int)) * (256 : Int) % (256 : Int) = (0 : Int) ∧ (((0 : Int) + (↑(y (59 : Nat) % (256 : Nat)) : Int)) * (256 : Int) + (↑(y (60 : Nat) % (256 : Nat)) : Int)) * (256 : Int) ≤ (18446744073709551360 : Int) ∧ (0 : Int) ≤ (↑(y (61 : Nat) % (256 : Nat)) : Int) ∧ (↑(y (61 : Nat) % (256 : Nat)) : Int) < (256 : Int))) (.left (decide ((3 : Int) < (8 : Int))) (.left (decide ((0 : Int) ≤ (3 : Int) ∧ (3 : Nat) < (8 : Nat))) (.left (decide ((0 : Int) ≤ ((((0 : Int) + (↑(y (59 : Nat) % (256 : Nat)) : Int)) * (256 : Int) + (↑(y (60 : Nat) % (256 : Nat)) : Int)) * (256 : Int) + (↑(y (61 : Nat) % (256 : Nat)) : Int)) * (256 : Int) ∧ ((((0 : Int) + (↑(y (59 : Nat) % (256 : Nat)) : Int)) * (256 : Int) + (↑(y (60 : Nat) % (256 : Nat)) : Int)) * (256 : Int) + (↑(y (61 : Nat) % (256 : Nat)) : Int)) * (256 : Int) ≤ (18446744073709551615 : Int))) (.left (decide ((0 : Int) ≤ (↑(y (62 : Nat) % (256 : Nat)) : Int) ∧ (↑(y (62 : Nat) % (256 : Nat)) : Int) ≤ (18446744073709551615 : Int))) (.left (decide ((0 : Int) ≤ ((((0 : Int) + (↑(y (59 : Nat) % (256 : Nat)) : Int)) * (256 : Int) + (↑(y (60 : Nat) % (256 : Nat)) : Int)) * (256 : Int) + (↑(y (61 : Nat) % (256 : Nat)) : Int)) * (256 : Int) ∧ ((((0 : Int) + (↑(y (59 : Nat) % (256 : Nat)) : Int)) * (256 : Int) + (↑(y (60 : Nat) % (256 : Nat)) : Int)) * (256 : Int) + (↑(y (61 : Nat) % (256 : Nat)) : Int)) * (256 : Int) % (256 : Int) = (0 : Int) ∧ ((((0 : Int) + (↑(y (59 : Nat) % (256 : Nat)) : Int)) * (256 : Int) + (↑(y (60 : Nat) % (256 : Nat)) : Int)) * (256 : Int) + (↑(y (61 : Nat) % (256 : Nat)) : Int)) * (256 : Int) ≤ (18446744073709551360 : Int) ∧ (0 : Int) ≤ (↑(y (62 : Nat) % (256 : Nat)) : Int) ∧ (↑(y (62 : Nat) % (256 : Nat)) : Int) < (256 : Int))) (.left (decide ((4 : Int) < (8 : Int))) (.left (decide ((0 : Int) ≤ (4 : Int) ∧ (4 : Nat) < (8 : Nat))) (.left (decide ((0 : Int) ≤ (((((0 : Int) + (↑(y (59 : Nat) % (256 : Nat)) : Int)) * (256 : Int) + (↑(y (60 : Nat) % (256 : Nat)) : Int)) * (256 : Int) + (↑(y (61 : Nat) % (256 : Nat)) : Int)) * (256 : Int) + (↑(y (62 : Nat) % (256 : Nat)) : Int)) * (256 : Int) ∧ (((((0 : Int) + (↑(y (59 : Nat) % (256 : Nat)) : Int)) * (256 : Int) + (↑(y (60 : Nat) % (256 : Nat)) : Int)) * (256 : Int) + (↑(y (61 : Nat) % (256 : Nat)) : Int)) * (256 : Int) + (↑(y (62 : Nat) % (256 : Nat)) : Int)) * (256 : Int) ≤ (18446744073709551615 : Int))) (.left (decide ((0 : Int) ≤ (↑(y (63 : Nat) % (256 : Nat)) : Int) ∧ (↑(y (63 : Nat) % (256 : Nat)) : Int) ≤ (18446744073709551615 : Int))) (.left (decide ((0 : Int) ≤ (((((0 : Int) + (↑(y (59 : Nat) % (256 : Nat)) : Int)) * (256 : Int) + (↑(y (60 : Nat) % (256 : Nat)) : Int)) * (256 : Int) + (↑(y (61 : Nat) % (256 : Nat)) : Int)) * (256 : Int) + (↑(y (62 : Nat) % (256 : Nat)) : Int)) * (256 : Int) ∧ (((((0 : Int) + (↑(y (59 : Nat) % (256 : Nat)) : Int)) * (256 : Int) + (↑(y (60 : Nat) % (256 : Nat)) : Int)) * (256 : Int) + (↑(y (61 : Nat) % (256 : Nat)) : Int)) * (256 : Int) + (↑(y (62 : Nat) % (256 : Nat)) : Int)) * (256 : Int) % (256 : Int) = (0 : Int) ∧ (((((0 : Int) + (↑(y (59 : Nat) % (256 : Nat)) : Int)) * (256 : Int) + (↑(y (60 : Nat) % (256 : Nat)) : Int)) * (256 : Int) + (↑(y (61 : Nat) % (256 : Nat)) : Int)) * (256 : Int) + (↑(y (62 : Nat) % (256 : Nat)) : Int)) * (256 : Int) ≤ (18446744073709551360 : Int) ∧ (0 : Int) ≤ (↑(y (63 : Nat) % (256 : Nat)) : Int) ∧ (↑(y (63 : Nat) % (256 : Nat)) : Int) < (256 : Int))) (.left (decide ((5 : Int) < (8 : Int))) (.left (decide ((0 : Int) ≤ (5 : Int) ∧ (5 : Nat) < (8 : Nat))) (.left (decide ((0 : Int) ≤ ((((((0 : Int) + (↑(y (59 : Nat) % (256 : Nat)) : Int)) * (256 : Int) + (↑(y (60 : Nat) % (256 : Nat)) : Int)) * (256 : Int) + (↑(y (61 : Nat) % (256 : Nat)) : Int)) * (256 : Int) + (↑(y (62 : Nat) % (256 : Nat)) : Int)) * (256 : Int) + (↑(y (63 : Nat) % (256 : Nat)) : Int)) * (256 : Int) ∧ ((((((0 : Int) + (↑(y (59 : Nat) % (256 : Nat)) : Int)) * (256 : Int) + (↑(y (60 : Nat) % (256 : Nat)) : Int)) * (256 : Int) + (↑(y (61 : Nat) % (256 : Nat)) : Int)) * (256 : Int) + (↑(y (62 : Nat) % (256 : Nat)) : Int)) * (256 : Int) + (↑(y (63 : Nat) % (256 : Nat)) : Int)) * (256 : Int) ≤ (18446744073709551615 : Int))) (.left (decide ((0 : Int) ≤ (↑(y (64 : Nat) % (256 : Nat)) : Int) ∧ (↑(y (64 : Nat) % (256 : Nat)) : Int) ≤ (18446744073709551615 : Int))) (.left (decide ((0 : Int) ≤ ((((((0 : Int) + (↑(y (59 : Nat) % (256 : Nat)) : Int)) * (256 : Int) + (↑(y (60 : Nat) % (256 : Nat)) : Int)) * (256 : Int) + (↑(y (61 : Nat) % (256 : Nat)) : Int)) * (256 : Int) + (↑(y (62 : Nat) % (256 : Nat)) : Int)) * (256 : Int) + (↑(y (63 : Nat) % (256 : Nat)) : Int)) * (256 : Int) ∧ ((((((0 : Int) + (↑(y (59 : Nat) % (256 : Nat)) : Int)) * (256 : Int) + (↑(y (60 : Nat) % (256 : Nat)) : Int)) * (256 : Int) + (↑(y (61 : Nat) % (256 : Nat)) : Int)) * (256 : Int) + (↑(y (62 : Nat) % (256 : Nat)) : Int)) * (256 : Int) + (↑(y (63 : Nat) % (256 : Nat)) : Int)) * (256 : Int) % (256 : Int) = (0 : Int) ∧ ((((((0 : Int) + (↑(y (59 : Nat) % (256 : Nat)) : Int)) * (256 : Int) + (↑(y (60 : Nat) % (256 : Nat)) : Int)) * (256 : Int) + (↑(y (61 : Nat) % (256 : Nat)) : Int)) * (256 : Int) + (↑(y (62 : Nat) % (256 : Nat)) : Int)) * (256 : Int) + (↑(y (63 : Nat) % (256 : Nat)) : Int)) * (256 : Int) ≤ (18446744073709551360 : Int) ∧ (0 : Int) ≤ (↑(y (64 : Nat) % (256 : Nat)) : Int) ∧ (↑(y (64 : Nat) % (256 : Nat)) : Int) < (256 : Int))) (.left (decide ((6 : Int) < (8 : Int))) (.left (decide ((0 : Int) ≤ (6 : Int) ∧ (6 : Nat) < (8 : Nat))) (.left (decide ((0 : Int) ≤ (((((((0 : Int) + (↑(y (59 : Nat) % (256 : Nat)) : Int)) * (256 : Int) + (↑(y (60 : Nat) % (256 : Nat)) : Int)) * (256 : Int) + (↑(y (61 : Nat) % (256 : Nat)) : Int)) * (256 : Int) + (↑(y (62 : Nat) % (256 : Nat)) : Int)) * (256 : Int) + (↑(y (63 : Nat) % (256 : Nat)) : Int)) * (256 : Int) + (↑(y (64 : Nat) % (256 : Nat)) : Int)) * (256 : Int) ∧ (((((((0 : Int) + (↑(y (59 : Nat) % (256 : Nat)) : Int)) * (256 : Int) + (↑(y (60 : Nat) % (256 : Nat)) : Int)) * (256 : Int) + (↑(y (61 : Nat) % (256 : Nat)) : Int)) * (256 : Int) + (↑(y (62 : Nat) % (256 : Nat)) : Int)) * (256 : Int) + (↑(y (63 : Nat) % (256 : Nat)) : Int)) * (256 : Int) + (↑(y (64 : Nat) % (256 : Nat)) : Int)) * (256 : Int) ≤ (18446744073709551615 : Int))) (.left (decide ((0 : Int) ≤ (↑(y (65 : Nat) % (256 : Nat)) : Int) ∧ (↑(y (65 : Nat) % (256 : Nat)) : Int) ≤ (18446744073709551615 : Int))) (.left (decide ((0 : Int) ≤ (((((((0 : Int) + (↑(y (59 : Nat) % (256 : Nat)) : Int)) * (256 : Int) + (↑(y (60 : Nat) % (256 : Nat)) : Int)) * (256 : Int) + (↑(y (61 : Nat) % (256 : Nat)) : Int)) * (256 : Int) + (↑(y (62 : Nat) % (256 : Nat)) : Int)) * (256 : Int) + (↑(y (63 : Nat) % (256 : Nat)) : Int)) * (256 : Int) + (↑(y (64 : Nat) % (256 : Nat)) : Int)) * (256 : Int) ∧ (((((((0 : Int) + (↑(y (59 : Nat) % (256 : Nat)) : Int)) * (256 : Int) + (↑(y (60 : Nat) % (256 : Nat)) : Int)) * (256 : Int) + (↑(y (61 : Nat) % (256 : Nat)) : Int)) * (256 : Int) + (↑(y (62 : Nat) % (256 : Nat)) : Int)) * (256 : Int) + (↑(y (63 : Nat) % (256 : Nat)) : Int)) * (256 : Int) + (↑(y (64 : Nat) % (256 : Nat)) : Int)) * (256 : Int) % (256 : Int) = (0 : Int) ∧ (((((((0 : Int) + (↑(y (59 : Nat) % (256 : Nat)) : Int)) * (256 : Int) + (↑(y (60 : Nat) % (256 : Nat)) : Int)) * (256 : Int) + (↑(y (61 : Nat) % (256 : Nat)) : Int)) * (256 : Int) + (↑(y (62 : Nat) % (256 : Nat)) : Int)) * (256 : Int) + (↑(y (63 : Nat) % (256 : Nat)) : Int)) * (256 : Int) + (↑(y (64 : Nat) % (256 : Nat)) : Int)) * (256 : Int) ≤ (18446744073709551360 : Int) ∧ (0 : Int) ≤ (↑(y (65 : Nat) % (256 : Nat)) : Int) ∧ (↑(y (65 : Nat) % (256 : Nat)) : Int) < (256 : Int))) (.left (decide ((7 : Int) < (8 : Int))) (.left (decide ((0 : Int) ≤ (7 : Int) ∧ (7 : Nat) < (8 : Nat))) (.left (decide ((0 : Int) ≤ ((((((((0 : Int) + (↑(y (59 : Nat) % (256 : Nat)) : Int)) * (256 : Int) + (↑(y (60 : Nat) % (256 : Nat)) : Int)) * (256 : Int) + (↑(y (61 : Nat) % (256 : Nat)) : Int)) * (256 : Int) + (↑(y (62 : Nat) % (256 : Nat)) : Int)) * (256 : Int) + (↑(y (63 : Nat) % (256 : Nat)) : Int)) * (256 : Int) + (↑(y (64 : Nat) % (256 : Nat)) : Int)) * (256 : Int) + (↑(y (65 : Nat) % (256 : Nat)) : Int)) * (256 : Int) ∧ ((((((((0 : Int) + (↑(y (59 : Nat) % (256 : Nat)) : Int)) * (256 : Int) + (↑(y (60 : Nat) % (256 : Nat)) : Int)) * (256 : Int) + (↑(y (61 : Nat) % (256 : Nat)) : Int)) * (256 : Int) + (↑(y (62 : Nat) % (256 : Nat)) : Int)) * (256 : Int) + (↑(y (63 : Nat) % (256 : Nat)) : Int)) * (256 : Int) + (↑(y (64 : Nat) % (256 : Nat)) : Int)) * (256 : Int) + (↑(y (65 : Nat) % (256 : Nat)) : Int)) * (256 : Int) ≤ (18446744073709551615 : Int))) (.left (decide ((0 : Int) ≤ (↑(y (66 : Nat) % (256 : Nat)) : Int) ∧ (↑(y (66 : Nat) % (256 : Nat)) : Int) ≤ (18446744073709551615 : Int))) (.left (decide ((0 : Int) ≤ ((((((((0 : Int) + (↑(y (59 : Nat) % (256 : Nat)) : Int)) * (256 : Int) + (↑(y (60 : Nat) % (256 : Nat)) : Int)) * (256 : Int) + (↑(y (61 : Nat) % (256 : Nat)) : Int)) * (256 : Int) + (↑(y (62 : Nat) % (256 : Nat)) : Int)) * (256 : Int) + (↑(y (63 : Nat) % (256 : Nat)) : Int)) * (256 : Int) + (↑(y (64 : Nat) % (256 : Nat)) : Int)) * (256 : Int) + (↑(y (65 : Nat) % (256 : Nat)) : Int)) * (256 : Int) ∧ ((((((((0 : Int) + (↑(y (59 : Nat) % (256 : Nat)) : Int)) * (256 : Int) + (↑(y (60 : Nat) % (256 : Nat)) : Int)) * (256 : Int) + (↑(y (61 : Nat) % (256 : Nat)) : Int)) * (256 : Int) + (↑(y (62 : Nat) % (256 : Nat)) : Int)) * (256 : Int) + (↑(y (63 : Nat) % (256 : Nat)) : Int)) * (256 : Int) + (↑(y (64 : Nat) % (256 : Nat)) : Int)) * (256 : Int) + (↑(y (65 : Nat) % (256 : Nat)) : Int)) * (256 : Int) % (256 : Int) = (0 : Int) ∧ ((((((((0 : Int) + (↑(y (59 : Nat) % (256 : Nat)) : Int)) * (256 : Int) + (↑(y (60 : Nat) % (256 : Nat)) : Int)) * (256 : Int) + (↑(y (61 : Nat) % (256 : Nat)) : Int)) * (256 : Int) + (↑(y (62 : Nat) % (256 : Nat)) : Int)) * (256 : Int) + (↑(y (63 : Nat) % (256 : Nat)) : Int)) * (256 : Int) + (↑(y (64 : Nat) % (256 : Nat)) : Int)) * (256 : Int) + (↑(y (65 : Nat) % (256 : Nat)) : Int)) * (256 : Int) ≤ (18446744073709551360 : Int) ∧ (0 : Int) ≤ (↑(y (66 : Nat) % (256 : Nat)) : Int) ∧ (↑(y (66 : Nat) % (256 : Nat)) : Int) < (256 : Int))) (.right (decide ((8 : Int) < (8 : Int))) (.fork (decide ((-9223372036854775808 : Int) ≤ ((((((((0 : Int) + (↑(y (59 : Nat) % (256 : Nat)) : Int)) * (256 : Int) + (↑(y (60 : Nat) % (256 : Nat)) : Int)) * (256 : Int) + (↑(y (61 : Nat) % (256 : Nat)) : Int)) * (256 : Int) + (↑(y (62 : Nat) % (256 : Nat)) : Int)) * (256 : Int) + (↑(y (63 : Nat) % (256 : Nat)) : Int)) * (256 : Int) + (↑(y (64 : Nat) % (256 : Nat)) : Int)) * (256 : Int) + (↑(y (65 : Nat) % (256 : Nat)) : Int)) * (256 : Int) + (↑(y (66 : Nat) % (256 : Nat)) : Int) ∧ ((((((((0 : Int) + (↑(y (59 : Nat) % (256 : Nat)) : Int)) * (256 : Int) + (↑(y (60 : Nat) % (256 : Nat)) : Int)) * (256 : Int) + (↑(y (61 : Nat) % (256 : Nat)) : Int)) * (256 : Int) + (↑(y (62 : Nat) % (256 : Nat)) : Int)) * (256 : Int) + (↑(y (63 : Nat) % (256 : Nat)) : Int)) * (256 : Int) + (↑(y (64 : Nat) % (256 : Nat)) : Int)) * (256 : Int) + (↑(y (65 : Nat) % (256 : Nat)) : Int)) * (256 : Int) + (↑(y (66 : Nat) % (256 : Nat)) : Int) ≤ (9223372036854775807 : Int))) (.stop (Hd.call (30 : Nat) [AV.agg [AV.sint IntKind.u8 (↑(y (0 : Nat) % (256 : Nat)) : Int), AV.sint IntKind.i64 (↑(y (1 : Nat) % (256 : Nat)) : Int), AV.sint IntKind.i64 (↑(y (2 : Nat) % (256 : Nat)) : Int), AV.sint IntKind.u64 (n8 fun (i : Nat) => y ((3 : Nat) + ((0 : Nat) + i))), AV.sint IntKind.u64 (n8 fun (i : Nat) => y ((3 : Nat) + ((8 : Nat) + i))), AV.sint IntKind.u64 (n8 fun (i : Nat) => y ((3 : Nat) + ((16 : Nat) + i))), AV.sint IntKind.u64 (n8 fun (i : Nat) => y ((3 : Nat) + ((24 : Nat) + i))), AV.sint IntKind.u64 (n8 fun (i : Nat) => y ((3 : Nat) + ((32 : Nat) + i))), AV.sint IntKind.u64 (n8 fun (i : Nat) => y ((3 : Nat) + ((40 : Nat) + i))), AV.nilSlice, AV.sint IntKind.u64 (((((((((0 : Int) + (↑(y (51 : Nat) % (256 : Nat)) : Int)) * (256 : Int) + (↑(y (52 : Nat) % (256 : Nat)) : Int)) * (256 : Int) + (↑(y (53 : Nat) % (256 : Nat)) : Int)) * (256 : Int) + (↑(y (54 : Nat) % (256 : Nat)) : Int)) * (256 : Int) + (↑(y (55 : Nat) % (256 : Nat)) : Int)) * (256 : Int) + (↑(y (56 : Nat) % (256 : Nat)) : Int)) * (256 : Int) + (↑(y (57 : Nat) % (256 : Nat)) : Int)) * (256 : Int) + (↑(y (58 : Nat) % (256 : Nat)) : Int)), AV.sint IntKind.i64 (((((((((0 : Int) + (↑(y (59 : Nat) % (256 : Nat)) : Int)) * (256 : Int) + (↑(y (60 : Nat) % (256 : Nat)) : Int)) * (256 : Int) + (↑(y (61 : Nat) % (256 : Nat)) : Int)) * (256 : Int) + (↑(y (62 : Nat) % (256 : Nat)) : Int)) * (256 : Int) + (↑(y (63 : Nat) % (256 : Nat)) : Int)) * (256 : Int) + (↑(y (64 : Nat) % (256 : Nat)) : Int)) * (256 : Int) + (↑(y (65 : Nat) % (256 : Nat)) : Int)) * (256 : Int) + (↑(y (66 : Nat) % (256 : Nat)) : Int))]]) [] ([])) (.stop (Hd.call (30 : Nat) [AV.agg [AV.sint IntKind.u8 (↑(y (0 : Nat) % (256 : Nat)) : Int), AV.sint IntKind.i64 (↑(y (1 : Nat) % (256 : Nat)) : Int), AV.sint IntKind.i64 (↑(y (2 : Nat) % (256 : Nat)) : Int), AV.sint IntKind.u64 (n8 fun (i : Nat) => y ((3 : Nat) + ((0 : Nat) + i))), AV.sint IntKind.u64 (n8 fun (i : Nat) => y ((3 : Nat) + ((8 : Nat) + i))), AV.sint IntKind.u64 (n8 fun (i : Nat) => y ((3 : Nat) + ((16 : Nat) + i))), AV.sint IntKind.u64 (n8 fun (i : Nat) => y ((3 : Nat) + ((24 : Nat) + i))), AV.sint IntKind.u64 (n8 fun (i : Nat) => y ((3 : Nat) + ((32 : Nat) + i))), AV.sint IntKind.u64 (n8 fun (i : Nat) => y ((3 : Nat) + ((40 : Nat) + i))), AV.nilSlice, AV.sint IntKind.u64 (((((((((0 : Int) + (↑(y (51 : Nat) % (256 : Nat)) : Int)) * (256 : Int) + (↑(y (52 : Nat) % (256 : Nat)) : Int)) * (256 : Int) + (↑(y (53 : Nat) % (256 : Nat)) : Int)) * (256 : Int) + (↑(y (54 : Nat) % (256 : Nat)) : Int)) * (256 : Int) + (↑(y (55 : Nat) % (256 : Nat)) : Int)) * (256 : Int) + (↑(y (56 : Nat) % (256 : Nat)) : Int)) * (256 : Int) + (↑(y (57 : Nat) % (256 : Nat)) : Int)) * (256 : Int) + (↑(y (58 : Nat) % (256 : Nat)) : Int)), AV.sint IntKind.i64 (IntKind.i64.wrap (((((((((0 : Int) + (↑(y (59 : Nat) % (256 : Nat)) : Int)) * (256 : Int) + (↑(y (60 : Nat) % (256 : Nat)) : Int)) * (256 : Int) + (↑(y (61 : Nat) % (256 : Nat)) : Int)) * (256 : Int) + (↑(y (62 : Nat) % (256 : Nat)) : Int)) * (256 : Int) + (↑(y (63 : Nat) % (256 : Nat)) : Int)) * (256 : Int) + (↑(y (64 : Nat) % (256 : Nat)) : Int)) * (256 : Int) + (↑(y (65 : Nat) % (256 : Nat)) : Int)) * (256 : Int) + (↑(y (66 : Nat) % (256 : Nat)) : Int)))]]) [] ([]))))))))))))))))))))))))))))))))))))))))))))))))))))))))))))))))))))))))))))))))))))))))))) (.stop (Hd.leaf (AV.tuple [AV.agg [AV.int IntKind.u8 (0 : Int), AV.int IntKind.i64 (0 : Int), AV.int IntKind.i64 (0 : Int), AV.int IntKind.u64 (0 : Int), AV.int IntKind.u64 (0 : Int), AV.int IntKind.u64 (0 : Int), AV.int IntKind.u64 (0 : Int), AV.int IntKind.u64 (0 : Int), AV.int IntKind.u64 (0 : Int), AV.nilSlice, AV.int IntKind.u64 (0 : Int), AV.int IntKind.i64 (0 : Int)], AV.int IntKind.i64 (5 : Int)])) [] ([])))) (.stop (Hd.call (30 : Nat) [AV.agg [AV.sint IntKind.u8 (↑(y (0 : Nat) % (256 : Nat)) : Int), AV.sint IntKind.i64 (↑(y (1 : Nat) % (256 : Nat)) : Int), AV.sint IntKind.i64 (↑(y (2 : Nat) % (256 : Nat)) : Int), AV.sint IntKind.u64 (n8 fun (i : Nat) => y ((3 : Nat) + ((0 : Nat) + i))), AV.sint IntKind.u64 (n8 fun (i : Nat) => y ((3 : Nat) + ((8 : Nat) + i))), AV.sint IntKind.u64 (n8 fun (i : Nat) => y ((3 : Nat) + ((16 : Nat) + i))), AV.sint IntKind.u64 (n8 fun (i : Nat) => y ((3 : Nat) + ((24 : Nat) + i))), AV.sint IntKind.u64 (n8 fun (i : Nat) => y ((3 : Nat) + ((32 : Nat) + i))), AV.sint IntKind.u64 (n8 fun (i : Nat) => y ((3 : Nat) + ((40 : Nat) + i))), AV.nilSlice, AV.int IntKind.u64 (0 : Int), AV.int IntKind.i64 (0 : Int)]]) [] ([])))))))))))))))))))))))))))))))))))))))) (by kernel_rfl) ?_
   refine hold_leftD0 (Classical.byContradiction fun h2 => by omega) ?_
   refine hold_leftD0 (Classical.byContradiction fun h2 => by omega) ?_
   refine hold_leftD0 (Classical.byContradiction fun h2 => by omega) ?_
   refine hold_leftD0 (Classical.byContradiction fun h2 => by omega) ?_
   refine hold_leftD0 (Classical.byContradiction fun h2 => by omega) ?_
   refine hold_leftD0 (Classical.byContradiction fun h2 => by omega) ?_
   refine hold_leftD0 (Classical.byContradiction fun h2 => by omega) ?_
   refine hold_leftD0 (Classical.byContradiction fun h2 => by omega) ?_
   refine hold_leftD0 (Classical.byContradiction fun h2 => by omega) ?_
   refine hold_leftD0 (Classical.byContradiction fun h2 => by omega) ?_
   refine hold_leftD0 (Classical.byContradiction fun h2 => by omega) ?_
   refine hold_leftD0 (Classical.byContradiction fun h2 => by omega) ?_
   refine hold_leftD0 (Classical.byContradiction fun h2 => by omega) ?_
   refine hold_leftD0 (Classical.byContradiction fun h2 => by omega) ?_
   refine hold_leftD0 (Classical.byContradiction fun h2 => by omega) ?_
   refine hold_leftD0 (Classical.byContradiction fun h2 => by omega) ?_
   refine hold_leftD0 (Classical.byContradiction fun h2 => by omega) ?_
   refine hold_leftD0 (Classical.byContradiction fun h2 => by omega) ?_
   refine hold_leftD0 (Classical.byContradiction fun h2 => by omega) ?_
   refine hold_leftD0 (Classical.byContradiction fun h2 => by omega) ?_
   refine hold_leftD0 (Classical.byContradiction fun h2 => by omega) ?_
   refine hold_leftD0 (Classical.byContradiction fun h2 => by omega) ?_
   refine hold_leftD0 (Classical.byContradiction fun h2 => by omega) ?_
   refine hold_leftD0 (Classical.byContradiction fun h2 => by omega) ?_
   refine hold_leftD0 (Classical.byContradiction fun h2 => by omega) ?_
   refine hold_leftD0 (Classical.byContradiction fun h2 => by exact h2 ⟨rfl, rfl, rfl⟩) ?_
   refine hold_leftD0 (Classical.byContradiction fun h2 => by omega) ?_
   refine hold_leftD0 (Classical.byContradiction fun h2 => by omega) ?_
   refine hold_leftD0 (Classical.byContradiction fun h2 => by omega) ?_
   refine hold_leftD0 (Classical.byContradiction fun h2 => by omega) ?_
   refine hold_leftD0 (Classical.byContradiction fun h2 => by omega) ?_
   refine hold_leftD0 (Classical.byContradiction fun h2 => by exact h2 ⟨rfl, rfl, rfl⟩) ?_
   refine hold_leftD0 (Classical.byContradiction fun h2 => by omega) ?_
   refine hold_leftD0 (Classical.byContradiction fun h2 => by omega) ?_
   refine hold_leftD0 (Classical.byContradiction fun h2 => by omega) ?_
   refine hold_leftD0 (Classical.byContradiction fun h2 => by exact h2 ⟨rfl, rfl, rfl⟩) ?_
   refine hold_forkD (fun h2 => ?_) (fun h2 => ?_)
   ·
    refine hold_leftD0 (Classical.byContradiction fun h3 => by omega) ?_
    refine hold_stop (fun hd hb => ?_)
    refine ok_call0 hd (eall _ _ (by omega)) rfl ?_
    rintro x G (⟨q, eq, am, rfl, rfl⟩ | ⟨rfl, rfl, am⟩ | ⟨rfl, rfl, am⟩) <;> first | refine ⟨rfl, fun g hg => (by rcases List.mem_singleton.1 hg with rfl; exact fun _ _ => rfl), ?_⟩ | refine ⟨rfl, fun g hg => (by cases hg), ?_⟩
    ·
     refine ok_sk (.stop [3]) (S := .stop (Hd.call (30 : Nat) [AV.agg [AV.sint IntKind.u8 (↑(y (0 : Nat) % (256 : Nat)) : Int), AV.sint IntKind.i64 (↑(y (1 : Nat) % (256 : Nat)) : Int), AV.sint IntKind.i64 (↑(y (2 : Nat) % (256 : Nat)) : Int), AV.sint IntKind.u64 (n8 fun (i : Nat) => y ((3 : Nat) + ((0 : Nat) + i))), AV.sint IntKind.u64 (n8 fun (i : Nat) => y ((3 : Nat) + ((8 : Nat) + i))), AV.sint IntKind.u64 (n8 fun (i : Nat) => y ((3 : Nat) + ((16 : Nat) + i))), AV.sint IntKind.u64 (n8 fun (i : Nat) => y ((3 : Nat) + ((24 : Nat) + i))), AV.sint IntKind.u64 (n8 fun (i : Nat) => y ((3 : Nat) + ((32 : Nat) + i))), AV.sint IntKind.u64 (n8 fun (i : Nat) => y ((3 : Nat) + ((40 : Nat) + i))), AV.gsl (3 : Nat) q, AV.int IntKind.u64 (0 : Int), AV.int IntKind.i64 (0 : Int)]]) [3] ([(Option.some (Blk.seq (3 : Nat) (14 : Nat) q (allF fun (i : Nat) => y ((51 : Nat) + i))), Option.some ((14 : Nat), q, allF fun (i : Nat) => y ((51 : Nat) + i)))])) (by kernel_rfl) ?_
     refine hold_stop (fun hd hb => ?_)
     first
       | (refine ok_call hd (mmay (msS y) q (msE y) (by omega)) (vrow (m := msS y) (d := evs q (msE y)) (by exact ⟨rfl, q, _, look_seq hb, Nat.le_refl _, fun i hi => ⟨rfl, rfl⟩⟩) (by exact ⟨rfl, rfl⟩) (by exact ⟨rfl, rfl⟩)) ?_
          rintro x G ⟨rfl, ⟨rfl, mm⟩ | ⟨rfl, mm⟩⟩ <;> refine ⟨rfl, fun g hg => (by cases hg), ?_⟩)
       | (refine ok_call hd (mmay (msS y) 0 (msE y) (by omega)) (vrow (m := msS y) (d := evs 0 (msE y)) (by exact rfl) (by exact ⟨rfl, rfl⟩) (by exact ⟨rfl, rfl⟩)) ?_
          rintro x G ⟨rfl, ⟨rfl, mm⟩ | ⟨rfl, mm⟩⟩ <;> refine ⟨rfl, fun g hg => (by cases hg), ?_⟩)
       | (refine ok_call hd (mmay (msK y) 0 (msE y) (by omega)) (vrow (m := msK y) (d := evs 0 (msE y)) (by exact rfl) (by exact ⟨rfl, rfl⟩) (by exact ⟨rfl, rfl⟩)) ?_
          rintro x G ⟨rfl, ⟨rfl, mm⟩ | ⟨rfl, mm⟩⟩ <;> refine ⟨rfl, fun g hg => (by cases hg), ?_⟩)
       | (refine ok_call hd (mmay (msW y) 0 (msE y) (by omega)) (vrow (m := msW y) (d := evs 0 (msE y)) (by exact rfl) (by exact ⟨rfl, rfl⟩) (by exact ⟨rfl, rfl⟩)) ?_
          rintro x G ⟨rfl, ⟨rfl, mm⟩ | ⟨rfl, mm⟩⟩
          · exact ((msW_no (by assumption) (by assumption)).1 mm).elim
          have mz := (msW_no (E := msE y) (by assumption) (by assumption)).2
          refine ⟨rfl, fun g hg => (by cases hg), ?_⟩)
     ·
      refine ok_sk (.stop [3]) (S := .stop (Hd.leaf (AV.tuple [AV.agg [AV.sint IntKind.u8 (↑(y (0 : Nat) % (256 : Nat)) : Int), AV.sint IntKind.i64 (↑(y (1 : Nat) % (256 : Nat)) : Int), AV.sint IntKind.i64 (↑(y (2 : Nat) % (256 : Nat)) : Int), AV.sint IntKind.u64 (n8 fun (i : Nat) => y ((3 : Nat) + ((0 : Nat) + i))), AV.sint IntKind.u64 (n8 fun (i : Nat) => y ((3 : Nat) + ((8 : Nat) + i))), AV.sint IntKind.u64 (n8 fun (i : Nat) => y ((3 : Nat) + ((16 : Nat) + i))), AV.sint IntKind.u64 (n8 fun (i : Nat) => y ((3 : Nat) + ((24 : Nat) + i))), AV.sint IntKind.u64 (n8 fun (i : Nat) => y ((3 : Nat) + ((32 : Nat) + i))), AV.sint IntKind.u64 (n8 fun (i : Nat) => y ((3 : Nat) + ((40 : Nat) + i))), AV.gsl (3 : Nat) q, AV.int IntKind.u64 (0 : Int), AV.int IntKind.i64 (0 : Int)], AV.int IntKind.i64 (0 : Int)])) [3] ([(Option.some (Blk.seq (3 : Nat) (14 : Nat) q (allF fun (i : Nat) => y ((51 : Nat) + i))), Option.some ((14 : Nat), q, allF fun (i : Nat) => y ((51 : Nat) + i)))])) (by kernel_rfl) ?_
      refine hold_stop (fun hd hb => ?_)
      exact ok_leafG hd hb (y := .tuple [.agg ((msS y).row (.gsl 0 q)), .int .i64 0]) (frow ⟨rfl, rfl⟩ ⟨rfl, rfl⟩ ⟨rfl, rfl⟩) (Nat.le_refl _) (fun i hi => ⟨rfl, rfl⟩) (.inl ⟨q, ⟨by omega, by assumption, mm⟩, rfl, rfl⟩)
     refine ok_sk (.stop []) (S := .stop (Hd.leaf (AV.tuple [AV.agg [AV.int IntKind.u8 (0 : Int), AV.int IntKind.i64 (0 : Int), AV.int IntKind.i64 (0 : Int), AV.int IntKind.u64 (0 : Int), AV.int IntKind.u64 (0 : Int), AV.int IntKind.u64 (0 : Int), AV.int IntKind.u64 (0 : Int), AV.int IntKind.u64 (0 : Int), AV.int IntKind.u64 (0 : Int), AV.nilSlice, AV.int IntKind.u64 (0 : Int), AV.int IntKind.i64 (0 : Int)], AV.int IntKind.i64 (5 : Int)])) [] ([])) (by kernel_rfl) ?_
     refine hold_stop (fun hd hb => ?_)
     exact ok_leaf0 hd rfl (.inr (.inr (.inr ⟨rfl, rfl, fun ⟨q', h⟩ => (by obtain rfl : q' = q := (by have e1 := h.1; omega); exact mm h.2.2), fun h => (by have e2 : ((y 0 % 256 : Nat) : Int) = 2 := h.2.1; omega)⟩)))
    ·
     refine ok_sk (.stop []) (S := .stop (Hd.leaf (AV.tuple [AV.agg [AV.int IntKind.u8 (0 : Int), AV.int IntKind.i64 (0 : Int), AV.int IntKind.i64 (0 : Int), AV.int IntKind.u64 (0 : Int), AV.int IntKind.u64 (0 : Int), AV.int IntKind.u64 (0 : Int), AV.int IntKind.u64 (0 : Int), AV.int IntKind.u64 (0 : Int), AV.int IntKind.u64 (0 : Int), AV.nilSlice, AV.int IntKind.u64 (0 : Int), AV.int IntKind.i64 (0 : Int)], AV.int IntKind.i64 (5 : Int)])) [] ([])) (by kernel_rfl) ?_
     refine hold_stop (fun hd hb => ?_)
     exact ok_leaf0 hd rfl (.inr (.inr (.inr ⟨rfl, rfl, fun ⟨q', h⟩ => am ⟨q', by have e1 := h.1; omega, fun j hj => ms_evs h.2.2 h.2.1 j hj⟩, fun h => (by have e2 : ((y 0 % 256 : Nat) : Int) = 2 := h.2.1; omega)⟩)))
    refine ok_sk (.stop []) (S := .stop (Hd.call (30 : Nat) [AV.agg [AV.sint IntKind.u8 (↑(y (0 : Nat) % (256 : Nat)) : Int), AV.sint IntKind.i64 (↑(y (1 : Nat) % (256 : Nat)) : Int), AV.sint IntKind.i64 (↑(y (2 : Nat) % (256 : Nat)) : Int), AV.sint IntKind.u64 (n8 fun (i : Nat) => y ((3 : Nat) + ((0 : Nat) + i))), AV.sint IntKind.u64 (n8 fun (i : Nat) => y ((3 : Nat) + ((8 : Nat) + i))), AV.sint IntKind.u64 (n8 fun (i : Nat) => y ((3 : Nat) + ((16 : Nat) + i))), AV.sint IntKind.u64 (n8 fun (i : Nat) => y ((3 : Nat) + ((24 : Nat) + i))), AV.sint IntKind.u64 (n8 fun (i : Nat) => y ((3 : Nat) + ((32 : Nat) + i))), AV.sint IntKind.u64 (n8 fun (i : Nat) => y ((3 : Nat) + ((40 : Nat) + i))), AV.nilSlice, AV.int IntKind.u64 (0 : Int), AV.int IntKind.i64 (0 : Int)]]) [] ([])) (by kernel_rfl) ?_
    refine hold_stop (fun hd hb => ?_)
    first
      | (refine ok_call hd (mmay (msS y) q (msE y) (by omega)) (vrow (m := msS y) (d := evs q (msE y)) (by exact ⟨rfl, q, _, look_seq hb, Nat.le_refl _, fun i hi => ⟨rfl, rfl⟩⟩) (by exact ⟨rfl, rfl⟩) (by exact ⟨rfl, rfl⟩)) ?_
         rintro x G ⟨rfl, ⟨rfl, mm⟩ | ⟨rfl, mm⟩⟩ <;> refine ⟨rfl, fun g hg => (by cases hg), ?_⟩)
      | (refine ok_call hd (mmay (msS y) 0 (msE y) (by omega)) (vrow (m := msS y) (d := evs 0 (msE y)) (by exact rfl) (by exact ⟨rfl, rfl⟩) (by exact ⟨rfl, rfl⟩)) ?_
         rintro x G ⟨rfl, ⟨rfl, mm⟩ | ⟨rfl, mm⟩⟩ <;> refine ⟨rfl, fun g hg => (by cases hg), ?_⟩)
      | (refine ok_call hd (mmay (msK y) 0 (msE y) (by omega)) (vrow (m := msK y) (d := evs 0 (msE y)) (by exact rfl) (by exact ⟨rfl, rfl⟩) (by exact ⟨rfl, rfl⟩)) ?_
         rintro x G ⟨rfl, ⟨rfl, mm⟩ | ⟨rfl, mm⟩⟩ <;> refine ⟨rfl, fun g hg => (by cases hg), ?_⟩)
      | (refine ok_call hd (mmay (msW y) 0 (msE y) (by omega)) (vrow (m := msW y) (d := evs 0 (msE y)) (by exact rfl) (by exact ⟨rfl, rfl⟩) (by exact ⟨rfl, rfl⟩)) ?_
         rintro x G ⟨rfl, ⟨rfl, mm⟩ | ⟨rfl, mm⟩⟩
         · exact ((msW_no (by assumption) (by assumption)).1 mm).elim
         have mz := (msW_no (E := msE y) (by assumption) (by assumption)).2
         refine ⟨rfl, fun g hg => (by cases hg), ?_⟩)
    ·
     refine ok_sk (.stop []) (S := .stop (Hd.leaf (AV.tuple [AV.agg [AV.sint IntKind.u8 (↑(y (0 : Nat) % (256 : Nat)) : Int), AV.sint IntKind.i64 (↑(y (1 : Nat) % (256 : Nat)) : Int), AV.sint IntKind.i64 (↑(y (2 : Nat) % (256 : Nat)) : Int), AV.sint IntKind.u64 (n8 fun (i : Nat) => y ((3 : Nat) + ((0 : Nat) + i))), AV.sint IntKind.u64 (n8 fun (i : Nat) => y ((3 : Nat) + ((8 : Nat) + i))), AV.sint IntKind.u64 (n8 fun (i : Nat) => y ((3 : Nat) + ((16 : Nat) + i))), AV.sint IntKind.u64 (n8 fun (i : Nat) => y ((3 : Nat) + ((24 : Nat) + i))), AV.sint IntKind.u64 (n8 fun (i : Nat) => y ((3 : Nat) + ((32 : Nat) + i))), AV.sint IntKind.u64 (n8 fun (i : Nat) => y ((3 : Nat) + ((40 : Nat) + i))), AV.nilSlice, AV.int IntKind.u64 (0 : Int), AV.int IntKind.i64 (0 : Int)], AV.int IntKind.i64 (0 : Int)])) [] ([])) (by kernel_rfl) ?_
     refine hold_stop (fun hd hb => ?_)
     exact ok_leaf (ns := []) (G := []) hd ⟨⟨frow (m := msS y) (d := .nilSlice) ⟨rfl, rfl⟩ ⟨rfl, rfl⟩ ⟨rfl, rfl⟩, trivial⟩, trivial, .nil⟩ (.inr (.inl ⟨⟨by omega, by assumption, mm⟩, rfl, rfl⟩))
    refine ok_sk (.stop []) (S := .stop (Hd.leaf (AV.tuple [AV.agg [AV.int IntKind.u8 (0 : Int), AV.int IntKind.i64 (0 : Int), AV.int IntKind.i64 (0 : Int), AV.int IntKind.u64 (0 : Int), AV.int IntKind.u64 (0 : Int), AV.int IntKind.u64 (0 : Int), AV.int IntKind.u64 (0 : Int), AV.int IntKind.u64 (0 : Int), AV.int IntKind.u64 (0 : Int), AV.nilSlice, AV.int IntKind.u64 (0 : Int), AV.int IntKind.i64 (0 : Int)], AV.int IntKind.i64 (5 : Int)])) [] ([])) (by kernel_rfl) ?_
    refine hold_stop (fun hd hb => ?_)
    exact ok_leaf0 hd rfl (.inr (.inr (.inr ⟨rfl, rfl, fun ⟨q', h⟩ => (by obtain rfl : q' = 0 := (by have e1 := h.1; omega); exact mm h.2.2), fun h => (by have e2 : ((y 0 % 256 : Nat) : Int) = 2 := h.2.1; omega)⟩)))
   refine hold_forkD (fun h3 => ?_) (fun h3 => ?_)
   ·
    refine hold_leftD0 (Classical.byContradiction fun h4 => by omega) ?_
    refine hold_forkD (fun h4 => ?_) (fun h4 => ?_)
    ·
     refine hold_rightD0 (fun h5 => by omega) ?_
     refine hold_leftD0 (Classical.byContradiction fun h5 => by omega) ?_
     refine hold_rightD0 (fun h5 => by omega) ?_
     refine hold_leftD0 (Classical.byContradiction fun h5 => by omega) ?_
     refine hold_leftD0 (Classical.byContradiction fun h5 => by omega) ?_
     refine hold_leftD0 (Classical.byContradiction fun h5 => by omega) ?_
     refine hold_leftD0 (Classical.byContradiction fun h5 => by omega) ?_
     refine hold_leftD0 (Classical.byContradiction fun h5 => by omega) ?_
     refine hold_leftD0 (Classical.byContradiction fun h5 => by omega) ?_
     refine hold_leftD0 (Classical.byContradiction fun h5 => by omega) ?_
     refine hold_leftD0 (Classical.byContradiction fun h5 => by omega) ?_
     refine hold_leftD0 (Classical.byContradiction fun h5 => by omega) ?_
     refine hold_leftD0 (Classical.byContradiction fun h5 => by omega) ?_
     refine hold_leftD0 (Classical.byContradiction fun h5 => by omega) ?_
     refine hold_leftD0 (Classical.byContradiction fun h5 => by omega) ?_
     refine hold_leftD0 (Classical.byContradiction fun h5 => by omega) ?_
     refine hold_leftD0 (Classical.byContradiction fun h5 => by omega) ?_
     refine hold_leftD0 (Classical.byContradiction fun h5 => by omega) ?_
     refine hold_leftD0 (Classical.byContradiction fun h5 => by omega) ?_
     refine hold_leftD0 (Classical.byContradiction fun h5 => by omega) ?_
     refine hold_leftD0 (Classical.byContradiction fun h5 => by omega) ?_
     refine hold_leftD0 (Classical.byContradiction fun h5 => by omega) ?_
     refine hold_leftD0 (Classical.byContradiction fun h5 => by omega) ?_
     refine hold_leftD0 (Classical.byContradiction fun h5 => by omega) ?_
     refine hold_leftD0 (Classical.byContradiction fun h5 => by omega) ?_
     refine hold_leftD0 (Classical.byContradiction fun h5 => by omega) ?_
     refine hold_leftD0 (Classical.byContradiction fun h5 => by omega) ?_
     refine hold_leftD0 (Classical.byContradiction fun h5 => by omega) ?_
     refine hold_leftD0 (Classical.byContradiction fun h5 => by omega) ?_
     refine hold_leftD0 (Classical.byContradiction fun h5 => by omega) ?_
     refine hold_leftD0 (Classical.byContradiction fun h5 => by omega) ?_
     refine hold_leftD0 (Classical.byContradiction fun h5 => by omega) ?_
     refine hold_leftD0 (Classical.byContradiction fun h5 => by omega) ?_
     refine hold_leftD0 (Classical.byContradiction fun h5 => by omega) ?_
     refine hold_leftD0 (Classical.byContradiction fun h5 => by omega) ?_
     refine hold_leftD0 (Classical.byContradiction fun h5 => by omega) ?_
     refine hold_leftD0 (Classical.byContradiction fun h5 => by omega) ?_
     refine hold_leftD0 (Classical.byContradiction fun h5 => by omega) ?_
     refine hold_leftD0 (Classical.byContradiction fun h5 => by omega) ?_
     refine hold_leftD0 (Classical.byContradiction fun h5 => by omega) ?_
     refine hold_leftD0 (Classical.byContradiction fun h5 => by omega) ?_
     refine hold_leftD0 (Classical.byContradiction fun h5 => by omega) ?_
     refine hold_leftD0 (Classical.byContradiction fun h5 => by omega) ?_
     refine hold_rightD0 (fun h5 => by omega) ?_
     refine hold_rightD0 (fun h5 => by omega) ?_
     refine hold_leftD0 (Classical.byContradiction fun h5 => by omega) ?_
     refine hold_rightD0 (fun h5 => by omega) ?_
     refine hold_leftD0 (Classical.byContradiction fun h5 => by omega) ?_
     refine hold_leftD0 (Classical.byContradiction fun h5 => by omega) ?_
     refine hold_leftD0 (Classical.byContradiction fun h5 => by omega) ?_
     refine hold_leftD0 (Classical.byContradiction fun h5 => by omega) ?_
     refine hold_leftD0 (Classical.byContradiction fun h5 => by omega) ?_
     refine hold_leftD0 (Classical.byContradiction fun h5 => by omega) ?_
     refine hold_leftD0 (Classical.byContradiction fun h5 => by omega) ?_
     refine hold_leftD0 (Classical.byContradiction fun h5 => by omega) ?_
     refine hold_leftD0 (Classical.byContradiction fun h5 => by omega) ?_
     refine hold_leftD0 (Classical.byContradiction fun h5 => by omega) ?_
     refine hold_leftD0 (Classical.byContradiction fun h5 => by omega) ?_
     refine hold_leftD0 (Classical.byContradiction fun h5 => by omega) ?_
     refine hold_leftD0 (Classical.byContradiction fun h5 => by omega) ?_
     refine hold_leftD0 (Classical.byContradiction fun h5 => by omega) ?_
     refine hold_leftD0 (Classical.byContradiction fun h5 => by omega) ?_
     refine hold_leftD0 (Classical.byContradiction fun h5 => by omega) ?_
     refine hold_leftD0 (Classical.byContradiction fun h5 => by omega) ?_
     refine hold_leftD0 (Classical.byContradiction fun h5 => by omega) ?_
     refine hold_leftD0 (Classical.byContradiction fun h5 => by omega) ?_
     refine hold_leftD0 (Classical.byContradiction fun h5 => by omega) ?_
     refine hold_leftD0 (Classical.byContradiction fun h5 => by omega) ?_
     refine hold_leftD0 (Classical.byContradiction fun h5 => by omega) ?_
     refine hold_leftD0 (Classical.byContradiction fun h5 => by omega) ?_
     refine hold_leftD0 (Classical.byContradiction fun h5 => by omega) ?_
     refine hold_leftD0 (Classical.byContradiction fun h5 => by omega) ?_
     refine hold_leftD0 (Classical.byContradiction fun h5 => by omega) ?_
     refine hold_leftD0 (Classical.byContradiction fun h5 => by omega) ?_
     refine hold_leftD0 (Classical.byContradiction fun h5 => by omega) ?_
     refine hold_leftD0 (Classical.byContradiction fun h5 => by omega) ?_
     refine hold_leftD0 (Classical.byContradiction fun h5 => by omega) ?_
     refine hold_leftD0 (Classical.byContradiction fun h5 => by omega) ?_
     refine hold_leftD0 (Classical.byContradiction fun h5 => by omega) ?_
     refine hold_leftD0 (Classical.byContradiction fun h5 => by omega) ?_
     refine hold_leftD0 (Classical.byContradiction fun h5 => by omega) ?_
     refine hold_leftD0 (Classical.byContradiction fun h5 => by omega) ?_
     refine hold_leftD0 (Classical.byContradiction fun h5 => by omega) ?_
     refine hold_leftD0 (Classical.byContradiction fun h5 => by omega) ?_
     refine hold_leftD0 (Classical.byContradiction fun h5 => by omega) ?_
     refine hold_leftD0 (Classical.byContradiction fun h5 => by omega) ?_
     refine hold_leftD0 (Classical.byContradiction fun h5 => by omega) ?_
     refine hold_rightD0 (fun h5 => by omega) ?_
     refine hold_forkD (fun h5 => ?_) (fun h5 => ?_)
     ·
      refine hold_stop (fun hd hb => ?_)
      first
        | (refine ok_call hd (mmay (msS y) q (msE y) (by omega)) (vrow (m := msS y) (d := evs q (msE y)) (by exact ⟨rfl, q, _, look_seq hb, Nat.le_refl _, fun i hi => ⟨rfl, rfl⟩⟩) (by exact ⟨rfl, rfl⟩) (by exact ⟨rfl, rfl⟩)) ?_
           rintro x G ⟨rfl, ⟨rfl, mm⟩ | ⟨rfl, mm⟩⟩ <;> refine ⟨rfl, fun g hg => (by cases hg), ?_⟩)
        | (refine ok_call hd (mmay (msS y) 0 (msE y) (by omega)) (vrow (m := msS y) (d := evs 0 (msE y)) (by exact rfl) (by exact ⟨rfl, rfl⟩) (by exact ⟨rfl, rfl⟩)) ?_
           rintro x G ⟨rfl, ⟨rfl, mm⟩ | ⟨rfl, mm⟩⟩ <;> refine ⟨rfl, fun g hg => (by cases hg), ?_⟩)
        | (refine ok_call hd (mmay (msK y) 0 (msE y) (by omega)) (vrow (m := msK y) (d := evs 0 (msE y)) (by exact rfl) (by exact ⟨rfl, rfl⟩) (by exact ⟨rfl, rfl⟩)) ?_
           rintro x G ⟨rfl, ⟨rfl, mm⟩ | ⟨rfl, mm⟩⟩ <;> refine ⟨rfl, fun g hg => (by cases hg), ?_⟩)
        | (refine ok_call hd (mmay (msW y) 0 (msE y) (by omega)) (vrow (m := msW y) (d := evs 0 (msE y)) (by exact rfl) (by exact ⟨rfl, rfl⟩) (by exact ⟨rfl, rfl⟩)) ?_
           rintro x G ⟨rfl, ⟨rfl, mm⟩ | ⟨rfl, mm⟩⟩
           · exact ((msW_no (by assumption) (by assumption)).1 mm).elim
           have mz := (msW_no (E := msE y) (by assumption) (by assumption)).2
           refine ⟨rfl, fun g hg => (by cases hg), ?_⟩)
      ·
       refine ok_sk (.stop []) (S := .stop (Hd.leaf (AV.tuple [AV.agg [AV.sint IntKind.u8 (↑(y (0 : Nat) % (256 : Nat)) : Int), AV.sint IntKind.i64 (↑(y (1 : Nat) % (256 : Nat)) : Int), AV.sint IntKind.i64 (↑(y (2 : Nat) % (256 : Nat)) : Int), AV.sint IntKind.u64 (n8 fun (i : Nat) => y ((3 : Nat) + ((0 : Nat) + i))), AV.sint IntKind.u64 (n8 fun (i : Nat) => y ((3 : Nat) + ((8 : Nat) + i))), AV.sint IntKind.u64 (n8 fun (i : Nat) => y ((3 : Nat) + ((16 : Nat) + i))), AV.sint IntKind.u64 (n8 fun (i : Nat) => y ((3 : Nat) + ((24 : Nat) + i))), AV.sint IntKind.u64 (n8 fun (i : Nat) => y ((3 : Nat) + ((32 : Nat) + i))), AV.sint IntKind.u64 (n8 fun (i : Nat) => y ((3 : Nat) + ((40 : Nat) + i))), AV.nilSlice, AV.sint IntKind.u64 (((((((((0 : Int) + (↑(y (51 : Nat) % (256 : Nat)) : Int)) * (256 : Int) + (↑(y (52 : Nat) % (256 : Nat)) : Int)) * (256 : Int) + (↑(y (53 : Nat) % (256 : Nat)) : Int)) * (256 : Int) + (↑(y (54 : Nat) % (256 : Nat)) : Int)) * (256 : Int) + (↑(y (55 : Nat) % (256 : Nat)) : Int)) * (256 : Int) + (↑(y (56 : Nat) % (256 : Nat)) : Int)) * (256 : Int) + (↑(y (57 : Nat) % (256 : Nat)) : Int)) * (256 : Int) + (↑(y (58 : Nat) % (256 : Nat)) : Int)), AV.sint IntKind.i64 (((((((((0 : Int) + (↑(y (59 : Nat) % (256 : Nat)) : Int)) * (256 : Int) + (↑(y (60 : Nat) % (256 : Nat)) : Int)) * (256 : Int) + (↑(y (61 : Nat) % (256 : Nat)) : Int)) * (256 : Int) + (↑(y (62 : Nat) % (256 : Nat)) : Int)) * (256 : Int) + (↑(y (63 : Nat) % (256 : Nat)) : Int)) * (256 : Int) + (↑(y (64 : Nat) % (256 : Nat)) : Int)) * (256 : Int) + (↑(y (65 : Nat) % (256 : Nat)) : Int)) * (256 : Int) + (↑(y (66 : Nat) % (256 : Nat)) : Int))], AV.int IntKind.i64 (0 : Int)])) [] ([])) (by kernel_rfl) ?_
       refine hold_stop (fun hd hb => ?_)
       exact ok_leaf (ns := []) (G := []) hd ⟨⟨frow (m := msK y) (d := .nilSlice) ⟨rfl, rfl⟩ ⟨rfl, rfl⟩ ⟨rfl, rfl⟩, trivial⟩, trivial, .nil⟩ (.inr (.inr (.inl ⟨⟨by omega, by assumption, mm⟩, rfl, rfl⟩)))
      refine ok_sk (.stop []) (S := .stop (Hd.leaf (AV.tuple [AV.agg [AV.int IntKind.u8 (0 : Int), AV.int IntKind.i64 (0 : Int), AV.int IntKind.i64 (0 : Int), AV.int IntKind.u64 (0 : Int), AV.int IntKind.u64 (0 : Int), AV.int IntKind.u64 (0 : Int), AV.int IntKind.u64 (0 : Int), AV.int IntKind.u64 (0 : Int), AV.int IntKind.u64 (0 : Int), AV.nilSlice, AV.int IntKind.u64 (0 : Int), AV.int IntKind.i64 (0 : Int)], AV.int IntKind.i64 (5 : Int)])) [] ([])) (by kernel_rfl) ?_
      refine hold_stop (fun hd hb => ?_)
      exact ok_leaf0 hd rfl (.inr (.inr (.inr ⟨rfl, rfl, fun ⟨q', h⟩ => (by have e2 : ((y 0 % 256 : Nat) : Int) = 1 := h.2.1; omega), fun h => mm h.2.2⟩)))
     refine hold_stop (fun hd hb => ?_)
     first
       | (refine ok_call hd (mmay (msS y) q (msE y) (by omega)) (vrow (m := msS y) (d := evs q (msE y)) (by exact ⟨rfl, q, _, look_seq hb, Nat.le_refl _, fun i hi => ⟨rfl, rfl⟩⟩) (by exact ⟨rfl, rfl⟩) (by exact ⟨rfl, rfl⟩)) ?_
          rintro x G ⟨rfl, ⟨rfl, mm⟩ | ⟨rfl, mm⟩⟩ <;> refine ⟨rfl, fun g hg => (by cases hg), ?_⟩)
       | (refine ok_call hd (mmay (msS y) 0 (msE y) (by omega)) (vrow (m := msS y) (d := evs 0 (msE y)) (by exact rfl) (by exact ⟨rfl, rfl⟩) (by exact ⟨rfl, rfl⟩)) ?_
          rintro x G ⟨rfl, ⟨rfl, mm⟩ | ⟨rfl, mm⟩⟩ <;> refine ⟨rfl, fun g hg => (by cases hg), ?_⟩)
       | (refine ok_call hd (mmay (msK y) 0 (msE y) (by omega)) (vrow (m := msK y) (d := evs 0 (msE y)) (by exact rfl) (by exact ⟨rfl, rfl⟩) (by exact ⟨rfl, rfl⟩)) ?_
          rintro x G ⟨rfl, ⟨rfl, mm⟩ | ⟨rfl, mm⟩⟩ <;> refine ⟨rfl, fun g hg => (by cases hg), ?_⟩)
       | (refine ok_call hd (mmay (msW y) 0 (msE y) (by omega)) (vrow (m := msW y) (d := evs 0 (msE y)) (by exact rfl) (by exact ⟨rfl, rfl⟩) (by exact ⟨rfl, rfl⟩)) ?_
          rintro x G ⟨rfl, ⟨rfl, mm⟩ | ⟨rfl, mm⟩⟩
          · exact ((msW_no (by assumption) (by assumption)).1 mm).elim
          have mz := (msW_no (E := msE y) (by assumption) (by assumption)).2
          refine ⟨rfl, fun g hg => (by cases hg), ?_⟩)
     refine ok_sk (.stop []) (S := .stop (Hd.leaf (AV.tuple [AV.agg [AV.int IntKind.u8 (0 : Int), AV.int IntKind.i64 (0 : Int), AV.int IntKind.i64 (0 : Int), AV.int IntKind.u64 (0 : Int), AV.int IntKind.u64 (0 : Int), AV.int IntKind.u64 (0 : Int), AV.int IntKind.u64 (0 : Int), AV.int IntKind.u64 (0 : Int), AV.int IntKind.u64 (0 : Int), AV.nilSlice, AV.int IntKind.u64 (0 : Int), AV.int IntKind.i64 (0 : Int)], AV.int IntKind.i64 (5 : Int)])) [] ([])) (by kernel_rfl) ?_
     refine hold_stop (fun hd hb => ?_)
     exact ok_leaf0 hd rfl (.inr (.inr (.inr ⟨rfl, rfl, fun ⟨q', h⟩ => (by have e2 : ((y 0 % 256 : Nat) : Int) = 1 := h.2.1; omega), fun h => mz h.2.2⟩)))
    refine hold_stop (fun hd hb => ?_)
    exact ok_leaf0 hd rfl (.inr (.inr (.inr ⟨rfl, rfl, fun ⟨q', h⟩ => (by have e1 := h.1; have e2 : ((y 0 % 256 : Nat) : Int) = 1 := h.2.1; omega), fun h => (by have e1 := h.1; have e2 : ((y 0 % 256 : Nat) : Int) = 2 := h.2.1; omega)⟩)))
   refine hold_stop (fun hd hb => ?_)
   first
     | (refine ok_call hd (mmay (msS y) q (msE y) (by omega)) (vrow (m := msS y) (d := evs q (msE y)) (by exact ⟨rfl, q, _, look_seq hb, Nat.le_refl _, fun i hi => ⟨rfl, rfl⟩⟩) (by exact ⟨rfl, rfl⟩) (by exact ⟨rfl, rfl⟩)) ?_
        rintro x G ⟨rfl, ⟨rfl, mm⟩ | ⟨rfl, mm⟩⟩ <;> refine ⟨rfl, fun g hg => (by cases hg), ?_⟩)
     | (refine ok_call hd (mmay (msS y) 0 (msE y) (by omega)) (vrow (m := msS y) (d := evs 0 (msE y)) (by exact rfl) (by exact ⟨rfl, rfl⟩) (by exact ⟨rfl, rfl⟩)) ?_
        rintro x G ⟨rfl, ⟨rfl, mm⟩ | ⟨rfl, mm⟩⟩ <;> refine ⟨rfl, fun g hg => (by cases hg), ?_⟩)
     | (refine ok_call hd (mmay (msK y) 0 (msE y) (by omega)) (vrow (m := msK y) (d := evs 0 (msE y)) (by exact rfl) (by exact ⟨rfl, rfl⟩) (by exact ⟨rfl, rfl⟩)) ?_
        rintro x G ⟨rfl, ⟨rfl, mm⟩ | ⟨rfl, mm⟩⟩ <;> refine ⟨rfl, fun g hg => (by cases hg), ?_⟩)
     | (refine ok_call hd (mmay (msW y) 0 (msE y) (by omega)) (vrow (m := msW y) (d := evs 0 (msE y)) (by exact rfl) (by exact ⟨rfl, rfl⟩) (by exact ⟨rfl, rfl⟩)) ?_
        rintro x G ⟨rfl, ⟨rfl, mm⟩ | ⟨rfl, mm⟩⟩
        · exact ((msW_no (by assumption) (by assumption)).1 mm).elim
        have mz := (msW_no (E := msE y) (by assumption) (by assumption)).2
        refine ⟨rfl, fun g hg => (by cases hg), ?_⟩)
   ·
    refine ok_sk (.stop []) (S := .stop (Hd.leaf (AV.tuple [AV.agg [AV.sint IntKind.u8 (↑(y (0 : Nat) % (256 : Nat)) : Int), AV.sint IntKind.i64 (↑(y (1 : Nat) % (256 : Nat)) : Int), AV.sint IntKind.i64 (↑(y (2 : Nat) % (256 : Nat)) : Int), AV.sint IntKind.u64 (n8 fun (i : Nat) => y ((3 : Nat) + ((0 : Nat) + i))), AV.sint IntKind.u64 (n8 fun (i : Nat) => y ((3 : Nat) + ((8 : Nat) + i))), AV.sint IntKind.u64 (n8 fun (i : Nat) => y ((3 : Nat) + ((16 : Nat) + i))), AV.sint IntKind.u64 (n8 fun (i : Nat) => y ((3 : Nat) + ((24 : Nat) + i))), AV.sint IntKind.u64 (n8 fun (i : Nat) => y ((3 : Nat) + ((32 : Nat) + i))), AV.sint IntKind.u64 (n8 fun (i : Nat) => y ((3 : Nat) + ((40 : Nat) + i))), AV.nilSlice, AV.int IntKind.u64 (0 : Int), AV.int IntKind.i64 (0 : Int)], AV.int IntKind.i64 (0 : Int)])) [] ([])) (by kernel_rfl) ?_
    refine hold_stop (fun hd hb => ?_)
    exact absurd (ms_kind mm).1 (by show ¬ (((y 0 % 256 : Nat) : Int) = 1 ∨ ((y 0 % 256 : Nat) : Int) = 2); omega)
   refine ok_sk (.stop []) (S := .stop (Hd.leaf (AV.tuple [AV.agg [AV.int IntKind.u8 (0 : Int), AV.int IntKind.i64 (0 : Int), AV.int IntKind.i64 (0 : Int), AV.int IntKind.u64 (0 : Int), AV.int IntKind.u64 (0 : Int), AV.int IntKind.u64 (0 : Int), AV.int IntKind.u64 (0 : Int), AV.int IntKind.u64 (0 : Int), AV.int IntKind.u64 (0 : Int), AV.nilSlice, AV.int IntKind.u64 (0 : Int), AV.int IntKind.i64 (0 : Int)], AV.int IntKind.i64 (5 : Int)])) [] ([])) (by kernel_rfl) ?_
   refine hold_stop (fun hd hb => ?_)
   exact ok_leaf0 hd rfl (.inr (.inr (.inr ⟨rfl, rfl, fun ⟨q', h⟩ => (by have e1 := h.1; have e2 : ((y 0 % 256 : Nat) : Int) = 1 := h.2.1; omega), fun h => (by have e1 := h.1; have e2 : ((y 0 % 256 : Nat) : Int) = 2 := h.2.1; omega)⟩)))
  refine ok_sk (.stop []) (S := .stop (Hd.leaf (AV.tuple [AV.agg [AV.int IntKind.u8 (0 : Int), AV.int IntKind.i64 (0 : Int), AV.int IntKind.i64 (0 : Int), AV.int IntKind.u64 (0 : Int), AV.int IntKind.u64 (0 : Int), AV.int IntKind.u64 (0 : Int), AV.int IntKind.u64 (0 : Int), AV.int IntKind.u64 (0 : Int), AV.int IntKind.u64 (0 : Int), AV.nilSlice, AV.int IntKind.u64 (0 : Int), AV.int IntKind.i64 (0 : Int)], AV.int IntKind.i64 (5 : Int)])) [] ([])) (by kernel_rfl) ?_
  refine hold_stop (fun hd hb => ?_)
  exact ok_leaf0 hd rfl (.inr (.inr (.inr ⟨rfl, rfl, fun ⟨q', h⟩ => vv (may_vec (.inl h.2.2)), fun h => vv (may_vec (.inr h.2.2))⟩)))
end Go.Proofs.Ytjihbjjekhncaaa
namespace Go.Proofs.Ytjihbjjekhncaaa
open Go Go.RowKit Sv
set_option linter.unusedVariables false
set_option maxRecDepth 100000
set_option maxHeartbeats 0
theorem ev_eq {a b : EvI} (h : a.o = b.o ∧ a.s = b.s ∧ a.d0 = b.d0 ∧ a.d1 = b.d1 ∧ a.d2 = b.d2 ∧ a.d3 = b.d3 ∧ a.d4 = b.d4 ∧ a.d5 = b.d5 ∧ a.k = b.k ∧ a.n = b.n ∧ a.t = b.t ∧ a.a = b.a ∧ a.r = b.r ∧ a.f = b.f) : a = b := by
  cases a
  cases b
  simp only at h
  obtain ⟨rfl, rfl, rfl, rfl, rfl, rfl, rfl, rfl, rfl, rfl, rfl, rfl, rfl, rfl⟩ := h
  rfl
theorem ev_ne {a b : EvI} (h : ¬ (a.o = b.o ∧ a.s = b.s ∧ a.d0 = b.d0 ∧ a.d1 = b.d1 ∧ a.d2 = b.d2 ∧ a.d3 = b.d3 ∧ a.d4 = b.d4 ∧ a.d5 = b.d5 ∧ a.k = b.k ∧ a.n = b.n ∧ a.t = b.t ∧ a.a = b.a ∧ a.r = b.r ∧ a.f = b.f)) : ¬ a = b := fun e => h (by subst e; exact ⟨rfl, rfl, rfl, rfl, rfl, rfl, rfl, rfl, rfl, rfl, rfl, rfl, rfl, rfl⟩)
def samS (n k : Nat) (E F : Nat → EvI) (q : Nat) : List AV := [evs n E, evs k F, .top, .top, .bool false, .sint .i64 q, .top, .top, .top, .top, .top, .top, .top, .top, .top, .top, .top, .top, .top, .top, .top, .top, .top, .top, .top, .top]
theorem samUp {E F : Nat → EvI} {q : Nat} (h : ∀ j, j < q → E j = F j) (k : E q = F q) : ∀ j, j < q + 1 → E j = F j := fun j hj => by
  by_cases e : j < q
  · exact h j e
  · obtain rfl : j = q := by omega
    exact k
theorem esame (n k : Nat) (E F : Nat → EvI) (hn : n ≤ 1099511627776) (hk : k ≤ 1099511627776) : Runs Try.prog 20 [evs n E, evs k F] fun x G => G = [] ∧ ((x = .bool true ∧ n = k ∧ ∀ j, j < n → E j = F j) ∨ (x = .bool false ∧ ¬ (n = k ∧ ∀ j, j < n → E j = F j))) := by
  refine runs_treeF plain mixed (fun g => false) (fun _ => true) 60 ?_
  refine ok_sk (.both (.stop []) (.stop [])) (S := .fork (decide ((↑n : Int) = (↑k : Int))) (.stop (Hd.loop (54 : Nat) [AV.data (14 : Nat) n fun (i : Nat) => (E i).row, AV.data (14 : Nat) k fun (i : Nat) => (F i).row, AV.tuple [], AV.tuple [], AV.bool Bool.false, AV.int IntKind.i64 (0 : Int), AV.data (14 : Nat) n fun (i : Nat) => (E i).row, AV.sint IntKind.i64 (↑n : Int), AV.data (14 : Nat) k fun (i : Nat) => (F i).row, AV.sint IntKind.i64 (↑k : Int), AV.bool Bool.false, AV.tuple [], AV.tuple [], AV.tuple [], AV.tuple [], AV.tuple [], AV.tuple [], AV.tuple [], AV.tuple [], AV.tuple [], AV.tuple [], AV.tuple [], AV.tuple [], AV.tuple [], AV.tuple [], AV.tuple []]) [] ([])) (.stop (Hd.leaf (AV.bool Bool.false)) [] ([]))) (by kernel_rfl) ?_
  refine hold_forkD (fun h0 => ?_) (fun h0 => ?_)
  ·
   refine hold_stop (fun hd hb => ?_)
   refine ok_loop hd (X := {q : Nat // q ≤ n ∧ ∀ j, j < q → E j = F j}) (fun q => samS n k E F q.1) (fun _ => []) (fun q => n - q.1) [] ⟨0, by omega, fun j hj => absurd hj (Nat.not_lt_zero j)⟩ ⟨by simp [samS, evs, fitsA, fitA, nf], trivial, .nil⟩ ?_
   rintro ⟨q, q1, qm⟩
   refine ok_sk (.both (.l (.l (.both (.l (.stop [])) (.stop [])))) (.stop [])) (S := .fork (decide ((↑q : Int) < (↑n : Int))) (.left (decide ((0 : Int) ≤ (↑q : Int) ∧ (↑q : Int).toNat < n)) (.left (decide ((0 : Int) ≤ (↑q : Int) ∧ (↑q : Int).toNat < k)) (.fork (@decide ((E (↑q : Int).toNat).o = (F (↑q : Int).toNat).o ∧ (E (↑q : Int).toNat).s = (F (↑q : Int).toNat).s ∧ (E (↑q : Int).toNat).d0 = (F (↑q : Int).toNat).d0 ∧ (E (↑q : Int).toNat).d1 = (F (↑q : Int).toNat).d1 ∧ (E (↑q : Int).toNat).d2 = (F (↑q : Int).toNat).d2 ∧ (E (↑q : Int).toNat).d3 = (F (↑q : Int).toNat).d3 ∧ (E (↑q : Int).toNat).d4 = (F (↑q : Int).toNat).d4 ∧ (E (↑q : Int).toNat).d5 = (F (↑q : Int).toNat).d5 ∧ (E (↑q : Int).toNat).k = (F (↑q : Int).toNat).k ∧ (E (↑q : Int).toNat).n = (F (↑q : Int).toNat).n ∧ (E (↑q : Int).toNat).t = (F (↑q : Int).toNat).t ∧ (E (↑q : Int).toNat).a = (F (↑q : Int).toNat).a ∧ (E (↑q : Int).toNat).r = (F (↑q : Int).toNat).r ∧ (E (↑q : Int).toNat).f = (F (↑q : Int).toNat).f) (Classical.propDecidable _)) (.left (decide ((-9223372036854775808 : Int) ≤ (↑q : Int) + (1 : Int) ∧ (↑q : Int) + (1 : Int) ≤ (9223372036854775807 : Int))) (.stop (Hd.again (again' (fun (q : { q : Nat // q ≤ n ∧ ∀ (j : Nat), j < q → E j = F j }) => samS n k E F q.val) (fun (x : { q : Nat // q ≤ n ∧ ∀ (j : Nat), j < q → E j = F j }) => []) (fun (q : { q : Nat // q ≤ n ∧ ∀ (j : Nat), j < q → E j = F j }) => n - q.val) ⟨q, ⟨q1, qm⟩⟩) [AV.data (14 : Nat) n fun (i : Nat) => (E i).row, AV.data (14 : Nat) k fun (i : Nat) => (F i).row, AV.top, AV.top, AV.bool Bool.false, AV.sint IntKind.i64 ((↑q : Int) + (1 : Int)), AV.top, AV.top, AV.top, AV.top, AV.top, AV.sint IntKind.i64 (↑q : Int), AV.data (14 : Nat) n fun (i : Nat) => (E i).row, AV.sint IntKind.i64 (↑n : Int), AV.bool Bool.true, AV.sint IntKind.i64 (↑q : Int), AV.sint IntKind.i64 ((↑q : Int) + (1 : Int)), AV.data (14 : Nat) n fun (i : Nat) => (E i).row, AV.sint IntKind.i64 (↑q : Int), AV.dptr [AV.sint IntKind.i64 (E (↑q : Int).toNat).o, AV.sint IntKind.u64 (E (↑q : Int).toNat).s, AV.sint IntKind.u64 (E (↑q : Int).toNat).d0, AV.sint IntKind.u64 (E (↑q : Int).toNat).d1, AV.sint IntKind.u64 (E (↑q : Int).toNat).d2, AV.sint IntKind.u64 (E (↑q : Int).toNat).d3, AV.sint IntKind.u64 (E (↑q : Int).toNat).d4, AV.sint IntKind.u64 (E (↑q : Int).toNat).d5, AV.sint IntKind.u8 (E (↑q : Int).toNat).k, AV.sint IntKind.u64 (E (↑q : Int).toNat).n, AV.sint IntKind.i64 (E (↑q : Int).toNat).t, AV.sint IntKind.i64 (E (↑q : Int).toNat).a, AV.sint IntKind.u64 (E (↑q : Int).toNat).r, AV.sint IntKind.u64 (E (↑q : Int).toNat).f], AV.agg [AV.sint IntKind.i64 (E (↑q : Int).toNat).o, AV.sint IntKind.u64 (E (↑q : Int).toNat).s, AV.sint IntKind.u64 (E (↑q : Int).toNat).d0, AV.sint IntKind.u64 (E (↑q : Int).toNat).d1, AV.sint IntKind.u64 (E (↑q : Int).toNat).d2, AV.sint IntKind.u64 (E (↑q : Int).toNat).d3, AV.sint IntKind.u64 (E (↑q : Int).toNat).d4, AV.sint IntKind.u64 (E (↑q : Int).toNat).d5, AV.sint IntKind.u8 (E (↑q : Int).toNat).k, AV.sint IntKind.u64 (E (↑q : Int).toNat).n, AV.sint IntKind.i64 (E (↑q : Int).toNat).t, AV.sint IntKind.i64 (E (↑q : Int).toNat).a, AV.sint IntKind.u64 (E (↑q : Int).toNat).r, AV.sint IntKind.u64 (E (↑q : Int).toNat).f], AV.data (14 : Nat) k fun (i : Nat) => (F i).row, AV.sint IntKind.i64 (↑q : Int), AV.dptr [AV.sint IntKind.i64 (F (↑q : Int).toNat).o, AV.sint IntKind.u64 (F (↑q : Int).toNat).s, AV.sint IntKind.u64 (F (↑q : Int).toNat).d0, AV.sint IntKind.u64 (F (↑q : Int).toNat).d1, AV.sint IntKind.u64 (F (↑q : Int).toNat).d2, AV.sint IntKind.u64 (F (↑q : Int).toNat).d3, AV.sint IntKind.u64 (F (↑q : Int).toNat).d4, AV.sint IntKind.u64 (F (↑q : Int).toNat).d5, AV.sint IntKind.u8 (F (↑q : Int).toNat).k, AV.sint IntKind.u64 (F (↑q : Int).toNat).n, AV.sint IntKind.i64 (F (↑q : Int).toNat).t, AV.sint IntKind.i64 (F (↑q : Int).toNat).a, AV.sint IntKind.u64 (F (↑q : Int).toNat).r, AV.sint IntKind.u64 (F (↑q : Int).toNat).f], AV.agg [AV.sint IntKind.i64 (F (↑q : Int).toNat).o, AV.sint IntKind.u64 (F (↑q : Int).toNat).s, AV.sint IntKind.u64 (F (↑q : Int).toNat).d0, AV.sint IntKind.u64 (F (↑q : Int).toNat).d1, AV.sint IntKind.u64 (F (↑q : Int).toNat).d2, AV.sint IntKind.u64 (F (↑q : Int).toNat).d3, AV.sint IntKind.u64 (F (↑q : Int).toNat).d4, AV.sint IntKind.u64 (F (↑q : Int).toNat).d5, AV.sint IntKind.u8 (F (↑q : Int).toNat).k, AV.sint IntKind.u64 (F (↑q : Int).toNat).n, AV.sint IntKind.i64 (F (↑q : Int).toNat).t, AV.sint IntKind.i64 (F (↑q : Int).toNat).a, AV.sint IntKind.u64 (F (↑q : Int).toNat).r, AV.sint IntKind.u64 (F (↑q : Int).toNat).f], AV.bool Bool.false]) [] ([]))) (.stop (Hd.leaf (AV.bool Bool.false)) [] ([]))))) (.stop (Hd.leaf (AV.bool Bool.true)) [] ([]))) (by kernel_rfl) ?_
   refine hold_forkD (fun h2 => ?_) (fun h2 => ?_)
   ·
    refine hold_leftD0 (Classical.byContradiction fun h3 => by omega) ?_
    refine hold_leftD0 (Classical.byContradiction fun h3 => by omega) ?_
    refine hold_forkD (fun h3 => ?_) (fun h3 => ?_)
    ·
     refine hold_leftD0 (Classical.byContradiction fun h4 => by omega) ?_
     refine hold_stop (fun hd hb => ?_)
     refine ok_again hd [] ⟨q + 1, by omega, samUp qm (ev_eq (by assumption))⟩ ?_ ⟨?_, trivial, .nil⟩
     · show n - (q + 1) < n - q
       omega
     · simp [samS, evs, fitsA, fitA, nf] <;> omega
    refine hold_stop (fun hd hb => ?_)
    exact ok_leaf0 hd rfl ⟨rfl, .inr ⟨rfl, fun h => ev_ne (by assumption) (h.2 q (by omega))⟩⟩
   refine hold_stop (fun hd hb => ?_)
   exact ok_leaf0 hd rfl ⟨rfl, .inl ⟨rfl, by omega, fun j hj => qm j (by omega)⟩⟩
  refine hold_stop (fun hd hb => ?_)
  exact ok_leaf0 hd rfl ⟨rfl, .inr ⟨rfl, fun h => by omega⟩⟩
end Go.Proofs.Ytjihbjjekhncaaa
namespace Go.Proofs.Ytjihbjjekhncaaa
open Go Go.RowKit Sv
set_option linter.unusedVariables false
set_option maxRecDepth 100000
set_option maxHeartbeats 0
theorem ms_eq {m p : MsI} (h : m.k = p.k ∧ m.f = p.f ∧ m.t = p.t ∧ m.v0 = p.v0 ∧ m.v1 = p.v1 ∧ m.v2 = p.v2 ∧ m.v3 = p.v3 ∧ m.v4 = p.v4 ∧ m.v5 = p.v5 ∧ m.n = p.n ∧ m.a = p.a) : m = p := by
  cases m
  cases p
  simp only at h
  obtain ⟨rfl, rfl, rfl, rfl, rfl, rfl, rfl, rfl, rfl, rfl, rfl⟩ := h
  rfl
def eqMs (m p : MsI) (n k : Nat) (E F : Nat → EvI) : Prop := m = p ∧ n = k ∧ ∀ j, j < n → E j = F j
theorem msame (m p : MsI) (n k : Nat) (E F : Nat → EvI) (hn : n ≤ 1099511627776) (hk : k ≤ 1099511627776) : Runs Try.prog 34 [.agg (m.row (evs n E)), .agg (p.row (evs k F))] fun x G => G = [] ∧ ((x = .bool true ∧ eqMs m p n k E F) ∨ (x = .bool false ∧ ¬ eqMs m p n k E F)) := by
  refine runs_treeF plain mixed (fun g => Nat.beq g 20) (fun _ => true) 60 ?_
  refine ok_sk (.both (.both (.both (.both (.stop []) (.stop [])) (.stop [])) (.stop [])) (.stop [])) (S := .fork (decide (m.k = p.k)) (.fork (decide (m.f = p.f)) (.fork (decide (m.t = p.t)) (.fork (@decide (m.v0 = p.v0 ∧ m.v1 = p.v1 ∧ m.v2 = p.v2 ∧ m.v3 = p.v3 ∧ m.v4 = p.v4 ∧ m.v5 = p.v5) (Classical.propDecidable _)) (.stop (Hd.call (20 : Nat) [AV.data (14 : Nat) n fun (i : Nat) => (E i).row, AV.data (14 : Nat) k fun (i : Nat) => (F i).row]) [] ([])) (.stop (Hd.leaf (AV.bool Bool.false)) [] ([]))) (.stop (Hd.leaf (AV.bool Bool.false)) [] ([]))) (.stop (Hd.leaf (AV.bool Bool.false)) [] ([]))) (.stop (Hd.leaf (AV.bool Bool.false)) [] ([]))) (by kernel_rfl) ?_
  refine hold_forkD (fun h0 => ?_) (fun h0 => ?_)
  ·
   refine hold_forkD (fun h1 => ?_) (fun h1 => ?_)
   ·
    refine hold_forkD (fun h2 => ?_) (fun h2 => ?_)
    ·
     refine hold_forkD (fun h3 => ?_) (fun h3 => ?_)
     ·
      refine hold_stop (fun hd hb => ?_)
      refine ok_call0 hd (esame n k E F hn hk) rfl ?_
      rintro x G ⟨rfl, ⟨rfl, sm⟩ | ⟨rfl, sm⟩⟩ <;> refine ⟨rfl, fun g hg => (by cases hg), ?_⟩
      ·
       refine ok_sk (.both (.both (.stop []) (.stop [])) (.stop [])) (S := .fork (decide (m.n = p.n)) (.fork (decide (m.a = p.a)) (.stop (Hd.leaf (AV.bool Bool.true)) [] ([])) (.stop (Hd.leaf (AV.bool Bool.false)) [] ([]))) (.stop (Hd.leaf (AV.bool Bool.false)) [] ([]))) (by kernel_rfl) ?_
       refine hold_forkD (fun h5 => ?_) (fun h5 => ?_)
       ·
        refine hold_forkD (fun h6 => ?_) (fun h6 => ?_)
        ·
         refine hold_stop (fun hd hb => ?_)
         exact ok_leaf0 hd rfl ⟨rfl, .inl ⟨rfl, ms_eq (by omega), sm⟩⟩
        refine hold_stop (fun hd hb => ?_)
        exact ok_leaf0 hd rfl ⟨rfl, .inr ⟨rfl, fun h => (by obtain ⟨rfl, _, _⟩ := h; exact absurd rfl (by assumption))⟩⟩
       refine hold_stop (fun hd hb => ?_)
       exact ok_leaf0 hd rfl ⟨rfl, .inr ⟨rfl, fun h => (by obtain ⟨rfl, _, _⟩ := h; exact absurd rfl (by assumption))⟩⟩
      refine ok_sk (.stop []) (S := .stop (Hd.leaf (AV.bool Bool.false)) [] ([])) (by kernel_rfl) ?_
      refine hold_stop (fun hd hb => ?_)
      exact ok_leaf0 hd rfl ⟨rfl, .inr ⟨rfl, fun h => sm h.2⟩⟩
     refine hold_stop (fun hd hb => ?_)
     exact ok_leaf0 hd rfl ⟨rfl, .inr ⟨rfl, fun h => (by obtain ⟨rfl, _, _⟩ := h; omega)⟩⟩
    refine hold_stop (fun hd hb => ?_)
    exact ok_leaf0 hd rfl ⟨rfl, .inr ⟨rfl, fun h => (by obtain ⟨rfl, _, _⟩ := h; exact absurd rfl (by assumption))⟩⟩
   refine hold_stop (fun hd hb => ?_)
   exact ok_leaf0 hd rfl ⟨rfl, .inr ⟨rfl, fun h => (by obtain ⟨rfl, _, _⟩ := h; exact absurd rfl (by assumption))⟩⟩
  refine hold_stop (fun hd hb => ?_)
  exact ok_leaf0 hd rfl ⟨rfl, .inr ⟨rfl, fun h => (by obtain ⟨rfl, _, _⟩ := h; exact absurd rfl (by assumption))⟩⟩
end Go.Proofs.Ytjihbjjekhncaaa
namespace Go.Proofs.Ytjihbjjekhncaaa
open Go Go.RowKit Sv
set_option linter.unusedVariables false
set_option maxRecDepth 100000
set_option maxHeartbeats 0
theorem works : Runs Try.prog 27 [] fun x G => x = .bool true ∧ G = [] := by
  refine runs_treeF plain mixed (fun _ => false) (fun _ => false) 1000 ?_
  refine ok_sk (.stop []) (S := .stop (.leaf (.bool true)) [] []) (by kernel_rfl) ?_
  refine hold_stop (fun hd hb => ?_)
  exact ok_leaf0 hd rfl ⟨rfl, rfl⟩
end Go.Proofs.Ytjihbjjekhncaaa
namespace Go.Proofs.Ytjihbjjekhncaaa
open Go Go.RowKit Sv
set_option linter.unusedVariables false
set_option maxRecDepth 100000
set_option maxHeartbeats 0
/-- eight bytes of a number make it again. -/
theorem n8_of {y : Nat → Nat} {x : Int} (hx : 0 ≤ x ∧ x ≤ 18446744073709551615) (h0 : b8 y 0 = x / 72057594037927936 % 256) (h1 : b8 y 1 = x / 281474976710656 % 256) (h2 : b8 y 2 = x / 1099511627776 % 256) (h3 : b8 y 3 = x / 4294967296 % 256) (h4 : b8 y 4 = x / 16777216 % 256) (h5 : b8 y 5 = x / 65536 % 256) (h6 : b8 y 6 = x / 256 % 256) (h7 : b8 y 7 = x % 256) : n8 y = x := by
  obtain ⟨q1, e1⟩ : ∃ q, q = x / 256 := ⟨_, rfl⟩
  obtain ⟨q2, e2⟩ : ∃ q, q = q1 / 256 := ⟨_, rfl⟩
  obtain ⟨q3, e3⟩ : ∃ q, q = q2 / 256 := ⟨_, rfl⟩
  obtain ⟨q4, e4⟩ : ∃ q, q = q3 / 256 := ⟨_, rfl⟩
  obtain ⟨q5, e5⟩ : ∃ q, q = q4 / 256 := ⟨_, rfl⟩
  obtain ⟨q6, e6⟩ : ∃ q, q = q5 / 256 := ⟨_, rfl⟩
  obtain ⟨q7, e7⟩ : ∃ q, q = q6 / 256 := ⟨_, rfl⟩
  have d (a b : Int) (hb : 0 < b) : a / (b * 256) = a / b / 256 := (Int.ediv_ediv_of_nonneg (Int.le_of_lt hb)).symm
  have k2 : x / 65536 = q2 := by rw [show (65536 : Int) = 256 * 256 by decide, d _ _ (by decide), ← e1, ← e2]
  have k3 : x / 16777216 = q3 := by rw [show (16777216 : Int) = 65536 * 256 by decide, d _ _ (by decide), k2, ← e3]
  have k4 : x / 4294967296 = q4 := by rw [show (4294967296 : Int) = 16777216 * 256 by decide, d _ _ (by decide), k3, ← e4]
  have k5 : x / 1099511627776 = q5 := by rw [show (1099511627776 : Int) = 4294967296 * 256 by decide, d _ _ (by decide), k4, ← e5]
  have k6 : x / 281474976710656 = q6 := by rw [show (281474976710656 : Int) = 1099511627776 * 256 by decide, d _ _ (by decide), k5, ← e6]
  have k7 : x / 72057594037927936 = q7 := by rw [show (72057594037927936 : Int) = 281474976710656 * 256 by decide, d _ _ (by decide), k6, ← e7]
  rw [k7] at h0
  rw [k6] at h1
  rw [k5] at h2
  rw [k4] at h3
  rw [k3] at h4
  rw [k2] at h5
  rw [← e1] at h6
  clear d k2 k3 k4 k5 k6 k7
  unfold n8
  rw [h0, h1, h2, h3, h4, h5, h6, h7]
  omega
/-- bytes, as the engine has them. -/
def natB (l : Nat → Int) (i : Nat) : Nat := (l i).toNat
theorem by8_nat {l : Nat → Int} {i : Nat} (h : 0 ≤ l i ∧ l i < 256) : by8 (natB l) i = [cell8 (l i)] := by
  unfold by8 natB cell8
  have e : (((l i).toNat % 256 : Nat) : Int) = l i := by omega
  rw [e]
theorem b8_nat {l : Nat → Int} {f : Nat → Nat} {i : Nat} (h : 0 ≤ l (f i) ∧ l (f i) < 256) : b8 (fun i => natB l (f i)) i = l (f i) := by
  show (((l (f i)).toNat % 256 : Nat) : Int) = l (f i)
  omega
end Go.Proofs.Ytjihbjjekhncaaa
namespace Go.Proofs.Ytjihbjjekhncaaa
open Go Go.RowKit Sv
set_option linter.unusedVariables false
set_option maxRecDepth 100000
set_option maxHeartbeats 0
theorem ev_bd {e : EvI} (hr : e.rng) (hm : e.may) : (0 ≤ e.a ∧ e.a ≤ 18446744073709551615) ∧ (0 ≤ e.t ∧ e.t < 256) ∧ (0 ≤ e.o ∧ e.o < 256) := by
  obtain ⟨m0, m1, m2, m3, m4, m5, m6, m7⟩ := hm.2
  have ho := hm.1.1
  have hk : e.k = 1 ∨ e.k = 2 ∨ e.k = 3 ∨ e.k = 4 ∨ e.k = 5 ∨ e.k = 6 ∨ e.k = 7 := by omega
  rcases hk with k | k | k | k | k | k | k
  · have m := m1 k
    omega
  · have m := m2 k
    omega
  · have m := m3 k
    omega
  · have m := m4 k
    omega
  · have m := m5 k
    omega
  · have m := m6 k
    omega
  · have m := m7 k
    omega
/-- an event's bytes make it again. -/
theorem evAt_of {A : Nat} {y : Nat → Nat} {e : EvI} (hr : e.rng) (hm : e.may) (h : ∀ i, i < 91 → b8 (fun r => y (A + r)) i = e.by.getD i 0) : evAt A y = e := by
  obtain ⟨ra, rt, ro⟩ := ev_bd hr hm
  obtain ⟨rs, rd0, rd1, rd2, rd3, rd4, rd5, rk, rn, rr, rf⟩ := hr
  clear hm
  have hs : (evAt A y).s = e.s := n8_of (y := fun i => y (A + (1 + i))) rs ((Eq.trans (by kernel_rfl) (h 1 (by decide))).trans (by kernel_rfl)) ((Eq.trans (by kernel_rfl) (h 2 (by decide))).trans (by kernel_rfl)) ((Eq.trans (by kernel_rfl) (h 3 (by decide))).trans (by kernel_rfl)) ((Eq.trans (by kernel_rfl) (h 4 (by decide))).trans (by kernel_rfl)) ((Eq.trans (by kernel_rfl) (h 5 (by decide))).trans (by kernel_rfl)) ((Eq.trans (by kernel_rfl) (h 6 (by decide))).trans (by kernel_rfl)) ((Eq.trans (by kernel_rfl) (h 7 (by decide))).trans (by kernel_rfl)) ((Eq.trans (by kernel_rfl) (h 8 (by decide))).trans (by kernel_rfl))
  have hd0 : (evAt A y).d0 = e.d0 := n8_of (y := fun i => y (A + (1 + (8 + (0 + (0 + i)))))) rd0 ((Eq.trans (by kernel_rfl) (h 9 (by decide))).trans (by kernel_rfl)) ((Eq.trans (by kernel_rfl) (h 10 (by decide))).trans (by kernel_rfl)) ((Eq.trans (by kernel_rfl) (h 11 (by decide))).trans (by kernel_rfl)) ((Eq.trans (by kernel_rfl) (h 12 (by decide))).trans (by kernel_rfl)) ((Eq.trans (by kernel_rfl) (h 13 (by decide))).trans (by kernel_rfl)) ((Eq.trans (by kernel_rfl) (h 14 (by decide))).trans (by kernel_rfl)) ((Eq.trans (by kernel_rfl) (h 15 (by decide))).trans (by kernel_rfl)) ((Eq.trans (by kernel_rfl) (h 16 (by decide))).trans (Eq.trans (b := e.d0 / 1 % 256) (by kernel_rfl) (by rw [Int.ediv_one])))
  have hd1 : (evAt A y).d1 = e.d1 := n8_of (y := fun i => y (A + (1 + (8 + (0 + (8 + i)))))) rd1 ((Eq.trans (by kernel_rfl) (h 17 (by decide))).trans (by kernel_rfl)) ((Eq.trans (by kernel_rfl) (h 18 (by decide))).trans (by kernel_rfl)) ((Eq.trans (by kernel_rfl) (h 19 (by decide))).trans (by kernel_rfl)) ((Eq.trans (by kernel_rfl) (h 20 (by decide))).trans (by kernel_rfl)) ((Eq.trans (by kernel_rfl) (h 21 (by decide))).trans (by kernel_rfl)) ((Eq.trans (by kernel_rfl) (h 22 (by decide))).trans (by kernel_rfl)) ((Eq.trans (by kernel_rfl) (h 23 (by decide))).trans (by kernel_rfl)) ((Eq.trans (by kernel_rfl) (h 24 (by decide))).trans (Eq.trans (b := e.d1 / 1 % 256) (by kernel_rfl) (by rw [Int.ediv_one])))
  have hd2 : (evAt A y).d2 = e.d2 := n8_of (y := fun i => y (A + (1 + (8 + (0 + (16 + i)))))) rd2 ((Eq.trans (by kernel_rfl) (h 25 (by decide))).trans (by kernel_rfl)) ((Eq.trans (by kernel_rfl) (h 26 (by decide))).trans (by kernel_rfl)) ((Eq.trans (by kernel_rfl) (h 27 (by decide))).trans (by kernel_rfl)) ((Eq.trans (by kernel_rfl) (h 28 (by decide))).trans (by kernel_rfl)) ((Eq.trans (by kernel_rfl) (h 29 (by decide))).trans (by kernel_rfl)) ((Eq.trans (by kernel_rfl) (h 30 (by decide))).trans (by kernel_rfl)) ((Eq.trans (by kernel_rfl) (h 31 (by decide))).trans (by kernel_rfl)) ((Eq.trans (by kernel_rfl) (h 32 (by decide))).trans (Eq.trans (b := e.d2 / 1 % 256) (by kernel_rfl) (by rw [Int.ediv_one])))
  have hd3 : (evAt A y).d3 = e.d3 := n8_of (y := fun i => y (A + (1 + (8 + (0 + (24 + i)))))) rd3 ((Eq.trans (by kernel_rfl) (h 33 (by decide))).trans (by kernel_rfl)) ((Eq.trans (by kernel_rfl) (h 34 (by decide))).trans (by kernel_rfl)) ((Eq.trans (by kernel_rfl) (h 35 (by decide))).trans (by kernel_rfl)) ((Eq.trans (by kernel_rfl) (h 36 (by decide))).trans (by kernel_rfl)) ((Eq.trans (by kernel_rfl) (h 37 (by decide))).trans (by kernel_rfl)) ((Eq.trans (by kernel_rfl) (h 38 (by decide))).trans (by kernel_rfl)) ((Eq.trans (by kernel_rfl) (h 39 (by decide))).trans (by kernel_rfl)) ((Eq.trans (by kernel_rfl) (h 40 (by decide))).trans (Eq.trans (b := e.d3 / 1 % 256) (by kernel_rfl) (by rw [Int.ediv_one])))
  have hd4 : (evAt A y).d4 = e.d4 := n8_of (y := fun i => y (A + (1 + (8 + (0 + (32 + i)))))) rd4 ((Eq.trans (by kernel_rfl) (h 41 (by decide))).trans (by kernel_rfl)) ((Eq.trans (by kernel_rfl) (h 42 (by decide))).trans (by kernel_rfl)) ((Eq.trans (by kernel_rfl) (h 43 (by decide))).trans (by kernel_rfl)) ((Eq.trans (by kernel_rfl) (h 44 (by decide))).trans (by kernel_rfl)) ((Eq.trans (by kernel_rfl) (h 45 (by decide))).trans (by kernel_rfl)) ((Eq.trans (by kernel_rfl) (h 46 (by decide))).trans (by kernel_rfl)) ((Eq.trans (by kernel_rfl) (h 47 (by decide))).trans (by kernel_rfl)) ((Eq.trans (by kernel_rfl) (h 48 (by decide))).trans (Eq.trans (b := e.d4 / 1 % 256) (by kernel_rfl) (by rw [Int.ediv_one])))
  have hd5 : (evAt A y).d5 = e.d5 := n8_of (y := fun i => y (A + (1 + (8 + (0 + (40 + i)))))) rd5 ((Eq.trans (by kernel_rfl) (h 49 (by decide))).trans (by kernel_rfl)) ((Eq.trans (by kernel_rfl) (h 50 (by decide))).trans (by kernel_rfl)) ((Eq.trans (by kernel_rfl) (h 51 (by decide))).trans (by kernel_rfl)) ((Eq.trans (by kernel_rfl) (h 52 (by decide))).trans (by kernel_rfl)) ((Eq.trans (by kernel_rfl) (h 53 (by decide))).trans (by kernel_rfl)) ((Eq.trans (by kernel_rfl) (h 54 (by decide))).trans (by kernel_rfl)) ((Eq.trans (by kernel_rfl) (h 55 (by decide))).trans (by kernel_rfl)) ((Eq.trans (by kernel_rfl) (h 56 (by decide))).trans (Eq.trans (b := e.d5 / 1 % 256) (by kernel_rfl) (by rw [Int.ediv_one])))
  have hn : (evAt A y).n = e.n := n8_of (y := fun i => y (A + (1 + (8 + (48 + (1 + i)))))) rn ((Eq.trans (by kernel_rfl) (h 58 (by decide))).trans (by kernel_rfl)) ((Eq.trans (by kernel_rfl) (h 59 (by decide))).trans (by kernel_rfl)) ((Eq.trans (by kernel_rfl) (h 60 (by decide))).trans (by kernel_rfl)) ((Eq.trans (by kernel_rfl) (h 61 (by decide))).trans (by kernel_rfl)) ((Eq.trans (by kernel_rfl) (h 62 (by decide))).trans (by kernel_rfl)) ((Eq.trans (by kernel_rfl) (h 63 (by decide))).trans (by kernel_rfl)) ((Eq.trans (by kernel_rfl) (h 64 (by decide))).trans (by kernel_rfl)) ((Eq.trans (by kernel_rfl) (h 65 (by decide))).trans (by kernel_rfl))
  have ha : (evAt A y).a = e.a := n8_of (y := fun i => y (A + (1 + (8 + (48 + (1 + (8 + (1 + i)))))))) ra ((Eq.trans (by kernel_rfl) (h 67 (by decide))).trans (by kernel_rfl)) ((Eq.trans (by kernel_rfl) (h 68 (by decide))).trans (by kernel_rfl)) ((Eq.trans (by kernel_rfl) (h 69 (by decide))).trans (by kernel_rfl)) ((Eq.trans (by kernel_rfl) (h 70 (by decide))).trans (by kernel_rfl)) ((Eq.trans (by kernel_rfl) (h 71 (by decide))).trans (by kernel_rfl)) ((Eq.trans (by kernel_rfl) (h 72 (by decide))).trans (by kernel_rfl)) ((Eq.trans (by kernel_rfl) (h 73 (by decide))).trans (by kernel_rfl)) ((Eq.trans (by kernel_rfl) (h 74 (by decide))).trans (by kernel_rfl))
  have hr_ : (evAt A y).r = e.r := n8_of (y := fun i => y (A + (1 + (8 + (48 + (1 + (8 + (1 + (8 + i))))))))) rr ((Eq.trans (by kernel_rfl) (h 75 (by decide))).trans (by kernel_rfl)) ((Eq.trans (by kernel_rfl) (h 76 (by decide))).trans (by kernel_rfl)) ((Eq.trans (by kernel_rfl) (h 77 (by decide))).trans (by kernel_rfl)) ((Eq.trans (by kernel_rfl) (h 78 (by decide))).trans (by kernel_rfl)) ((Eq.trans (by kernel_rfl) (h 79 (by decide))).trans (by kernel_rfl)) ((Eq.trans (by kernel_rfl) (h 80 (by decide))).trans (by kernel_rfl)) ((Eq.trans (by kernel_rfl) (h 81 (by decide))).trans (by kernel_rfl)) ((Eq.trans (by kernel_rfl) (h 82 (by decide))).trans (by kernel_rfl))
  have hf : (evAt A y).f = e.f := n8_of (y := fun i => y (A + (1 + (8 + (48 + (1 + (8 + (1 + (8 + (8 + i)))))))))) rf ((Eq.trans (by kernel_rfl) (h 83 (by decide))).trans (by kernel_rfl)) ((Eq.trans (by kernel_rfl) (h 84 (by decide))).trans (by kernel_rfl)) ((Eq.trans (by kernel_rfl) (h 85 (by decide))).trans (by kernel_rfl)) ((Eq.trans (by kernel_rfl) (h 86 (by decide))).trans (by kernel_rfl)) ((Eq.trans (by kernel_rfl) (h 87 (by decide))).trans (by kernel_rfl)) ((Eq.trans (by kernel_rfl) (h 88 (by decide))).trans (by kernel_rfl)) ((Eq.trans (by kernel_rfl) (h 89 (by decide))).trans (by kernel_rfl)) ((Eq.trans (by kernel_rfl) (h 90 (by decide))).trans (by kernel_rfl))
  have ho : (evAt A y).o = e.o := by
    have k : b8 (fun i => y (A + i)) 0 = e.o % 256 := (Eq.trans (by kernel_rfl) (h 0 (by decide))).trans (by kernel_rfl)
    show 0 + b8 (fun i => y (A + i)) 0 = e.o
    omega
  have hk : (evAt A y).k = e.k := by
    have k : b8 (fun i => y (A + (1 + (8 + (48 + i))))) 0 = e.k % 256 := (Eq.trans (by kernel_rfl) (h 57 (by decide))).trans (by kernel_rfl)
    show (0 + b8 (fun i => y (A + (1 + (8 + (48 + i))))) 0) % 256 = e.k
    omega
  have ht : (evAt A y).t = e.t := by
    have k : b8 (fun i => y (A + (1 + (8 + (48 + (1 + (8 + i))))))) 0 = e.t % 256 := (Eq.trans (by kernel_rfl) (h 66 (by decide))).trans (by kernel_rfl)
    show 0 + b8 (fun i => y (A + (1 + (8 + (48 + (1 + (8 + i))))))) 0 = e.t
    omega
  exact ev_eq ⟨ho, hs, hd0, hd1, hd2, hd3, hd4, hd5, hk, hn, ht, ha, hr_, hf⟩
end Go.Proofs.Ytjihbjjekhncaaa
namespace Go.Proofs.Ytjihbjjekhncaaa
open Go Go.RowKit Sv
set_option linter.unusedVariables false
set_option maxRecDepth 100000
set_option maxHeartbeats 0
theorem b8_of {y : Nat → Nat} {i : Nat} {x : Int} (h : by8 y i = [cell8 x]) : b8 y i = x := (AV.sint.inj (List.cons.inj h).1).2
/-- a message's first bytes make what stands there again. -/
theorem hd_of {m : MsI} {y : Nat → Nat} (hr : m.rng) (hf : (1 ≤ m.f ∧ m.f ≤ 6) ∧ (1 ≤ m.t ∧ m.t ≤ 6)) (h : ∀ i, i < 51 → b8 y i = m.hd.getD i 0) : (msS y).k = m.k ∧ (msS y).f = m.f ∧ (msS y).t = m.t ∧ (msS y).v0 = m.v0 ∧ (msS y).v1 = m.v1 ∧ (msS y).v2 = m.v2 ∧ (msS y).v3 = m.v3 ∧ (msS y).v4 = m.v4 ∧ (msS y).v5 = m.v5 := by
  obtain ⟨rv0, rv1, rv2, rv3, rv4, rv5, rn⟩ := hr
  have hk : (msS y).k = m.k := (Eq.trans (by kernel_rfl) (h 0 (by decide))).trans (by kernel_rfl)
  have h1 : (msS y).f = m.f % 256 := (Eq.trans (by kernel_rfl) (h 1 (by decide))).trans (by kernel_rfl)
  have h2 : (msS y).t = m.t % 256 := (Eq.trans (by kernel_rfl) (h 2 (by decide))).trans (by kernel_rfl)
  have hv0 : (msS y).v0 = m.v0 := n8_of (y := fun i => y (3 + (0 + i))) rv0 ((Eq.trans (by kernel_rfl) (h 3 (by decide))).trans (by kernel_rfl)) ((Eq.trans (by kernel_rfl) (h 4 (by decide))).trans (by kernel_rfl)) ((Eq.trans (by kernel_rfl) (h 5 (by decide))).trans (by kernel_rfl)) ((Eq.trans (by kernel_rfl) (h 6 (by decide))).trans (by kernel_rfl)) ((Eq.trans (by kernel_rfl) (h 7 (by decide))).trans (by kernel_rfl)) ((Eq.trans (by kernel_rfl) (h 8 (by decide))).trans (by kernel_rfl)) ((Eq.trans (by kernel_rfl) (h 9 (by decide))).trans (by kernel_rfl)) ((Eq.trans (by kernel_rfl) (h 10 (by decide))).trans (Eq.trans (b := m.v0 / 1 % 256) (by kernel_rfl) (by rw [Int.ediv_one])))
  have hv1 : (msS y).v1 = m.v1 := n8_of (y := fun i => y (3 + (8 + i))) rv1 ((Eq.trans (by kernel_rfl) (h 11 (by decide))).trans (by kernel_rfl)) ((Eq.trans (by kernel_rfl) (h 12 (by decide))).trans (by kernel_rfl)) ((Eq.trans (by kernel_rfl) (h 13 (by decide))).trans (by kernel_rfl)) ((Eq.trans (by kernel_rfl) (h 14 (by decide))).trans (by kernel_rfl)) ((Eq.trans (by kernel_rfl) (h 15 (by decide))).trans (by kernel_rfl)) ((Eq.trans (by kernel_rfl) (h 16 (by decide))).trans (by kernel_rfl)) ((Eq.trans (by kernel_rfl) (h 17 (by decide))).trans (by kernel_rfl)) ((Eq.trans (by kernel_rfl) (h 18 (by decide))).trans (Eq.trans (b := m.v1 / 1 % 256) (by kernel_rfl) (by rw [Int.ediv_one])))
  have hv2 : (msS y).v2 = m.v2 := n8_of (y := fun i => y (3 + (16 + i))) rv2 ((Eq.trans (by kernel_rfl) (h 19 (by decide))).trans (by kernel_rfl)) ((Eq.trans (by kernel_rfl) (h 20 (by decide))).trans (by kernel_rfl)) ((Eq.trans (by kernel_rfl) (h 21 (by decide))).trans (by kernel_rfl)) ((Eq.trans (by kernel_rfl) (h 22 (by decide))).trans (by kernel_rfl)) ((Eq.trans (by kernel_rfl) (h 23 (by decide))).trans (by kernel_rfl)) ((Eq.trans (by kernel_rfl) (h 24 (by decide))).trans (by kernel_rfl)) ((Eq.trans (by kernel_rfl) (h 25 (by decide))).trans (by kernel_rfl)) ((Eq.trans (by kernel_rfl) (h 26 (by decide))).trans (Eq.trans (b := m.v2 / 1 % 256) (by kernel_rfl) (by rw [Int.ediv_one])))
  have hv3 : (msS y).v3 = m.v3 := n8_of (y := fun i => y (3 + (24 + i))) rv3 ((Eq.trans (by kernel_rfl) (h 27 (by decide))).trans (by kernel_rfl)) ((Eq.trans (by kernel_rfl) (h 28 (by decide))).trans (by kernel_rfl)) ((Eq.trans (by kernel_rfl) (h 29 (by decide))).trans (by kernel_rfl)) ((Eq.trans (by kernel_rfl) (h 30 (by decide))).trans (by kernel_rfl)) ((Eq.trans (by kernel_rfl) (h 31 (by decide))).trans (by kernel_rfl)) ((Eq.trans (by kernel_rfl) (h 32 (by decide))).trans (by kernel_rfl)) ((Eq.trans (by kernel_rfl) (h 33 (by decide))).trans (by kernel_rfl)) ((Eq.trans (by kernel_rfl) (h 34 (by decide))).trans (Eq.trans (b := m.v3 / 1 % 256) (by kernel_rfl) (by rw [Int.ediv_one])))
  have hv4 : (msS y).v4 = m.v4 := n8_of (y := fun i => y (3 + (32 + i))) rv4 ((Eq.trans (by kernel_rfl) (h 35 (by decide))).trans (by kernel_rfl)) ((Eq.trans (by kernel_rfl) (h 36 (by decide))).trans (by kernel_rfl)) ((Eq.trans (by kernel_rfl) (h 37 (by decide))).trans (by kernel_rfl)) ((Eq.trans (by kernel_rfl) (h 38 (by decide))).trans (by kernel_rfl)) ((Eq.trans (by kernel_rfl) (h 39 (by decide))).trans (by kernel_rfl)) ((Eq.trans (by kernel_rfl) (h 40 (by decide))).trans (by kernel_rfl)) ((Eq.trans (by kernel_rfl) (h 41 (by decide))).trans (by kernel_rfl)) ((Eq.trans (by kernel_rfl) (h 42 (by decide))).trans (Eq.trans (b := m.v4 / 1 % 256) (by kernel_rfl) (by rw [Int.ediv_one])))
  have hv5 : (msS y).v5 = m.v5 := n8_of (y := fun i => y (3 + (40 + i))) rv5 ((Eq.trans (by kernel_rfl) (h 43 (by decide))).trans (by kernel_rfl)) ((Eq.trans (by kernel_rfl) (h 44 (by decide))).trans (by kernel_rfl)) ((Eq.trans (by kernel_rfl) (h 45 (by decide))).trans (by kernel_rfl)) ((Eq.trans (by kernel_rfl) (h 46 (by decide))).trans (by kernel_rfl)) ((Eq.trans (by kernel_rfl) (h 47 (by decide))).trans (by kernel_rfl)) ((Eq.trans (by kernel_rfl) (h 48 (by decide))).trans (by kernel_rfl)) ((Eq.trans (by kernel_rfl) (h 49 (by decide))).trans (by kernel_rfl)) ((Eq.trans (by kernel_rfl) (h 50 (by decide))).trans (Eq.trans (b := m.v5 / 1 % 256) (by kernel_rfl) (by rw [Int.ediv_one])))
  exact ⟨hk, by omega, by omega, hv0, hv1, hv2, hv3, hv4, hv5⟩
/-- a Sync's bytes make it again. -/
theorem syn_of {m : MsI} {q : Nat} {E : Nat → EvI} {y : Nat → Nat} (hr : m.rng) (hE : ∀ j, j < q → (E j).rng) (hm : m.may q E) (hk : m.k = 1) (h : ∀ i, i < 51 + 91 * q → by8 y i = synY m E i) : msS y = m ∧ ∀ j, j < q → msE y j = E j := by
  have m1 := hm.1
  obtain ⟨k1, k2, k3, k4, k5, k6, k7, k8, k9⟩ := hd_of (y := y) hr (by omega) fun i hi => b8_of ((h i (by omega)).trans (syn_lt m E hi))
  refine ⟨ms_eq ⟨k1, k2, k3, k4, k5, k6, k7, k8, k9, ?_, ?_⟩, fun j hj => evAt_of (hE j hj) (ms_evs hm hk j hj) fun i hi => ?_⟩
  · rcases hm.2.2 with e | e
    · exact e.2.1.symm
    · omega
  · rcases hm.2.2 with e | e
    · exact e.2.2.1.symm
    · omega
  · have e1 : (91 * j + i) / 91 = j := by omega
    have e2 : (91 * j + i) % 91 = i := by omega
    have e := (h (51 + (91 * j + i)) (by omega)).trans (syn_ge m E (by omega))
    rw [Nat.add_sub_cancel_left] at e
    unfold evY at e
    rw [e1, e2] at e
    exact b8_of e
end Go.Proofs.Ytjihbjjekhncaaa
namespace Go.Proofs.Ytjihbjjekhncaaa
open Go Go.RowKit Sv
set_option linter.unusedVariables false
set_option maxRecDepth 100000
set_option maxHeartbeats 0
/-- an Ask's bytes make it again. -/
theorem ask_of {m : MsI} {q : Nat} {E : Nat → EvI} {y : Nat → Nat} (hr : m.rng) (hm : m.may q E) (hk : m.k = 2) (h : ∀ i, i < 67 → b8 y i = m.ask.getD i 0) : msK y = m := by
  have m1 := hm.1
  have ra : 0 ≤ m.a ∧ m.a ≤ 18446744073709551615 := by
    have a := (ms_kind hm).2.1 hk
    omega
  have rn := hr.2.2.2.2.2.2
  obtain ⟨k1, k2, k3, k4, k5, k6, k7, k8, k9⟩ := hd_of (y := y) hr (by omega) fun i hi => (h i (by omega)).trans (by
    unfold MsI.ask
    rw [List.append_assoc, List.getD_eq_getElem?_getD, List.getElem?_append_left (by rw [hd_len]; exact hi), ← List.getD_eq_getElem?_getD])
  have hn : (msK y).n = m.n := n8_of (y := fun i => y (51 + i)) rn ((Eq.trans (by kernel_rfl) (h 51 (by decide))).trans (by kernel_rfl)) ((Eq.trans (by kernel_rfl) (h 52 (by decide))).trans (by kernel_rfl)) ((Eq.trans (by kernel_rfl) (h 53 (by decide))).trans (by kernel_rfl)) ((Eq.trans (by kernel_rfl) (h 54 (by decide))).trans (by kernel_rfl)) ((Eq.trans (by kernel_rfl) (h 55 (by decide))).trans (by kernel_rfl)) ((Eq.trans (by kernel_rfl) (h 56 (by decide))).trans (by kernel_rfl)) ((Eq.trans (by kernel_rfl) (h 57 (by decide))).trans (by kernel_rfl)) ((Eq.trans (by kernel_rfl) (h 58 (by decide))).trans (by kernel_rfl))
  have ha : (msK y).a = m.a := n8_of (y := fun i => y (59 + i)) ra ((Eq.trans (by kernel_rfl) (h 59 (by decide))).trans (by kernel_rfl)) ((Eq.trans (by kernel_rfl) (h 60 (by decide))).trans (by kernel_rfl)) ((Eq.trans (by kernel_rfl) (h 61 (by decide))).trans (by kernel_rfl)) ((Eq.trans (by kernel_rfl) (h 62 (by decide))).trans (by kernel_rfl)) ((Eq.trans (by kernel_rfl) (h 63 (by decide))).trans (by kernel_rfl)) ((Eq.trans (by kernel_rfl) (h 64 (by decide))).trans (by kernel_rfl)) ((Eq.trans (by kernel_rfl) (h 65 (by decide))).trans (by kernel_rfl)) ((Eq.trans (by kernel_rfl) (h 66 (by decide))).trans (by kernel_rfl))
  exact ms_eq ⟨k1, k2, k3, k4, k5, k6, k7, k8, k9, hn, ha⟩
theorem n8_b0 (z : Nat → Nat) : n8 z / 72057594037927936 % 256 = b8 z 0 := by
  have b0 := b8_bd z 0
  have b1 := b8_bd z 1
  have b2 := b8_bd z 2
  have b3 := b8_bd z 3
  have b4 := b8_bd z 4
  have b5 := b8_bd z 5
  have b6 := b8_bd z 6
  have b7 := b8_bd z 7
  unfold n8
  omega
theorem n8_b1 (z : Nat → Nat) : n8 z / 281474976710656 % 256 = b8 z 1 := by
  have b0 := b8_bd z 0
  have b1 := b8_bd z 1
  have b2 := b8_bd z 2
  have b3 := b8_bd z 3
  have b4 := b8_bd z 4
  have b5 := b8_bd z 5
  have b6 := b8_bd z 6
  have b7 := b8_bd z 7
  unfold n8
  omega
theorem n8_b2 (z : Nat → Nat) : n8 z / 1099511627776 % 256 = b8 z 2 := by
  have b0 := b8_bd z 0
  have b1 := b8_bd z 1
  have b2 := b8_bd z 2
  have b3 := b8_bd z 3
  have b4 := b8_bd z 4
  have b5 := b8_bd z 5
  have b6 := b8_bd z 6
  have b7 := b8_bd z 7
  unfold n8
  omega
theorem n8_b3 (z : Nat → Nat) : n8 z / 4294967296 % 256 = b8 z 3 := by
  have b0 := b8_bd z 0
  have b1 := b8_bd z 1
  have b2 := b8_bd z 2
  have b3 := b8_bd z 3
  have b4 := b8_bd z 4
  have b5 := b8_bd z 5
  have b6 := b8_bd z 6
  have b7 := b8_bd z 7
  unfold n8
  omega
theorem n8_b4 (z : Nat → Nat) : n8 z / 16777216 % 256 = b8 z 4 := by
  have b0 := b8_bd z 0
  have b1 := b8_bd z 1
  have b2 := b8_bd z 2
  have b3 := b8_bd z 3
  have b4 := b8_bd z 4
  have b5 := b8_bd z 5
  have b6 := b8_bd z 6
  have b7 := b8_bd z 7
  unfold n8
  omega
theorem n8_b5 (z : Nat → Nat) : n8 z / 65536 % 256 = b8 z 5 := by
  have b0 := b8_bd z 0
  have b1 := b8_bd z 1
  have b2 := b8_bd z 2
  have b3 := b8_bd z 3
  have b4 := b8_bd z 4
  have b5 := b8_bd z 5
  have b6 := b8_bd z 6
  have b7 := b8_bd z 7
  unfold n8
  omega
theorem n8_b6 (z : Nat → Nat) : n8 z / 256 % 256 = b8 z 6 := by
  have b0 := b8_bd z 0
  have b1 := b8_bd z 1
  have b2 := b8_bd z 2
  have b3 := b8_bd z 3
  have b4 := b8_bd z 4
  have b5 := b8_bd z 5
  have b6 := b8_bd z 6
  have b7 := b8_bd z 7
  unfold n8
  omega
theorem n8_b7 (z : Nat → Nat) : n8 z % 256 = b8 z 7 := by
  have b0 := b8_bd z 0
  have b1 := b8_bd z 1
  have b2 := b8_bd z 2
  have b3 := b8_bd z 3
  have b4 := b8_bd z 4
  have b5 := b8_bd z 5
  have b6 := b8_bd z 6
  have b7 := b8_bd z 7
  unfold n8
  omega
end Go.Proofs.Ytjihbjjekhncaaa
namespace Go.Proofs.Ytjihbjjekhncaaa
open Go Go.RowKit Sv
set_option linter.unusedVariables false
set_option maxRecDepth 100000
set_option maxHeartbeats 0
theorem be8_n8 (z : Nat → Nat) : be8 (n8 z) = [b8 z 0, b8 z 1, b8 z 2, b8 z 3, b8 z 4, b8 z 5, b8 z 6, b8 z 7] := by
  unfold be8
  rw [n8_b0, n8_b1, n8_b2, n8_b3, n8_b4, n8_b5, n8_b6, n8_b7]
theorem be8d_n8 (z : Nat → Nat) : be8d (n8 z) = [b8 z 0, b8 z 1, b8 z 2, b8 z 3, b8 z 4, b8 z 5, b8 z 6, b8 z 7] := by
  unfold be8d
  rw [n8_b0, n8_b1, n8_b2, n8_b3, n8_b4, n8_b5, n8_b6, Int.ediv_one, n8_b7]
theorem md (z : Nat → Nat) (i : Nat) : b8 z i % 256 = b8 z i := by
  have b := b8_bd z i
  omega
theorem md0 (z : Nat → Nat) (i : Nat) : (0 + b8 z i) % 256 = b8 z i := by
  have b := b8_bd z i
  omega
theorem md1 (z : Nat → Nat) (i : Nat) : (0 + b8 z i) % 256 % 256 = b8 z i := by
  have b := b8_bd z i
  omega
theorem hd_by (y : Nat → Nat) : (msS y).hd = (List.range 51).map (b8 y) := by
  have e : (msS y).hd = [b8 y 0, b8 y 1 % 256, b8 y 2 % 256] ++ be8d (n8 fun i => y (3 + (0 + i))) ++ be8d (n8 fun i => y (3 + (8 + i))) ++ be8d (n8 fun i => y (3 + (16 + i))) ++ be8d (n8 fun i => y (3 + (24 + i))) ++ be8d (n8 fun i => y (3 + (32 + i))) ++ be8d (n8 fun i => y (3 + (40 + i))) := rfl
  rw [e, md, md, be8d_n8, be8d_n8, be8d_n8, be8d_n8, be8d_n8, be8d_n8]
  rfl
theorem ask_by (y : Nat → Nat) : (msK y).ask = (List.range 67).map (b8 y) := by
  have e : (msK y).ask = (msS y).hd ++ be8 (n8 fun i => y (51 + i)) ++ be8 (n8 fun i => y (59 + i)) := rfl
  rw [e, hd_by, be8_n8, be8_n8]
  rfl
theorem ev_by (A : Nat) (y : Nat → Nat) : (evAt A y).by = (List.range 91).map (b8 fun r => y (A + r)) := by
  have e : (evAt A y).by = [(0 + b8 (fun i => y (A + i)) 0) % 256] ++ be8 (n8 fun i => y (A + (1 + i))) ++ be8d (n8 fun i => y (A + (1 + (8 + (0 + (0 + i)))))) ++ be8d (n8 fun i => y (A + (1 + (8 + (0 + (8 + i)))))) ++ be8d (n8 fun i => y (A + (1 + (8 + (0 + (16 + i)))))) ++ be8d (n8 fun i => y (A + (1 + (8 + (0 + (24 + i)))))) ++ be8d (n8 fun i => y (A + (1 + (8 + (0 + (32 + i)))))) ++ be8d (n8 fun i => y (A + (1 + (8 + (0 + (40 + i)))))) ++ [(0 + b8 (fun i => y (A + (1 + (8 + (48 + i))))) 0) % 256 % 256] ++ be8 (n8 fun i => y (A + (1 + (8 + (48 + (1 + i)))))) ++ [(0 + b8 (fun i => y (A + (1 + (8 + (48 + (1 + (8 + i))))))) 0) % 256] ++ be8 (n8 fun i => y (A + (1 + (8 + (48 + (1 + (8 + (1 + i)))))))) ++ be8 (n8 fun i => y (A + (1 + (8 + (48 + (1 + (8 + (1 + (8 + i))))))))) ++ be8 (n8 fun i => y (A + (1 + (8 + (48 + (1 + (8 + (1 + (8 + (8 + i)))))))))) := rfl
  rw [e, md0, md1, md0, be8_n8, be8_n8, be8_n8, be8_n8, be8_n8, be8d_n8, be8d_n8, be8d_n8, be8d_n8, be8d_n8, be8d_n8]
  rfl
theorem getD_rng {g : Nat → Int} {n i : Nat} (h : i < n) : ((List.range n).map g).getD i 0 = g i := by
  rw [List.getD_eq_getElem?_getD, List.getElem?_map, List.getElem?_range h]
  rfl
/-- what is a Sync is put as it stood. -/
theorem syn_to {n q : Nat} {y : Nat → Nat} (h : n = 51 + 91 * q) : ∀ i, i < n → synY (msS y) (msE y) i = by8 y i := fun i hi => by
  by_cases k : i < 51
  · rw [syn_lt _ _ k, hd_by, getD_rng k]
    rfl
  · rw [syn_ge _ _ k]
    unfold evY msE
    rw [ev_by, getD_rng (Nat.mod_lt _ (by decide))]
    have e : 51 + (91 * ((i - 51) / 91) + (i - 51) % 91) = i := by omega
    show [cell8 ((y (51 + (91 * ((i - 51) / 91) + (i - 51) % 91)) % 256 : Nat) : Int)] = _
    rw [e]
    rfl
theorem ask_to {y : Nat → Nat} : ∀ i, i < 67 → [cell8 ((msK y).ask.getD i 0)] = by8 y i := fun i hi => by
  rw [ask_by, getD_rng hi]
  rfl
end Go.Proofs.Ytjihbjjekhncaaa
