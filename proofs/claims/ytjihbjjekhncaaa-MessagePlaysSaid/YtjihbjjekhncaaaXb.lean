import Derived.Test.YtjihbjjekhncaaaXa
namespace Go.Proofs.Ytjihbjjekhncaaa
open Go Go.RowKit Sv
set_option linter.unusedVariables false
set_option maxRecDepth 100000
set_option maxHeartbeats 0
def evs (n : Nat) (E : Nat → EvI) : AV := .data 14 n fun i => (E i).row
def malS (n : Nat) (E : Nat → EvI) (q : Nat) : List AV := [evs n E, .top, .bool false, .top, .top, evs n E, .sint .i64 (n : Int), .sint .i64 q, .top, .top, .top, .top, .top, .top, .top]
theorem malMay {q : Nat} {E : Nat → EvI} (h : ∀ j, j < q → (E j).may) (k : (E q).may) : ∀ j, j < q + 1 → (E j).may := fun j hj => by
  by_cases e : j < q
  · exact h j e
  · obtain rfl : j = q := by omega
    exact k
theorem emayAll (n : Nat) (E : Nat → EvI) (hn : n ≤ 1099511627776) : Runs Try.prog 70 [evs n E] fun x G => G = [] ∧ ((x = .bool true ∧ ∀ j, j < n → (E j).may) ∨ (x = .bool false ∧ ¬ ∀ j, j < n → (E j).may)) := by
  refine runs_treeF plain mixed (fun g => Nat.beq g 21) (fun _ => true) 60 ?_
  refine ok_sk (.stop []) (S := .stop (Hd.loop 55 [.data 14 n fun (i : Nat) => (E i).row, .tuple [], .bool false, .tuple [], .tuple [], .data 14 n fun (i : Nat) => (E i).row, .sint .i64 (↑n : Int), .int .i64 (0 : Int), .tuple [], .tuple [], .tuple [], .tuple [], .tuple [], .tuple [], .tuple []]) [] ([])) (by kernel_rfl) ?_
  refine hold_stop (fun hd hb => ?_)
  refine ok_loop hd (X := {q : Nat // q ≤ n ∧ ∀ j, j < q → (E j).may}) (fun q => malS n E q.1) (fun _ => []) (fun q => n - q.1) [] ⟨0, by omega, fun j hj => absurd hj (Nat.not_lt_zero j)⟩ ⟨by simp [malS, evs, fitsA, fitA, nf], trivial, .nil⟩ ?_
  rintro ⟨q, q1, qm⟩
  refine ok_sk (.both (.l (.stop [])) (.stop [])) (S := .fork (decide ((↑q : Int) < (↑n : Int))) (.left (decide (0 ≤ (↑q : Int) ∧ (↑q : Int).toNat < n)) (.stop (Hd.call 21 [.agg [.sint .i64 (E (↑q : Int).toNat).o, .sint .u64 (E (↑q : Int).toNat).s, .sint .u64 (E (↑q : Int).toNat).d0, .sint .u64 (E (↑q : Int).toNat).d1, .sint .u64 (E (↑q : Int).toNat).d2, .sint .u64 (E (↑q : Int).toNat).d3, .sint .u64 (E (↑q : Int).toNat).d4, .sint .u64 (E (↑q : Int).toNat).d5, .sint .u8 (E (↑q : Int).toNat).k, .sint .u64 (E (↑q : Int).toNat).n, .sint .i64 (E (↑q : Int).toNat).t, .sint .i64 (E (↑q : Int).toNat).a, .sint .u64 (E (↑q : Int).toNat).r, .sint .u64 (E (↑q : Int).toNat).f]]) [] ([]))) (.stop (Hd.leaf (.bool true)) [] ([]))) (by kernel_rfl) ?_
  refine hold_forkD (fun h1 => ?_) (fun h1 => ?_)
  ·
   refine hl (bc fun h2 => by omega) ?_
   refine hold_stop (fun hd hb => ?_)
   refine ok_call0 hd (emay (E (q : Int).toNat)) rfl ?_
   rintro x G (⟨rfl, rfl, my⟩ | ⟨rfl, rfl, my⟩) <;> refine ⟨rfl, fun g hg => (by cases hg), ?_⟩
   ·
    refine ok_sk (.l (.stop [0])) (S := .left (decide ((-9223372036854775808 : Int) ≤ (↑q : Int) + 1 ∧ (↑q : Int) + 1 ≤ 9223372036854775807)) (.stop (Hd.again (again' (fun (q : { q : Nat // q ≤ n ∧ ∀ (j : Nat), j < q → (E j).may }) => malS n E q.val) (fun (x : { q : Nat // q ≤ n ∧ ∀ (j : Nat), j < q → (E j).may }) => []) (fun (q : { q : Nat // q ≤ n ∧ ∀ (j : Nat), j < q → (E j).may }) => n - q.val) ⟨q, ⟨q1, qm⟩⟩) [.data 14 n fun (i : Nat) => (E i).row, .top, .bool false, .top, .ptr 0 0, .data 14 n fun (i : Nat) => (E i).row, .sint .i64 (↑n : Int), .sint .i64 ((↑q : Int) + 1), .bool true, AV.dptr [.sint .i64 (E (↑q : Int).toNat).o, .sint .u64 (E (↑q : Int).toNat).s, .sint .u64 (E (↑q : Int).toNat).d0, .sint .u64 (E (↑q : Int).toNat).d1, .sint .u64 (E (↑q : Int).toNat).d2, .sint .u64 (E (↑q : Int).toNat).d3, .sint .u64 (E (↑q : Int).toNat).d4, .sint .u64 (E (↑q : Int).toNat).d5, .sint .u8 (E (↑q : Int).toNat).k, .sint .u64 (E (↑q : Int).toNat).n, .sint .i64 (E (↑q : Int).toNat).t, .sint .i64 (E (↑q : Int).toNat).a, .sint .u64 (E (↑q : Int).toNat).r, .sint .u64 (E (↑q : Int).toNat).f], .agg [.sint .i64 (E (↑q : Int).toNat).o, .sint .u64 (E (↑q : Int).toNat).s, .sint .u64 (E (↑q : Int).toNat).d0, .sint .u64 (E (↑q : Int).toNat).d1, .sint .u64 (E (↑q : Int).toNat).d2, .sint .u64 (E (↑q : Int).toNat).d3, .sint .u64 (E (↑q : Int).toNat).d4, .sint .u64 (E (↑q : Int).toNat).d5, .sint .u8 (E (↑q : Int).toNat).k, .sint .u64 (E (↑q : Int).toNat).n, .sint .i64 (E (↑q : Int).toNat).t, .sint .i64 (E (↑q : Int).toNat).a, .sint .u64 (E (↑q : Int).toNat).r, .sint .u64 (E (↑q : Int).toNat).f], .agg [.sint .i64 (E (↑q : Int).toNat).o, .sint .u64 (E (↑q : Int).toNat).s, .sint .u64 (E (↑q : Int).toNat).d0, .sint .u64 (E (↑q : Int).toNat).d1, .sint .u64 (E (↑q : Int).toNat).d2, .sint .u64 (E (↑q : Int).toNat).d3, .sint .u64 (E (↑q : Int).toNat).d4, .sint .u64 (E (↑q : Int).toNat).d5, .sint .u8 (E (↑q : Int).toNat).k, .sint .u64 (E (↑q : Int).toNat).n, .sint .i64 (E (↑q : Int).toNat).t, .sint .i64 (E (↑q : Int).toNat).a, .sint .u64 (E (↑q : Int).toNat).r, .sint .u64 (E (↑q : Int).toNat).f], .bool true, .bool false, .sint .i64 ((↑q : Int) + 1)]) [0] ([(some (Blk.cells 0 none [.sint .i64 (E (↑q : Int).toNat).o, .sint .u64 (E (↑q : Int).toNat).s, .sint .u64 (E (↑q : Int).toNat).d0, .sint .u64 (E (↑q : Int).toNat).d1, .sint .u64 (E (↑q : Int).toNat).d2, .sint .u64 (E (↑q : Int).toNat).d3, .sint .u64 (E (↑q : Int).toNat).d4, .sint .u64 (E (↑q : Int).toNat).d5, .sint .u8 (E (↑q : Int).toNat).k, .sint .u64 (E (↑q : Int).toNat).n, .sint .i64 (E (↑q : Int).toNat).t, .sint .i64 (E (↑q : Int).toNat).a, .sint .u64 (E (↑q : Int).toNat).r, .sint .u64 (E (↑q : Int).toNat).f]), none)]))) (by kernel_rfl) ?_
    refine hl (bc fun h3 => by omega) ?_
    refine hold_stop (fun hd hb => ?_)
    refine ok_again hd [] ⟨q + 1, by omega, malMay qm my⟩ ?_ ⟨?_, trivial, .nil⟩
    · show n - (q + 1) < n - q
      omega
    · simp [malS, evs, fitsA, fitA, nf] <;> omega
   refine ok_sk (.stop []) (S := .stop (Hd.leaf (.bool false)) [] ([])) (by kernel_rfl) ?_
   refine hold_stop (fun hd hb => ?_)
   exact ok_leaf0 hd rfl ⟨rfl, .inr ⟨rfl, fun h => my (h _ (by omega))⟩⟩
  refine hold_stop (fun hd hb => ?_)
  exact ok_leaf0 hd rfl ⟨rfl, .inl ⟨rfl, fun j hj => qm j (by omega)⟩⟩
end Go.Proofs.Ytjihbjjekhncaaa
namespace Go.Proofs.Ytjihbjjekhncaaa
open Go Go.RowKit Sv
set_option linter.unusedVariables false
set_option maxRecDepth 100000
set_option maxHeartbeats 0
/-- a message, its events aside. -/
structure MsI where
  k : Int
  f : Int
  t : Int
  v0 : Int
  v1 : Int
  v2 : Int
  v3 : Int
  v4 : Int
  v5 : Int
  n : Int
  a : Int
def MsI.row (m : MsI) (l : AV) : List AV := [.sint .u8 m.k, .sint .i64 m.f, .sint .i64 m.t, .sint .u64 m.v0, .sint .u64 m.v1, .sint .u64 m.v2, .sint .u64 m.v3, .sint .u64 m.v4, .sint .u64 m.v5, l, .sint .u64 m.n, .sint .i64 m.a]
def MsI.may (m : MsI) (q : Nat) (E : Nat → EvI) : Prop :=
  (1 ≤ m.f ∧ m.f ≤ 6 ∧ 1 ≤ m.t ∧ m.t ≤ 6 ∧ m.f ≠ m.t) ∧
  (m.v0 ≤ 1099511627776 ∧ m.v1 ≤ 1099511627776 ∧ m.v2 ≤ 1099511627776 ∧ m.v3 ≤ 1099511627776 ∧ m.v4 ≤ 1099511627776 ∧ m.v5 ≤ 1099511627776) ∧
  ((m.k = 1 ∧ m.n = 0 ∧ m.a = 0 ∧ q ≤ 16 ∧ ∀ j, j < q → (E j).may) ∨ (m.k = 2 ∧ m.n ≠ 0 ∧ 1 ≤ m.a ∧ m.a ≤ 1125899906842624 ∧ q = 0))
theorem mmay (m : MsI) (q : Nat) (E : Nat → EvI) (hq : q ≤ 1099511627776) : Runs Try.prog 30 [.agg (m.row (evs q E))] fun x G => G = [] ∧ ((x = .bool true ∧ m.may q E) ∨ (x = .bool false ∧ ¬ m.may q E)) := by
  refine runs_treeF plain mixed (fun g => Nat.beq g 69 || Nat.beq g 70) (fun _ => false) 60 ?_
  refine ok_sk (.both (.both (.both (.both (.both (.stop []) (.stop [])) (.stop [])) (.stop [])) (.stop [])) (.stop [])) (S := .fork (decide (1 ≤ m.f)) (.fork (decide (m.f ≤ 6)) (.fork (decide (1 ≤ m.t)) (.fork (decide (m.t ≤ 6)) (.fork (decide (m.f = m.t)) (.stop (Hd.leaf (.bool false)) [] ([])) (.stop (Hd.call 69 [.agg [.sint .u64 m.v0, .sint .u64 m.v1, .sint .u64 m.v2, .sint .u64 m.v3, .sint .u64 m.v4, .sint .u64 m.v5]]) [] ([]))) (.stop (Hd.leaf (.bool false)) [] ([]))) (.stop (Hd.leaf (.bool false)) [] ([]))) (.stop (Hd.leaf (.bool false)) [] ([]))) (.stop (Hd.leaf (.bool false)) [] ([]))) (by kernel_rfl) ?_
  refine hold_forkD (fun h0 => ?_) (fun h0 => ?_)
  ·
   refine hold_forkD (fun h1 => ?_) (fun h1 => ?_)
   ·
    refine hold_forkD (fun h2 => ?_) (fun h2 => ?_)
    ·
     refine hold_forkD (fun h3 => ?_) (fun h3 => ?_)
     ·
      refine hold_forkD (fun h4 => ?_) (fun h4 => ?_)
      ·
       refine hold_stop (fun hd hb => ?_)
       exact ok_leaf0 hd rfl ⟨rfl, .inr ⟨rfl, by unfold MsI.may; omega⟩⟩
      refine hold_stop (fun hd hb => ?_)
      refine ok_call0 hd (vmay m.v0 m.v1 m.v2 m.v3 m.v4 m.v5) rfl ?_
      rintro x G ⟨rfl, ⟨rfl, mv⟩ | ⟨rfl, mv⟩⟩ <;> refine ⟨rfl, fun g hg => (by cases hg), ?_⟩
      ·
       refine ok_sk (.both (.both (.both (.both (.stop []) (.stop [])) (.stop [])) (.stop [])) (.both (.both (.stop []) (.both (.both (.both (.stop []) (.stop [])) (.stop [])) (.stop []))) (.stop []))) (S := .fork (decide (m.k = 1)) (.fork (decide (m.n = 0)) (.fork (decide (m.a = 0)) (.fork (decide ((↑q : Int) ≤ 16)) (.stop (Hd.call 70 [.data 14 q fun (i : Nat) => (E i).row]) [] ([])) (.stop (Hd.leaf (.bool false)) [] ([]))) (.stop (Hd.leaf (.bool false)) [] ([]))) (.stop (Hd.leaf (.bool false)) [] ([]))) (.fork (decide (m.k = 2)) (.fork (decide (m.n = 0)) (.stop (Hd.leaf (.bool false)) [] ([])) (.fork (decide (1 ≤ m.a)) (.fork (decide (m.a ≤ 1125899906842624)) (.fork (decide ((↑q : Int) = 0)) (.stop (Hd.leaf (.bool true)) [] ([])) (.stop (Hd.leaf (.bool false)) [] ([]))) (.stop (Hd.leaf (.bool false)) [] ([]))) (.stop (Hd.leaf (.bool false)) [] ([])))) (.stop (Hd.leaf (.bool false)) [] ([])))) (by kernel_rfl) ?_
       refine hold_forkD (fun h6 => ?_) (fun h6 => ?_)
       ·
        refine hold_forkD (fun h7 => ?_) (fun h7 => ?_)
        ·
         refine hold_forkD (fun h8 => ?_) (fun h8 => ?_)
         ·
          refine hold_forkD (fun h9 => ?_) (fun h9 => ?_)
          ·
           refine hold_stop (fun hd hb => ?_)
           refine ok_call0 hd (emayAll q E hq) rfl ?_
           rintro x G ⟨rfl, ⟨rfl, ma⟩ | ⟨rfl, ma⟩⟩ <;> refine ⟨rfl, fun g hg => (by cases hg), ?_⟩
           ·
            refine ok_sk (.stop []) (S := .stop (Hd.leaf (.bool true)) [] ([])) (by kernel_rfl) ?_
            refine hold_stop (fun hd hb => ?_)
            exact ok_leaf0 hd rfl ⟨rfl, .inl ⟨rfl, ⟨by omega, by omega, .inl ⟨by omega, by omega, by omega, by omega, ma⟩⟩⟩⟩
           refine ok_sk (.stop []) (S := .stop (Hd.leaf (.bool false)) [] ([])) (by kernel_rfl) ?_
           refine hold_stop (fun hd hb => ?_)
           exact ok_leaf0 hd rfl ⟨rfl, .inr ⟨rfl, fun h => by rcases h.2.2 with k | k <;> first | omega | exact ma k.2.2.2.2⟩⟩
          refine hold_stop (fun hd hb => ?_)
          exact ok_leaf0 hd rfl ⟨rfl, .inr ⟨rfl, by unfold MsI.may; omega⟩⟩
         refine hold_stop (fun hd hb => ?_)
         exact ok_leaf0 hd rfl ⟨rfl, .inr ⟨rfl, by unfold MsI.may; omega⟩⟩
        refine hold_stop (fun hd hb => ?_)
        exact ok_leaf0 hd rfl ⟨rfl, .inr ⟨rfl, by unfold MsI.may; omega⟩⟩
       refine hold_forkD (fun h7 => ?_) (fun h7 => ?_)
       ·
        refine hold_forkD (fun h8 => ?_) (fun h8 => ?_)
        ·
         refine hold_stop (fun hd hb => ?_)
         exact ok_leaf0 hd rfl ⟨rfl, .inr ⟨rfl, by unfold MsI.may; omega⟩⟩
        refine hold_forkD (fun h9 => ?_) (fun h9 => ?_)
        ·
         refine hold_forkD (fun h10 => ?_) (fun h10 => ?_)
         ·
          refine hold_forkD (fun h11 => ?_) (fun h11 => ?_)
          ·
           refine hold_stop (fun hd hb => ?_)
           exact ok_leaf0 hd rfl ⟨rfl, .inl ⟨rfl, by unfold MsI.may; omega⟩⟩
          refine hold_stop (fun hd hb => ?_)
          exact ok_leaf0 hd rfl ⟨rfl, .inr ⟨rfl, by unfold MsI.may; omega⟩⟩
         refine hold_stop (fun hd hb => ?_)
         exact ok_leaf0 hd rfl ⟨rfl, .inr ⟨rfl, by unfold MsI.may; omega⟩⟩
        refine hold_stop (fun hd hb => ?_)
        exact ok_leaf0 hd rfl ⟨rfl, .inr ⟨rfl, by unfold MsI.may; omega⟩⟩
       refine hold_stop (fun hd hb => ?_)
       exact ok_leaf0 hd rfl ⟨rfl, .inr ⟨rfl, by unfold MsI.may; omega⟩⟩
      refine ok_sk (.stop []) (S := .stop (Hd.leaf (.bool false)) [] ([])) (by kernel_rfl) ?_
      refine hold_stop (fun hd hb => ?_)
      exact ok_leaf0 hd rfl ⟨rfl, .inr ⟨rfl, by unfold MsI.may; omega⟩⟩
     refine hold_stop (fun hd hb => ?_)
     exact ok_leaf0 hd rfl ⟨rfl, .inr ⟨rfl, by unfold MsI.may; omega⟩⟩
    refine hold_stop (fun hd hb => ?_)
    exact ok_leaf0 hd rfl ⟨rfl, .inr ⟨rfl, by unfold MsI.may; omega⟩⟩
   refine hold_stop (fun hd hb => ?_)
   exact ok_leaf0 hd rfl ⟨rfl, .inr ⟨rfl, by unfold MsI.may; omega⟩⟩
  refine hold_stop (fun hd hb => ?_)
  exact ok_leaf0 hd rfl ⟨rfl, .inr ⟨rfl, by unfold MsI.may; omega⟩⟩
end Go.Proofs.Ytjihbjjekhncaaa
namespace Go.Proofs.Ytjihbjjekhncaaa
open Go Go.RowKit Sv
set_option linter.unusedVariables false
set_option maxRecDepth 100000
set_option maxHeartbeats 0
/-- the bytes of events behind each other. -/
def evY (E : Nat → EvI) (i : Nat) : List AV := [cell8 ((E (i / 91)).by.getD (i % 91) 0)]
theorem by_len (e : EvI) : e.by.length = 91 := rfl
theorem take_drop {l : List AV} {r : Nat} (h : r < l.length) : (l.drop (r * 1)).take 1 = [l[r]] := by
  rw [Nat.mul_one, List.drop_eq_getElem_cons h, List.take_succ_cons, List.take_zero]
theorem leafy_get : ∀ {l : List AV} {i : Nat} (h : i < l.length), leafy l = true → leafy [l[i]] = true
  | a :: r, 0, h, hl => by cases a <;> first | rfl | cases hl
  | a :: r, i + 1, h, hl => by
    have h' : i < r.length := Nat.lt_of_succ_lt_succ h
    show leafy [r[i]] = true
    refine leafy_get h' ?_
    cases a <;> first | exact hl | cases hl
theorem rows1 {l : List AV} {m : Nat} (hm : l.length = m) (hl : leafy l = true) : RowsOK 1 m fun i => (l.drop (i * 1)).take 1 := fun i hi => by
  subst hm
  show ((l.drop (i * 1)).take 1).length = 1 ∧ leafy ((l.drop (i * 1)).take 1) = true
  rw [take_drop hi]
  exact ⟨rfl, leafy_get hi hl⟩
theorem evY_glue (E : Nat → EvI) (q : Nat) {g : Nat → List AV} (hg : g = fun i => (((E q).by.map cell8).drop (i * 1)).take 1) : ∀ i, i < 91 * q + 91 → evY E i = glue (91 * q) (evY E) g i ∧ nfs (evY E i) = true := fun i hi => by
  refine ⟨?_, rfl⟩
  unfold glue
  by_cases h : i < 91 * q
  · rw [if_pos h]
  · have hr : i - 91 * q < ((E q).by.map cell8).length := by
      rw [List.length_map, by_len]
      omega
    rw [if_neg h, hg]
    show _ = (((E q).by.map cell8).drop ((i - 91 * q) * 1)).take 1
    rw [take_drop hr, List.getElem_map]
    have e1 : i / 91 = q := by omega
    have e2 : i % 91 = i - 91 * q := by omega
    unfold evY
    rw [e1, e2, List.getD_eq_getElem?_getD, List.getElem?_eq_getElem (by rw [by_len]; omega), Option.getD_some]
def wsS (n : Nat) (E : Nat → EvI) (q : Nat) : List AV := [.top, .top, .top, .gsl 0 (91 * q), .top, .top, .top, evs n E, .sint .i64 (n : Int), .sint .i64 q, .top, .top, .top, .top, .top, .top, .top, .top, .top]
def wsG (E : Nat → EvI) (q : Nat) : List NewB := [.seq 1 (91 * q) (evY E)]
theorem wsync (m : MsI) (n : Nat) (E : Nat → EvI) (hn : n ≤ 16) (hE : ∀ j, j < n → (E j).rng ∧ (E j).may) : Runs Try.prog 95 [.agg (m.row (evs n E))] fun x G => x = .gsl 0 (91 * n) ∧ G = [.seq 1 (91 * n) (evY E)] := by
  refine runs_treeF plain mixed (fun g => Nat.beq g 23) (fun _ => true) 60 ?_
  refine ok_sk (.stop [0]) (S := .stop (Hd.loop 54 [.agg [.sint .u8 m.k, .sint .i64 m.f, .sint .i64 m.t, .sint .u64 m.v0, .sint .u64 m.v1, .sint .u64 m.v2, .sint .u64 m.v3, .sint .u64 m.v4, .sint .u64 m.v5, .data 14 n fun (i : Nat) => (E i).row, .sint .u64 m.n, .sint .i64 m.a], .ptr 0 0, .nilSlice, .nilSlice, .tuple [], .tuple [], .ptr 0 9, .data 14 n fun (i : Nat) => (E i).row, .sint .i64 (↑n : Int), .int .i64 (0 : Int), .tuple [], .tuple [], .tuple [], .tuple [], .tuple [], .tuple [], .tuple [], .tuple [], .tuple []]) [0] ([(some (Blk.cells 0 none [.sint .u8 m.k, .sint .i64 m.f, .sint .i64 m.t, .sint .u64 m.v0, .sint .u64 m.v1, .sint .u64 m.v2, .sint .u64 m.v3, .sint .u64 m.v4, .sint .u64 m.v5, .data 14 n fun (i : Nat) => (E i).row, .sint .u64 m.n, .sint .i64 m.a]), none)])) (by kernel_rfl) ?_
  refine hold_stop (fun hd hb => ?_)
  refine ok_loop hd (X := {q : Nat // q ≤ n}) (fun q => wsS n E q.1) (fun q => wsG E q.1) (fun q => n - q.1) [none] ⟨0, by omega⟩ (fits_none (by simp [wsS, evs, fitsA, fitA, nf])) ?_
  rintro ⟨q, q1⟩
  refine ok_sk (.both (.l (.stop [])) (.stop [0])) (S := .fork (decide ((↑q : Int) < (↑n : Int))) (.left (decide (0 ≤ (↑q : Int) ∧ (↑q : Int).toNat < n)) (.stop (Hd.call 23 [.agg [.sint .i64 (E (↑q : Int).toNat).o, .sint .u64 (E (↑q : Int).toNat).s, .sint .u64 (E (↑q : Int).toNat).d0, .sint .u64 (E (↑q : Int).toNat).d1, .sint .u64 (E (↑q : Int).toNat).d2, .sint .u64 (E (↑q : Int).toNat).d3, .sint .u64 (E (↑q : Int).toNat).d4, .sint .u64 (E (↑q : Int).toNat).d5, .sint .u8 (E (↑q : Int).toNat).k, .sint .u64 (E (↑q : Int).toNat).n, .sint .i64 (E (↑q : Int).toNat).t, .sint .i64 (E (↑q : Int).toNat).a, .sint .u64 (E (↑q : Int).toNat).r, .sint .u64 (E (↑q : Int).toNat).f]]) [] ([]))) (.stop (Hd.leaf (.gsl 0 (91 * q))) [0] ([(some (Blk.seq 0 1 (91 * q) (evY E)), some (1, 91 * q, evY E))]))) (by kernel_rfl) ?_
  refine hold_forkD (fun h1 => ?_) (fun h1 => ?_)
  ·
   refine hl (bc fun h2 => by omega) ?_
   refine hold_stop (fun hd hb => ?_)
   refine ok_call0 hd (eput (E q) (hE q (by omega)).1) rfl ?_
   rintro x G (⟨rfl, rfl, my⟩ | ⟨rfl, rfl, my⟩) <;> first | exact absurd (hE q (by omega)).2 my | refine ⟨rfl, fun g hg => (by rcases List.mem_singleton.1 hg with rfl; rfl), ?_⟩
   refine ok_sk (.l (.l (.l (.stop [3, 1, 0, 2])))) (S := .left (@decide (91 < 65536 ∧ RowsOK 1 91 fun (i : Nat) => List.take 1 (List.drop (i * 1) [.sint .u8 ((E q).o % 256), .sint .u8 ((E q).s / 72057594037927936 % 256), .sint .u8 ((E q).s / 281474976710656 % 256), .sint .u8 ((E q).s / 1099511627776 % 256), .sint .u8 ((E q).s / 4294967296 % 256), .sint .u8 ((E q).s / 16777216 % 256), .sint .u8 ((E q).s / 65536 % 256), .sint .u8 ((E q).s / 256 % 256), .sint .u8 ((E q).s % 256), .sint .u8 ((E q).d0 / 72057594037927936 % 256), .sint .u8 ((E q).d0 / 281474976710656 % 256), .sint .u8 ((E q).d0 / 1099511627776 % 256), .sint .u8 ((E q).d0 / 4294967296 % 256), .sint .u8 ((E q).d0 / 16777216 % 256), .sint .u8 ((E q).d0 / 65536 % 256), .sint .u8 ((E q).d0 / 256 % 256), .sint .u8 ((E q).d0 / 1 % 256), .sint .u8 ((E q).d1 / 72057594037927936 % 256), .sint .u8 ((E q).d1 / 281474976710656 % 256), .sint .u8 ((E q).d1 / 1099511627776 % 256), .sint .u8 ((E q).d1 / 4294967296 % 256), .sint .u8 ((E q).d1 / 16777216 % 256), .sint .u8 ((E q).d1 / 65536 % 256), .sint .u8 ((E q).d1 / 256 % 256), .sint .u8 ((E q).d1 / 1 % 256), .sint .u8 ((E q).d2 / 72057594037927936 % 256), .sint .u8 ((E q).d2 / 281474976710656 % 256), .sint .u8 ((E q).d2 / 1099511627776 % 256), .sint .u8 ((E q).d2 / 4294967296 % 256), .sint .u8 ((E q).d2 / 16777216 % 256), .sint .u8 ((E q).d2 / 65536 % 256), .sint .u8 ((E q).d2 / 256 % 256), .sint .u8 ((E q).d2 / 1 % 256), .sint .u8 ((E q).d3 / 72057594037927936 % 256), .sint .u8 ((E q).d3 / 281474976710656 % 256), .sint .u8 ((E q).d3 / 1099511627776 % 256), .sint .u8 ((E q).d3 / 4294967296 % 256), .sint .u8 ((E q).d3 / 16777216 % 256), .sint .u8 ((E q).d3 / 65536 % 256), .sint .u8 ((E q).d3 / 256 % 256), .sint .u8 ((E q).d3 / 1 % 256), .sint .u8 ((E q).d4 / 72057594037927936 % 256), .sint .u8 ((E q).d4 / 281474976710656 % 256), .sint .u8 ((E q).d4 / 1099511627776 % 256), .sint .u8 ((E q).d4 / 4294967296 % 256), .sint .u8 ((E q).d4 / 16777216 % 256), .sint .u8 ((E q).d4 / 65536 % 256), .sint .u8 ((E q).d4 / 256 % 256), .sint .u8 ((E q).d4 / 1 % 256), .sint .u8 ((E q).d5 / 72057594037927936 % 256), .sint .u8 ((E q).d5 / 281474976710656 % 256), .sint .u8 ((E q).d5 / 1099511627776 % 256), .sint .u8 ((E q).d5 / 4294967296 % 256), .sint .u8 ((E q).d5 / 16777216 % 256), .sint .u8 ((E q).d5 / 65536 % 256), .sint .u8 ((E q).d5 / 256 % 256), .sint .u8 ((E q).d5 / 1 % 256), .sint .u8 ((E q).k % 256), .sint .u8 ((E q).n / 72057594037927936 % 256), .sint .u8 ((E q).n / 281474976710656 % 256), .sint .u8 ((E q).n / 1099511627776 % 256), .sint .u8 ((E q).n / 4294967296 % 256), .sint .u8 ((E q).n / 16777216 % 256), .sint .u8 ((E q).n / 65536 % 256), .sint .u8 ((E q).n / 256 % 256), .sint .u8 ((E q).n % 256), .sint .u8 ((E q).t % 256), .sint .u8 ((E q).a / 72057594037927936 % 256), .sint .u8 ((E q).a / 281474976710656 % 256), .sint .u8 ((E q).a / 1099511627776 % 256), .sint .u8 ((E q).a / 4294967296 % 256), .sint .u8 ((E q).a / 16777216 % 256), .sint .u8 ((E q).a / 65536 % 256), .sint .u8 ((E q).a / 256 % 256), .sint .u8 ((E q).a % 256), .sint .u8 ((E q).r / 72057594037927936 % 256), .sint .u8 ((E q).r / 281474976710656 % 256), .sint .u8 ((E q).r / 1099511627776 % 256), .sint .u8 ((E q).r / 4294967296 % 256), .sint .u8 ((E q).r / 16777216 % 256), .sint .u8 ((E q).r / 65536 % 256), .sint .u8 ((E q).r / 256 % 256), .sint .u8 ((E q).r % 256), .sint .u8 ((E q).f / 72057594037927936 % 256), .sint .u8 ((E q).f / 281474976710656 % 256), .sint .u8 ((E q).f / 1099511627776 % 256), .sint .u8 ((E q).f / 4294967296 % 256), .sint .u8 ((E q).f / 16777216 % 256), .sint .u8 ((E q).f / 65536 % 256), .sint .u8 ((E q).f / 256 % 256), .sint .u8 ((E q).f % 256)])) pd) (.left (decide (91 * q ≤ 91 * q ∧ 91 * q < 65536)) (.left (decide ((-9223372036854775808 : Int) ≤ (↑q : Int) + 1 ∧ (↑q : Int) + 1 ≤ 9223372036854775807)) (.stop (Hd.again (again' (fun (q : { q : Nat // q ≤ n }) => wsS n E q.val) (fun (q : { q : Nat // q ≤ n }) => wsG E q.val) (fun (q : { q : Nat // q ≤ n }) => n - q.val) ⟨q, q1⟩) [.top, .top, .top, .gsl 3 (91 * q + 91), .top, .ptr 1 0, .top, .data 14 n fun (i : Nat) => (E i).row, .sint .i64 (↑n : Int), .sint .i64 ((↑q : Int) + 1), .bool true, AV.dptr [.sint .i64 (E (↑q : Int).toNat).o, .sint .u64 (E (↑q : Int).toNat).s, .sint .u64 (E (↑q : Int).toNat).d0, .sint .u64 (E (↑q : Int).toNat).d1, .sint .u64 (E (↑q : Int).toNat).d2, .sint .u64 (E (↑q : Int).toNat).d3, .sint .u64 (E (↑q : Int).toNat).d4, .sint .u64 (E (↑q : Int).toNat).d5, .sint .u8 (E (↑q : Int).toNat).k, .sint .u64 (E (↑q : Int).toNat).n, .sint .i64 (E (↑q : Int).toNat).t, .sint .i64 (E (↑q : Int).toNat).a, .sint .u64 (E (↑q : Int).toNat).r, .sint .u64 (E (↑q : Int).toNat).f], .agg [.sint .i64 (E (↑q : Int).toNat).o, .sint .u64 (E (↑q : Int).toNat).s, .sint .u64 (E (↑q : Int).toNat).d0, .sint .u64 (E (↑q : Int).toNat).d1, .sint .u64 (E (↑q : Int).toNat).d2, .sint .u64 (E (↑q : Int).toNat).d3, .sint .u64 (E (↑q : Int).toNat).d4, .sint .u64 (E (↑q : Int).toNat).d5, .sint .u8 (E (↑q : Int).toNat).k, .sint .u64 (E (↑q : Int).toNat).n, .sint .i64 (E (↑q : Int).toNat).t, .sint .i64 (E (↑q : Int).toNat).a, .sint .u64 (E (↑q : Int).toNat).r, .sint .u64 (E (↑q : Int).toNat).f], .gsl 0 (91 * q), .agg [.sint .i64 (E (↑q : Int).toNat).o, .sint .u64 (E (↑q : Int).toNat).s, .sint .u64 (E (↑q : Int).toNat).d0, .sint .u64 (E (↑q : Int).toNat).d1, .sint .u64 (E (↑q : Int).toNat).d2, .sint .u64 (E (↑q : Int).toNat).d3, .sint .u64 (E (↑q : Int).toNat).d4, .sint .u64 (E (↑q : Int).toNat).d5, .sint .u8 (E (↑q : Int).toNat).k, .sint .u64 (E (↑q : Int).toNat).n, .sint .i64 (E (↑q : Int).toNat).t, .sint .i64 (E (↑q : Int).toNat).a, .sint .u64 (E (↑q : Int).toNat).r, .sint .u64 (E (↑q : Int).toNat).f], .slice 2 0 91 91 false, .gsl 3 (91 * q + 91), .sint .i64 ((↑q : Int) + 1), .top]) [3, 1, 0, 2] ([(some (Blk.seq 3 1 (91 * q + 91) (glue (91 * q) (evY E) fun (i : Nat) => List.take 1 (List.drop (i * 1) [.sint .u8 ((E q).o % 256), .sint .u8 ((E q).s / 72057594037927936 % 256), .sint .u8 ((E q).s / 281474976710656 % 256), .sint .u8 ((E q).s / 1099511627776 % 256), .sint .u8 ((E q).s / 4294967296 % 256), .sint .u8 ((E q).s / 16777216 % 256), .sint .u8 ((E q).s / 65536 % 256), .sint .u8 ((E q).s / 256 % 256), .sint .u8 ((E q).s % 256), .sint .u8 ((E q).d0 / 72057594037927936 % 256), .sint .u8 ((E q).d0 / 281474976710656 % 256), .sint .u8 ((E q).d0 / 1099511627776 % 256), .sint .u8 ((E q).d0 / 4294967296 % 256), .sint .u8 ((E q).d0 / 16777216 % 256), .sint .u8 ((E q).d0 / 65536 % 256), .sint .u8 ((E q).d0 / 256 % 256), .sint .u8 ((E q).d0 / 1 % 256), .sint .u8 ((E q).d1 / 72057594037927936 % 256), .sint .u8 ((E q).d1 / 281474976710656 % 256), .sint .u8 ((E q).d1 / 1099511627776 % 256), .sint .u8 ((E q).d1 / 4294967296 % 256), .sint .u8 ((E q).d1 / 16777216 % 256), .sint .u8 ((E q).d1 / 65536 % 256), .sint .u8 ((E q).d1 / 256 % 256), .sint .u8 ((E q).d1 / 1 % 256), .sint .u8 ((E q).d2 / 72057594037927936 % 256), .sint .u8 ((E q).d2 / 281474976710656 % 256), .sint .u8 ((E q).d2 / 1099511627776 % 256), .sint .u8 ((E q).d2 / 4294967296 % 256), .sint .u8 ((E q).d2 / 16777216 % 256), .sint .u8 ((E q).d2 / 65536 % 256), .sint .u8 ((E q).d2 / 256 % 256), .sint .u8 ((E q).d2 / 1 % 256), .sint .u8 ((E q).d3 / 72057594037927936 % 256), .sint .u8 ((E q).d3 / 281474976710656 % 256), .sint .u8 ((E q).d3 / 1099511627776 % 256), .sint .u8 ((E q).d3 / 4294967296 % 256), .sint .u8 ((E q).d3 / 16777216 % 256), .sint .u8 ((E q).d3 / 65536 % 256), .sint .u8 ((E q).d3 / 256 % 256), .sint .u8 ((E q).d3 / 1 % 256), .sint .u8 ((E q).d4 / 72057594037927936 % 256), .sint .u8 ((E q).d4 / 281474976710656 % 256), .sint .u8 ((E q).d4 / 1099511627776 % 256), .sint .u8 ((E q).d4 / 4294967296 % 256), .sint .u8 ((E q).d4 / 16777216 % 256), .sint .u8 ((E q).d4 / 65536 % 256), .sint .u8 ((E q).d4 / 256 % 256), .sint .u8 ((E q).d4 / 1 % 256), .sint .u8 ((E q).d5 / 72057594037927936 % 256), .sint .u8 ((E q).d5 / 281474976710656 % 256), .sint .u8 ((E q).d5 / 1099511627776 % 256), .sint .u8 ((E q).d5 / 4294967296 % 256), .sint .u8 ((E q).d5 / 16777216 % 256), .sint .u8 ((E q).d5 / 65536 % 256), .sint .u8 ((E q).d5 / 256 % 256), .sint .u8 ((E q).d5 / 1 % 256), .sint .u8 ((E q).k % 256), .sint .u8 ((E q).n / 72057594037927936 % 256), .sint .u8 ((E q).n / 281474976710656 % 256), .sint .u8 ((E q).n / 1099511627776 % 256), .sint .u8 ((E q).n / 4294967296 % 256), .sint .u8 ((E q).n / 16777216 % 256), .sint .u8 ((E q).n / 65536 % 256), .sint .u8 ((E q).n / 256 % 256), .sint .u8 ((E q).n % 256), .sint .u8 ((E q).t % 256), .sint .u8 ((E q).a / 72057594037927936 % 256), .sint .u8 ((E q).a / 281474976710656 % 256), .sint .u8 ((E q).a / 1099511627776 % 256), .sint .u8 ((E q).a / 4294967296 % 256), .sint .u8 ((E q).a / 16777216 % 256), .sint .u8 ((E q).a / 65536 % 256), .sint .u8 ((E q).a / 256 % 256), .sint .u8 ((E q).a % 256), .sint .u8 ((E q).r / 72057594037927936 % 256), .sint .u8 ((E q).r / 281474976710656 % 256), .sint .u8 ((E q).r / 1099511627776 % 256), .sint .u8 ((E q).r / 4294967296 % 256), .sint .u8 ((E q).r / 16777216 % 256), .sint .u8 ((E q).r / 65536 % 256), .sint .u8 ((E q).r / 256 % 256), .sint .u8 ((E q).r % 256), .sint .u8 ((E q).f / 72057594037927936 % 256), .sint .u8 ((E q).f / 281474976710656 % 256), .sint .u8 ((E q).f / 1099511627776 % 256), .sint .u8 ((E q).f / 4294967296 % 256), .sint .u8 ((E q).f / 16777216 % 256), .sint .u8 ((E q).f / 65536 % 256), .sint .u8 ((E q).f / 256 % 256), .sint .u8 ((E q).f % 256)]))), some (1, 91 * q + 91, glue (91 * q) (evY E) fun (i : Nat) => List.take 1 (List.drop (i * 1) [.sint .u8 ((E q).o % 256), .sint .u8 ((E q).s / 72057594037927936 % 256), .sint .u8 ((E q).s / 281474976710656 % 256), .sint .u8 ((E q).s / 1099511627776 % 256), .sint .u8 ((E q).s / 4294967296 % 256), .sint .u8 ((E q).s / 16777216 % 256), .sint .u8 ((E q).s / 65536 % 256), .sint .u8 ((E q).s / 256 % 256), .sint .u8 ((E q).s % 256), .sint .u8 ((E q).d0 / 72057594037927936 % 256), .sint .u8 ((E q).d0 / 281474976710656 % 256), .sint .u8 ((E q).d0 / 1099511627776 % 256), .sint .u8 ((E q).d0 / 4294967296 % 256), .sint .u8 ((E q).d0 / 16777216 % 256), .sint .u8 ((E q).d0 / 65536 % 256), .sint .u8 ((E q).d0 / 256 % 256), .sint .u8 ((E q).d0 / 1 % 256), .sint .u8 ((E q).d1 / 72057594037927936 % 256), .sint .u8 ((E q).d1 / 281474976710656 % 256), .sint .u8 ((E q).d1 / 1099511627776 % 256), .sint .u8 ((E q).d1 / 4294967296 % 256), .sint .u8 ((E q).d1 / 16777216 % 256), .sint .u8 ((E q).d1 / 65536 % 256), .sint .u8 ((E q).d1 / 256 % 256), .sint .u8 ((E q).d1 / 1 % 256), .sint .u8 ((E q).d2 / 72057594037927936 % 256), .sint .u8 ((E q).d2 / 281474976710656 % 256), .sint .u8 ((E q).d2 / 1099511627776 % 256), .sint .u8 ((E q).d2 / 4294967296 % 256), .sint .u8 ((E q).d2 / 16777216 % 256), .sint .u8 ((E q).d2 / 65536 % 256), .sint .u8 ((E q).d2 / 256 % 256), .sint .u8 ((E q).d2 / 1 % 256), .sint .u8 ((E q).d3 / 72057594037927936 % 256), .sint .u8 ((E q).d3 / 281474976710656 % 256), .sint .u8 ((E q).d3 / 1099511627776 % 256), .sint .u8 ((E q).d3 / 4294967296 % 256), .sint .u8 ((E q).d3 / 16777216 % 256), .sint .u8 ((E q).d3 / 65536 % 256), .sint .u8 ((E q).d3 / 256 % 256), .sint .u8 ((E q).d3 / 1 % 256), .sint .u8 ((E q).d4 / 72057594037927936 % 256), .sint .u8 ((E q).d4 / 281474976710656 % 256), .sint .u8 ((E q).d4 / 1099511627776 % 256), .sint .u8 ((E q).d4 / 4294967296 % 256), .sint .u8 ((E q).d4 / 16777216 % 256), .sint .u8 ((E q).d4 / 65536 % 256), .sint .u8 ((E q).d4 / 256 % 256), .sint .u8 ((E q).d4 / 1 % 256), .sint .u8 ((E q).d5 / 72057594037927936 % 256), .sint .u8 ((E q).d5 / 281474976710656 % 256), .sint .u8 ((E q).d5 / 1099511627776 % 256), .sint .u8 ((E q).d5 / 4294967296 % 256), .sint .u8 ((E q).d5 / 16777216 % 256), .sint .u8 ((E q).d5 / 65536 % 256), .sint .u8 ((E q).d5 / 256 % 256), .sint .u8 ((E q).d5 / 1 % 256), .sint .u8 ((E q).k % 256), .sint .u8 ((E q).n / 72057594037927936 % 256), .sint .u8 ((E q).n / 281474976710656 % 256), .sint .u8 ((E q).n / 1099511627776 % 256), .sint .u8 ((E q).n / 4294967296 % 256), .sint .u8 ((E q).n / 16777216 % 256), .sint .u8 ((E q).n / 65536 % 256), .sint .u8 ((E q).n / 256 % 256), .sint .u8 ((E q).n % 256), .sint .u8 ((E q).t % 256), .sint .u8 ((E q).a / 72057594037927936 % 256), .sint .u8 ((E q).a / 281474976710656 % 256), .sint .u8 ((E q).a / 1099511627776 % 256), .sint .u8 ((E q).a / 4294967296 % 256), .sint .u8 ((E q).a / 16777216 % 256), .sint .u8 ((E q).a / 65536 % 256), .sint .u8 ((E q).a / 256 % 256), .sint .u8 ((E q).a % 256), .sint .u8 ((E q).r / 72057594037927936 % 256), .sint .u8 ((E q).r / 281474976710656 % 256), .sint .u8 ((E q).r / 1099511627776 % 256), .sint .u8 ((E q).r / 4294967296 % 256), .sint .u8 ((E q).r / 16777216 % 256), .sint .u8 ((E q).r / 65536 % 256), .sint .u8 ((E q).r / 256 % 256), .sint .u8 ((E q).r % 256), .sint .u8 ((E q).f / 72057594037927936 % 256), .sint .u8 ((E q).f / 281474976710656 % 256), .sint .u8 ((E q).f / 1099511627776 % 256), .sint .u8 ((E q).f / 4294967296 % 256), .sint .u8 ((E q).f / 16777216 % 256), .sint .u8 ((E q).f / 65536 % 256), .sint .u8 ((E q).f / 256 % 256), .sint .u8 ((E q).f % 256)]))), (some (Blk.cells 1 none [.sint .i64 (E (↑q : Int).toNat).o, .sint .u64 (E (↑q : Int).toNat).s, .sint .u64 (E (↑q : Int).toNat).d0, .sint .u64 (E (↑q : Int).toNat).d1, .sint .u64 (E (↑q : Int).toNat).d2, .sint .u64 (E (↑q : Int).toNat).d3, .sint .u64 (E (↑q : Int).toNat).d4, .sint .u64 (E (↑q : Int).toNat).d5, .sint .u8 (E (↑q : Int).toNat).k, .sint .u64 (E (↑q : Int).toNat).n, .sint .i64 (E (↑q : Int).toNat).t, .sint .i64 (E (↑q : Int).toNat).a, .sint .u64 (E (↑q : Int).toNat).r, .sint .u64 (E (↑q : Int).toNat).f]), none), (some Blk.dead, none), (some (Blk.cells 2 (some 1) [.sint .u8 ((E q).o % 256), .sint .u8 ((E q).s / 72057594037927936 % 256), .sint .u8 ((E q).s / 281474976710656 % 256), .sint .u8 ((E q).s / 1099511627776 % 256), .sint .u8 ((E q).s / 4294967296 % 256), .sint .u8 ((E q).s / 16777216 % 256), .sint .u8 ((E q).s / 65536 % 256), .sint .u8 ((E q).s / 256 % 256), .sint .u8 ((E q).s % 256), .sint .u8 ((E q).d0 / 72057594037927936 % 256), .sint .u8 ((E q).d0 / 281474976710656 % 256), .sint .u8 ((E q).d0 / 1099511627776 % 256), .sint .u8 ((E q).d0 / 4294967296 % 256), .sint .u8 ((E q).d0 / 16777216 % 256), .sint .u8 ((E q).d0 / 65536 % 256), .sint .u8 ((E q).d0 / 256 % 256), .sint .u8 ((E q).d0 / 1 % 256), .sint .u8 ((E q).d1 / 72057594037927936 % 256), .sint .u8 ((E q).d1 / 281474976710656 % 256), .sint .u8 ((E q).d1 / 1099511627776 % 256), .sint .u8 ((E q).d1 / 4294967296 % 256), .sint .u8 ((E q).d1 / 16777216 % 256), .sint .u8 ((E q).d1 / 65536 % 256), .sint .u8 ((E q).d1 / 256 % 256), .sint .u8 ((E q).d1 / 1 % 256), .sint .u8 ((E q).d2 / 72057594037927936 % 256), .sint .u8 ((E q).d2 / 281474976710656 % 256), .sint .u8 ((E q).d2 / 1099511627776 % 256), .sint .u8 ((E q).d2 / 4294967296 % 256), .sint .u8 ((E q).d2 / 16777216 % 256), .sint .u8 ((E q).d2 / 65536 % 256), .sint .u8 ((E q).d2 / 256 % 256), .sint .u8 ((E q).d2 / 1 % 256), .sint .u8 ((E q).d3 / 72057594037927936 % 256), .sint .u8 ((E q).d3 / 281474976710656 % 256), .sint .u8 ((E q).d3 / 1099511627776 % 256), .sint .u8 ((E q).d3 / 4294967296 % 256), .sint .u8 ((E q).d3 / 16777216 % 256), .sint .u8 ((E q).d3 / 65536 % 256), .sint .u8 ((E q).d3 / 256 % 256), .sint .u8 ((E q).d3 / 1 % 256), .sint .u8 ((E q).d4 / 72057594037927936 % 256), .sint .u8 ((E q).d4 / 281474976710656 % 256), .sint .u8 ((E q).d4 / 1099511627776 % 256), .sint .u8 ((E q).d4 / 4294967296 % 256), .sint .u8 ((E q).d4 / 16777216 % 256), .sint .u8 ((E q).d4 / 65536 % 256), .sint .u8 ((E q).d4 / 256 % 256), .sint .u8 ((E q).d4 / 1 % 256), .sint .u8 ((E q).d5 / 72057594037927936 % 256), .sint .u8 ((E q).d5 / 281474976710656 % 256), .sint .u8 ((E q).d5 / 1099511627776 % 256), .sint .u8 ((E q).d5 / 4294967296 % 256), .sint .u8 ((E q).d5 / 16777216 % 256), .sint .u8 ((E q).d5 / 65536 % 256), .sint .u8 ((E q).d5 / 256 % 256), .sint .u8 ((E q).d5 / 1 % 256), .sint .u8 ((E q).k % 256), .sint .u8 ((E q).n / 72057594037927936 % 256), .sint .u8 ((E q).n / 281474976710656 % 256), .sint .u8 ((E q).n / 1099511627776 % 256), .sint .u8 ((E q).n / 4294967296 % 256), .sint .u8 ((E q).n / 16777216 % 256), .sint .u8 ((E q).n / 65536 % 256), .sint .u8 ((E q).n / 256 % 256), .sint .u8 ((E q).n % 256), .sint .u8 ((E q).t % 256), .sint .u8 ((E q).a / 72057594037927936 % 256), .sint .u8 ((E q).a / 281474976710656 % 256), .sint .u8 ((E q).a / 1099511627776 % 256), .sint .u8 ((E q).a / 4294967296 % 256), .sint .u8 ((E q).a / 16777216 % 256), .sint .u8 ((E q).a / 65536 % 256), .sint .u8 ((E q).a / 256 % 256), .sint .u8 ((E q).a % 256), .sint .u8 ((E q).r / 72057594037927936 % 256), .sint .u8 ((E q).r / 281474976710656 % 256), .sint .u8 ((E q).r / 1099511627776 % 256), .sint .u8 ((E q).r / 4294967296 % 256), .sint .u8 ((E q).r / 16777216 % 256), .sint .u8 ((E q).r / 65536 % 256), .sint .u8 ((E q).r / 256 % 256), .sint .u8 ((E q).r % 256), .sint .u8 ((E q).f / 72057594037927936 % 256), .sint .u8 ((E q).f / 281474976710656 % 256), .sint .u8 ((E q).f / 1099511627776 % 256), .sint .u8 ((E q).f / 4294967296 % 256), .sint .u8 ((E q).f / 16777216 % 256), .sint .u8 ((E q).f / 65536 % 256), .sint .u8 ((E q).f / 256 % 256), .sint .u8 ((E q).f % 256)]), none)]))))) (by kernel_rfl) ?_
   refine hl (bc fun h3 => by exact h3 ⟨by omega, rows1 rfl rfl⟩) ?_
   refine hl (bc fun h3 => by omega) ?_
   refine hl (bc fun h3 => by omega) ?_
   refine hold_stop (fun hd hb => ?_)
   refine ok_again hd _ ⟨q + 1, by omega⟩ ?_ (fits_seq (look_hd hb) ?_ (Nat.le_refl _) (evY_glue E q ?_))
   · show n - (q + 1) < n - q
     omega
   · simp [wsS, evs, fitsA, fitA, nf] <;> omega
   · rfl
  refine hold_stop (fun hd hb => ?_)
  exact ok_leafG hd hb (y := .gsl 0 (91 * n)) (by simp [fitA, fitsA, nf]; omega) (by omega) (fun i hi => ⟨rfl, rfl⟩) ⟨rfl, rfl⟩
end Go.Proofs.Ytjihbjjekhncaaa
namespace Go.Proofs.Ytjihbjjekhncaaa
open Go Go.RowKit Sv
set_option linter.unusedVariables false
set_option maxRecDepth 100000
set_option maxHeartbeats 0
def MsI.rng (m : MsI) : Prop := (0 ≤ m.v0 ∧ m.v0 ≤ 18446744073709551615) ∧ (0 ≤ m.v1 ∧ m.v1 ≤ 18446744073709551615) ∧ (0 ≤ m.v2 ∧ m.v2 ≤ 18446744073709551615) ∧ (0 ≤ m.v3 ∧ m.v3 ≤ 18446744073709551615) ∧ (0 ≤ m.v4 ∧ m.v4 ≤ 18446744073709551615) ∧ (0 ≤ m.v5 ∧ m.v5 ≤ 18446744073709551615) ∧ (0 ≤ m.n ∧ m.n ≤ 18446744073709551615)
/-- the first 51 bytes. -/
def MsI.hd (m : MsI) : List Int := [m.k, m.f % 256, m.t % 256] ++ be8d m.v0 ++ be8d m.v1 ++ be8d m.v2 ++ be8d m.v3 ++ be8d m.v4 ++ be8d m.v5
def MsI.ask (m : MsI) : List Int := m.hd ++ be8 m.n ++ be8 m.a
theorem ms_kind {m : MsI} {q : Nat} {E : Nat → EvI} (h : m.may q E) : (m.k = 1 ∨ m.k = 2) ∧ (m.k = 2 → 1 ≤ m.a ∧ m.a ≤ 1125899906842624) ∧ (m.k = 1 → q ≤ 16) := by
  rcases h.2.2 with h | h <;> omega
theorem ms_evs {m : MsI} {q : Nat} {E : Nat → EvI} (h : m.may q E) (h1 : m.k = 1) : ∀ j, j < q → (E j).may := by
  rcases h.2.2 with h | h
  · exact h.2.2.2.2
  · omega
/-- a Sync's bytes. -/
def synY (m : MsI) (E : Nat → EvI) : Nat → List AV := glue 51 (fun j => ((m.hd.map cell8).drop (j * 1)).take 1) (evY E)
theorem rowsE (E : Nat → EvI) (n : Nat) : RowsOK 1 n (evY E) := fun i hi => ⟨rfl, rfl⟩
theorem hd_len (m : MsI) : m.hd.length = 51 := rfl
theorem syn_lt (m : MsI) (E : Nat → EvI) {i : Nat} (h : i < 51) : synY m E i = [cell8 (m.hd.getD i 0)] := by
  have hr : i < (m.hd.map cell8).length := by
    rw [List.length_map, hd_len]
    exact h
  unfold synY glue
  rw [if_pos h]
  show ((m.hd.map cell8).drop (i * 1)).take 1 = _
  rw [take_drop hr, List.getElem_map, List.getD_eq_getElem?_getD, List.getElem?_eq_getElem (by rw [hd_len]; exact h), Option.getD_some]
theorem syn_ge (m : MsI) (E : Nat → EvI) {i : Nat} (h : ¬ i < 51) : synY m E i = evY E (i - 51) := by
  unfold synY glue
  rw [if_neg h]
theorem nf_syn (m : MsI) (E : Nat → EvI) (i : Nat) : nfs (synY m E i) = true := by
  by_cases h : i < 51
  · rw [syn_lt m E h]
    rfl
  · rw [syn_ge m E h]
    rfl
theorem mput (m : MsI) (q : Nat) (E : Nat → EvI) (hq : q ≤ 1099511627776) (hr : m.rng) (hE : ∀ j, j < q → (E j).rng) : Runs Try.prog 32 [.agg (m.row (evs q E))] fun x G =>
    (x = .nilSlice ∧ G = [] ∧ ¬ m.may q E) ∨
    (m.k = 1 ∧ m.may q E ∧ x = .gsl 0 (51 + 91 * q) ∧ G = [.seq 1 (51 + 91 * q) (synY m E)]) ∨
    (m.k = 2 ∧ m.may q E ∧ x = .slice 0 0 67 67 false ∧ G = [.cells (some 1) (m.ask.map cell8)]) := by
  unfold MsI.rng at hr
  refine runs_treeF plain mixed (fun g => Nat.beq g 30 || Nat.beq g 95) (fun _ => true) 60 ?_
  refine ok_sk (.stop []) (S := .stop (Hd.call 30 [.agg [.sint .u8 m.k, .sint .i64 m.f, .sint .i64 m.t, .sint .u64 m.v0, .sint .u64 m.v1, .sint .u64 m.v2, .sint .u64 m.v3, .sint .u64 m.v4, .sint .u64 m.v5, .data 14 q fun (i : Nat) => (E i).row, .sint .u64 m.n, .sint .i64 m.a]]) [] ([])) (by kernel_rfl) ?_
  refine hold_stop (fun hd hb => ?_)
  refine ok_call0 hd (mmay m q E hq) rfl ?_
  rintro x G ⟨rfl, ⟨rfl, my⟩ | ⟨rfl, my⟩⟩ <;> refine ⟨rfl, fun g hg => (by cases hg), ?_⟩
  have my1 := my.1
  have my2 := my.2.1
  have my3 := ms_kind my
  ·
   refine ok_sk (.l (.l (.l (.l (.l (.l (.l (.l (.l (.l (.l (.l (.l (.both (.stop []) (.l (.r (.l (.r (.stop [65]))))))))))))))))))) (S := .left (decide (m.k = m.k)) (.left (decide (m.f = m.f)) (.left (decide (m.t = m.t)) (.left (decide (m.v0 = m.v0)) (.left (decide (m.v1 = m.v1)) (.left (decide (m.v2 = m.v2)) (.left (decide (m.v3 = m.v3)) (.left (decide (m.v4 = m.v4)) (.left (decide (m.v5 = m.v5)) (.left (@decide (14 = 14 ∧ q = q ∧ (fun (i : Nat) => (E i).row) = fun (i : Nat) => (E i).row) pd) (.left (decide (m.n = m.n)) (.left (decide (m.a = m.a)) (.left (decide (m.k = m.k)) (.fork (decide (m.k = 1)) (.stop (Hd.call 95 [.agg [.sint .u8 m.k, .sint .i64 m.f, .sint .i64 m.t, .sint .u64 m.v0, .sint .u64 m.v1, .sint .u64 m.v2, .sint .u64 m.v3, .sint .u64 m.v4, .sint .u64 m.v5, .data 14 q fun (i : Nat) => (E i).row, .sint .u64 m.n, .sint .i64 m.a]]) [] ([])) (.left (decide (m.k = 2)) (.right (decide (18446744073709551615 < m.n)) (.left (decide (0 ≤ m.a ∧ m.a ≤ 18446744073709551615)) (.right (decide (18446744073709551615 < m.a)) (.stop (Hd.leaf (.slice 65 0 67 67 false)) [65] ([(some (Blk.cells 52 (some 1) [.sint .u8 m.k, .sint .u8 (m.f % 256), .sint .u8 (m.t % 256), .sint .u8 (m.v0 / 72057594037927936 % 256), .sint .u8 (m.v0 / 281474976710656 % 256), .sint .u8 (m.v0 / 1099511627776 % 256), .sint .u8 (m.v0 / 4294967296 % 256), .sint .u8 (m.v0 / 16777216 % 256), .sint .u8 (m.v0 / 65536 % 256), .sint .u8 (m.v0 / 256 % 256), .sint .u8 (m.v0 / 1 % 256), .sint .u8 (m.v1 / 72057594037927936 % 256), .sint .u8 (m.v1 / 281474976710656 % 256), .sint .u8 (m.v1 / 1099511627776 % 256), .sint .u8 (m.v1 / 4294967296 % 256), .sint .u8 (m.v1 / 16777216 % 256), .sint .u8 (m.v1 / 65536 % 256), .sint .u8 (m.v1 / 256 % 256), .sint .u8 (m.v1 / 1 % 256), .sint .u8 (m.v2 / 72057594037927936 % 256), .sint .u8 (m.v2 / 281474976710656 % 256), .sint .u8 (m.v2 / 1099511627776 % 256), .sint .u8 (m.v2 / 4294967296 % 256), .sint .u8 (m.v2 / 16777216 % 256), .sint .u8 (m.v2 / 65536 % 256), .sint .u8 (m.v2 / 256 % 256), .sint .u8 (m.v2 / 1 % 256), .sint .u8 (m.v3 / 72057594037927936 % 256), .sint .u8 (m.v3 / 281474976710656 % 256), .sint .u8 (m.v3 / 1099511627776 % 256), .sint .u8 (m.v3 / 4294967296 % 256), .sint .u8 (m.v3 / 16777216 % 256), .sint .u8 (m.v3 / 65536 % 256), .sint .u8 (m.v3 / 256 % 256), .sint .u8 (m.v3 / 1 % 256), .sint .u8 (m.v4 / 72057594037927936 % 256), .sint .u8 (m.v4 / 281474976710656 % 256), .sint .u8 (m.v4 / 1099511627776 % 256), .sint .u8 (m.v4 / 4294967296 % 256), .sint .u8 (m.v4 / 16777216 % 256), .sint .u8 (m.v4 / 65536 % 256), .sint .u8 (m.v4 / 256 % 256), .sint .u8 (m.v4 / 1 % 256), .sint .u8 (m.v5 / 72057594037927936 % 256), .sint .u8 (m.v5 / 281474976710656 % 256), .sint .u8 (m.v5 / 1099511627776 % 256), .sint .u8 (m.v5 / 4294967296 % 256), .sint .u8 (m.v5 / 16777216 % 256), .sint .u8 (m.v5 / 65536 % 256), .sint .u8 (m.v5 / 256 % 256), .sint .u8 (m.v5 / 1 % 256), .sint .u8 (m.n / 72057594037927936 % 256), .sint .u8 (m.n / 281474976710656 % 256), .sint .u8 (m.n / 1099511627776 % 256), .sint .u8 (m.n / 4294967296 % 256), .sint .u8 (m.n / 16777216 % 256), .sint .u8 (m.n / 65536 % 256), .sint .u8 (m.n / 256 % 256), .sint .u8 (m.n % 256), .sint .u8 (m.a / 72057594037927936 % 256), .sint .u8 (m.a / 281474976710656 % 256), .sint .u8 (m.a / 1099511627776 % 256), .sint .u8 (m.a / 4294967296 % 256), .sint .u8 (m.a / 16777216 % 256), .sint .u8 (m.a / 65536 % 256), .sint .u8 (m.a / 256 % 256), .sint .u8 (m.a % 256)]), none)])))))))))))))))))))) (by kernel_rfl) ?_
   refine hl (bc fun h1 => by omega) ?_
   refine hl (bc fun h1 => by omega) ?_
   refine hl (bc fun h1 => by omega) ?_
   refine hl (bc fun h1 => by omega) ?_
   refine hl (bc fun h1 => by omega) ?_
   refine hl (bc fun h1 => by omega) ?_
   refine hl (bc fun h1 => by omega) ?_
   refine hl (bc fun h1 => by omega) ?_
   refine hl (bc fun h1 => by omega) ?_
   refine hl (bc fun h1 => by exact h1 ⟨rfl, rfl, rfl⟩) ?_
   refine hl (bc fun h1 => by omega) ?_
   refine hl (bc fun h1 => by omega) ?_
   refine hl (bc fun h1 => by omega) ?_
   refine hold_forkD (fun h1 => ?_) (fun h1 => ?_)
   ·
    refine hold_stop (fun hd hb => ?_)
    refine ok_call0 hd (wsync m q E (by omega) fun j hj => ⟨hE j hj, ms_evs my (by omega) j hj⟩) rfl ?_
    rintro x G ⟨rfl, rfl⟩
    refine ⟨rfl, fun g hg => (by rcases List.mem_singleton.1 hg with rfl; exact fun _ _ => rfl), ?_⟩
    refine ok_sk (.l (.l (.stop [55]))) (S := .left (decide (91 * q ≤ 91 * q)) (.left (@decide (91 * q < 65536 ∧ RowsOK 1 (91 * q) (evY E)) pd) (.stop (Hd.leaf (.gsl 55 (51 + 91 * q))) [55] ([(some (Blk.seq 55 1 (51 + 91 * q) (glue 51 (fun (j : Nat) => List.take 1 (List.drop (j * 1) ([.sint .u8 m.k, .sint .u8 (m.f % 256), .sint .u8 (m.t % 256)] ++ [.sint .u8 (m.v0 / 72057594037927936 % 256), .sint .u8 (m.v0 / 281474976710656 % 256), .sint .u8 (m.v0 / 1099511627776 % 256), .sint .u8 (m.v0 / 4294967296 % 256), .sint .u8 (m.v0 / 16777216 % 256), .sint .u8 (m.v0 / 65536 % 256), .sint .u8 (m.v0 / 256 % 256), .sint .u8 (m.v0 / 1 % 256), .sint .u8 (m.v1 / 72057594037927936 % 256), .sint .u8 (m.v1 / 281474976710656 % 256), .sint .u8 (m.v1 / 1099511627776 % 256), .sint .u8 (m.v1 / 4294967296 % 256), .sint .u8 (m.v1 / 16777216 % 256), .sint .u8 (m.v1 / 65536 % 256), .sint .u8 (m.v1 / 256 % 256), .sint .u8 (m.v1 / 1 % 256), .sint .u8 (m.v2 / 72057594037927936 % 256), .sint .u8 (m.v2 / 281474976710656 % 256), .sint .u8 (m.v2 / 1099511627776 % 256), .sint .u8 (m.v2 / 4294967296 % 256), .sint .u8 (m.v2 / 16777216 % 256), .sint .u8 (m.v2 / 65536 % 256), .sint .u8 (m.v2 / 256 % 256), .sint .u8 (m.v2 / 1 % 256), .sint .u8 (m.v3 / 72057594037927936 % 256), .sint .u8 (m.v3 / 281474976710656 % 256), .sint .u8 (m.v3 / 1099511627776 % 256), .sint .u8 (m.v3 / 4294967296 % 256), .sint .u8 (m.v3 / 16777216 % 256), .sint .u8 (m.v3 / 65536 % 256), .sint .u8 (m.v3 / 256 % 256), .sint .u8 (m.v3 / 1 % 256), .sint .u8 (m.v4 / 72057594037927936 % 256), .sint .u8 (m.v4 / 281474976710656 % 256), .sint .u8 (m.v4 / 1099511627776 % 256), .sint .u8 (m.v4 / 4294967296 % 256), .sint .u8 (m.v4 / 16777216 % 256), .sint .u8 (m.v4 / 65536 % 256), .sint .u8 (m.v4 / 256 % 256), .sint .u8 (m.v4 / 1 % 256), .sint .u8 (m.v5 / 72057594037927936 % 256), .sint .u8 (m.v5 / 281474976710656 % 256), .sint .u8 (m.v5 / 1099511627776 % 256), .sint .u8 (m.v5 / 4294967296 % 256), .sint .u8 (m.v5 / 16777216 % 256), .sint .u8 (m.v5 / 65536 % 256), .sint .u8 (m.v5 / 256 % 256), .sint .u8 (m.v5 / 1 % 256)]))) (evY E))), some (1, 51 + 91 * q, glue 51 (fun (j : Nat) => List.take 1 (List.drop (j * 1) ([.sint .u8 m.k, .sint .u8 (m.f % 256), .sint .u8 (m.t % 256)] ++ [.sint .u8 (m.v0 / 72057594037927936 % 256), .sint .u8 (m.v0 / 281474976710656 % 256), .sint .u8 (m.v0 / 1099511627776 % 256), .sint .u8 (m.v0 / 4294967296 % 256), .sint .u8 (m.v0 / 16777216 % 256), .sint .u8 (m.v0 / 65536 % 256), .sint .u8 (m.v0 / 256 % 256), .sint .u8 (m.v0 / 1 % 256), .sint .u8 (m.v1 / 72057594037927936 % 256), .sint .u8 (m.v1 / 281474976710656 % 256), .sint .u8 (m.v1 / 1099511627776 % 256), .sint .u8 (m.v1 / 4294967296 % 256), .sint .u8 (m.v1 / 16777216 % 256), .sint .u8 (m.v1 / 65536 % 256), .sint .u8 (m.v1 / 256 % 256), .sint .u8 (m.v1 / 1 % 256), .sint .u8 (m.v2 / 72057594037927936 % 256), .sint .u8 (m.v2 / 281474976710656 % 256), .sint .u8 (m.v2 / 1099511627776 % 256), .sint .u8 (m.v2 / 4294967296 % 256), .sint .u8 (m.v2 / 16777216 % 256), .sint .u8 (m.v2 / 65536 % 256), .sint .u8 (m.v2 / 256 % 256), .sint .u8 (m.v2 / 1 % 256), .sint .u8 (m.v3 / 72057594037927936 % 256), .sint .u8 (m.v3 / 281474976710656 % 256), .sint .u8 (m.v3 / 1099511627776 % 256), .sint .u8 (m.v3 / 4294967296 % 256), .sint .u8 (m.v3 / 16777216 % 256), .sint .u8 (m.v3 / 65536 % 256), .sint .u8 (m.v3 / 256 % 256), .sint .u8 (m.v3 / 1 % 256), .sint .u8 (m.v4 / 72057594037927936 % 256), .sint .u8 (m.v4 / 281474976710656 % 256), .sint .u8 (m.v4 / 1099511627776 % 256), .sint .u8 (m.v4 / 4294967296 % 256), .sint .u8 (m.v4 / 16777216 % 256), .sint .u8 (m.v4 / 65536 % 256), .sint .u8 (m.v4 / 256 % 256), .sint .u8 (m.v4 / 1 % 256), .sint .u8 (m.v5 / 72057594037927936 % 256), .sint .u8 (m.v5 / 281474976710656 % 256), .sint .u8 (m.v5 / 1099511627776 % 256), .sint .u8 (m.v5 / 4294967296 % 256), .sint .u8 (m.v5 / 16777216 % 256), .sint .u8 (m.v5 / 65536 % 256), .sint .u8 (m.v5 / 256 % 256), .sint .u8 (m.v5 / 1 % 256)]))) (evY E)))])))) (by kernel_rfl) ?_
    refine hl (bc fun h3 => by omega) ?_
    refine hl (bc fun h3 => by exact h3 ⟨by omega, rowsE _ _⟩) ?_
    refine hold_stop (fun hd hb => ?_)
    exact ok_leafG hd hb (y := .gsl 0 (51 + 91 * q)) (by simp [fitA]) (by omega) (fun i hi => ⟨rfl, nf_syn m E i⟩) (.inr (.inl ⟨by omega, my, rfl, rfl⟩))
   refine hl (bc fun h2 => by omega) ?_
   refine hzr (fun h2 => by omega) ?_
   refine hl (bc fun h2 => by omega) ?_
   refine hzr (fun h2 => by omega) ?_
   refine hold_stop (fun hd hb => ?_)
   exact ok_leafC hd hb (y := .slice 0 0 67 67 false) (by simp [fitA]) rfl (.inr (.inr ⟨by omega, my, rfl, rfl⟩))
  refine ok_sk (.stop []) (S := .stop (Hd.leaf .nilSlice) [] ([])) (by kernel_rfl) ?_
  refine hold_stop (fun hd hb => ?_)
  exact ok_leaf0 hd rfl (.inl ⟨rfl, rfl, my⟩)
end Go.Proofs.Ytjihbjjekhncaaa
namespace Go.Proofs.Ytjihbjjekhncaaa
open Go Go.RowKit Sv
set_option linter.unusedVariables false
set_option maxRecDepth 100000
set_option maxHeartbeats 0
def msS (y : Nat → Nat) : MsI where
  k := ((y 0 % 256 : Nat) : Int)
  f := ((y 1 % 256 : Nat) : Int)
  t := ((y 2 % 256 : Nat) : Int)
  v0 := n8 fun i => y (3 + (0 + i))
  v1 := n8 fun i => y (3 + (8 + i))
  v2 := n8 fun i => y (3 + (16 + i))
  v3 := n8 fun i => y (3 + (24 + i))
  v4 := n8 fun i => y (3 + (32 + i))
  v5 := n8 fun i => y (3 + (40 + i))
  n := 0
  a := 0
def msK (y : Nat → Nat) : MsI := { msS y with n := n8 fun i => y (51 + i), a := n8 fun i => y (59 + i) }
def msW (y : Nat → Nat) : MsI := { msK y with a := IntKind.i64.wrap (n8 fun i => y (59 + i)) }
theorem wr64 (z : Int) : IntKind.i64.wrap z = (z + 9223372036854775808) % 18446744073709551616 - 9223372036854775808 := by
  simp [IntKind.wrap, IntKind.bits, IntKind.signed]
  omega
/-- the events behind. -/
def msE (y : Nat → Nat) (j : Nat) : EvI := evAt (91 * j) fun i => y (51 + i)
def zms : List AV := [.int .u8 0, .int .i64 0, .int .i64 0, .int .u64 0, .int .u64 0, .int .u64 0, .int .u64 0, .int .u64 0, .int .u64 0, .nilSlice, .int .u64 0, .int .i64 0]
/-- what n bytes are. -/
def isSyn (n : Nat) (y : Nat → Nat) (q : Nat) : Prop := n = 51 + 91 * q ∧ (msS y).k = 1 ∧ (msS y).may q (msE y)
def isAsk (n : Nat) (y : Nat → Nat) : Prop := n = 67 ∧ (msS y).k = 2 ∧ (msK y).may 0 (msE y)
theorem look_seq {H : AH} {j : Nat} {l : List Nat} {b : Option Blk} {s : Option (Nat × Nat × (Nat → List AV))} {r : List (Option Blk × Option (Nat × Nat × (Nat → List AV)))} (h : Sv.look H (j :: l) = (b, s) :: r) : seqAt H j = s := by
  have e : Sv.look H (j :: l) = (H.tr.get j, seqAt H j) :: Sv.look H l := rfl
  rw [e] at h
  exact (Prod.mk.inj (List.cons.inj h).1).2
theorem vrow {H : AH} {m : MsI} {l d n' a' : AV} (h : view H l d) (hn : view H n' (.sint .u64 m.n)) (ha : view H a' (.sint .i64 m.a)) : views H [.agg [.sint .u8 m.k, .sint .i64 m.f, .sint .i64 m.t, .sint .u64 m.v0, .sint .u64 m.v1, .sint .u64 m.v2, .sint .u64 m.v3, .sint .u64 m.v4, .sint .u64 m.v5, l, n', a']] [.agg (m.row d)] :=
  ⟨⟨⟨rfl, rfl⟩, ⟨rfl, rfl⟩, ⟨rfl, rfl⟩, ⟨rfl, rfl⟩, ⟨rfl, rfl⟩, ⟨rfl, rfl⟩, ⟨rfl, rfl⟩, ⟨rfl, rfl⟩, ⟨rfl, rfl⟩, h, hn, ha, trivial⟩, trivial⟩
theorem frow {ns : List (Option Nat)} {m : MsI} {l d n' a' : AV} (h : fitA ns d l) (hn : fitA ns (.sint .u64 m.n) n') (ha : fitA ns (.sint .i64 m.a) a') : fitA ns (.tuple [.agg (m.row d), .int .i64 0]) (.tuple [.agg [.sint .u8 m.k, .sint .i64 m.f, .sint .i64 m.t, .sint .u64 m.v0, .sint .u64 m.v1, .sint .u64 m.v2, .sint .u64 m.v3, .sint .u64 m.v4, .sint .u64 m.v5, l, n', a'], .int .i64 0]) :=
  ⟨⟨⟨rfl, rfl⟩, ⟨rfl, rfl⟩, ⟨rfl, rfl⟩, ⟨rfl, rfl⟩, ⟨rfl, rfl⟩, ⟨rfl, rfl⟩, ⟨rfl, rfl⟩, ⟨rfl, rfl⟩, ⟨rfl, rfl⟩, h, hn, ha, trivial⟩, ⟨rfl, rfl⟩, trivial⟩
theorem may_vec {y : Nat → Nat} {q : Nat} {E : Nat → EvI} (h : (msS y).may q E ∨ (msK y).may q E) : vecMay fun i => y (3 + i) := by
  rcases h with h | h <;> exact h.2.1
theorem msW_no {y : Nat → Nat} {E : Nat → EvI} (hk : ((y 0 % 256 : Nat) : Int) = 2) (h : ¬ (-9223372036854775808 ≤ n8 (fun i => y (59 + i)) ∧ n8 (fun i => y (59 + i)) ≤ 9223372036854775807)) : ¬ (msW y).may 0 E ∧ ¬ (msK y).may 0 E := by
  have b := n8_bd (fun i => y (59 + i))
  have e : (msW y).a = IntKind.i64.wrap (n8 (fun i => y (59 + i))) := rfl
  have e' : (msK y).a = n8 (fun i => y (59 + i)) := rfl
  rw [wr64] at e
  refine ⟨fun hm => ?_, fun hm => ?_⟩
  · have h2 := (ms_kind hm).2.1 hk
    omega
  · have h2 := (ms_kind hm).2.1 hk
    omega
theorem mget (n : Nat) (y : Nat → Nat) (hn : n ≤ 5000) : Runs Try.prog 28 [.data 1 n (by8 y)] fun x G =>
    (∃ q, isSyn n y q ∧ x = .tuple [.agg ((msS y).row (.gsl 0 q)), .int .i64 0] ∧ G = [.seq 14 q fun j => (msE y j).row]) ∨
    (isSyn n y 0 ∧ x = .tuple [.agg ((msS y).row .nilSlice), .int .i64 0] ∧ G = []) ∨
    (isAsk n y ∧ x = .tuple [.agg ((msK y).row .nilSlice), .int .i64 0] ∧ G = []) ∨
    (x = .tuple [.agg zms, .int .i64 5] ∧ G = [] ∧ ¬ (∃ q, isSyn n y q) ∧ ¬ isAsk n y) := by
  refine runs_treeF plain mixed (fun g => Nat.beq g 30 || Nat.beq g 55 || Nat.beq g 18) (fun _ => true) 60 ?_
  refine ok_sk (.both (.stop []) (.l (.stop []))) (S := .fork (decide ((↑n : Int) < 51)) (.stop (Hd.leaf (.tuple [.agg [.int .u8 (0 : Int), .int .i64 (0 : Int), .int .i64 (0 : Int), .int .u64 (0 : Int), .int .u64 (0 : Int), .int .u64 (0 : Int), .int .u64 (0 : Int), .int .u64 (0 : Int), .int .u64 (0 : Int), .nilSlice, .int .u64 (0 : Int), .int .i64 (0 : Int)], .int .i64 (5 : Int)])) [] ([])) (.left (decide ((0 : Int) ≤ 3 ∧ (3 : Int) ≤ 51 ∧ 51 ≤ (↑n : Int))) (.stop (Hd.call 55 [.data 1 48 fun (i : Nat) => by8 y (3 + i)]) [] ([])))) (by kernel_rfl) ?_
  refine hold_forkD (fun h0 => ?_) (fun h0 => ?_)
  ·
   refine hold_stop (fun hd hb => ?_)
   exact ok_leaf0 hd rfl (.inr (.inr (.inr ⟨rfl, rfl, fun ⟨q', h⟩ => (by have e1 := h.1; have e2 : ((y 0 % 256 : Nat) : Int) = 1 := h.2.1; omega), fun h => (by have e1 := h.1; have e2 : ((y 0 % 256 : Nat) : Int) = 2 := h.2.1; omega)⟩)))
  refine hl (bc fun h1 => by omega) ?_
  refine hold_stop (fun hd hb => ?_)
  refine ok_call0 hd (vof _) rfl ?_
  rintro x G ⟨rfl, ⟨rfl, vv⟩ | ⟨rfl, vv⟩⟩ <;> refine ⟨rfl, fun g hg => (by cases hg), ?_⟩
  ·
   refine ok_sk (.l (.l (.l (.l (.l (.l (.l (.l (.l (.l (.l (.l (.l (.l (.l (.l (.l (.l (.l (.l (.l (.l (.l (.l (.l (.l (.l (.l (.l (.l (.l (.l (.l (.l (.l (.l (.both (.l (.stop [])) (.both (.l (.both (.r (.l (.r (.l (.l (.l (.l (.l (.l (.l (.l (.l (.l (.l (.l (.l (.l (.l (.l (.l (.l (.l (.l (.l (.l (.l (.l (.l (.l (.l (.l (.l (.l (.l (.l (.l (.l (.l (.l (.l (.l (.l (.l (.r (.r (.l (.r (.l (.l (.l (.l (.l (.l (.l (.l (.l (.l (.l (.l (.l (.l (.l (.l (.l (.l (.l (.l (.l (.l (.l (.l (.l (.l (.l (.l (.l (.l (.l (.l (.l (.l (.l (.l (.l (.l (.l (.l (.r (.both (.stop []) (.stop [])))))))))))))))))))))))))))))))))))))))))))))))))))))))))))))))))))))))))))))))))))))))))) (.stop []))) (.stop []))))))))))))))))))))))))))))))))))))))) (S := .left (decide ((0 : Int) ≤ 0 ∧ 0 < n)) (.left (decide ((0 : Int) ≤ 1 ∧ 1 < n)) (.left (decide ((-9223372036854775808 : Int) ≤ (↑(y 1 % 256) : Int) ∧ (↑(y 1 % 256) : Int) ≤ 9223372036854775807)) (.left (decide ((0 : Int) ≤ 2 ∧ 2 < n)) (.left (decide ((-9223372036854775808 : Int) ≤ (↑(y 2 % 256) : Int) ∧ (↑(y 2 % 256) : Int) ≤ 9223372036854775807)) (.left (decide ((↑(y 0 % 256) : Int) = (↑(y 0 % 256) : Int))) (.left (decide ((↑(y 1 % 256) : Int) = (↑(y 1 % 256) : Int))) (.left (decide ((↑(y 2 % 256) : Int) = (↑(y 2 % 256) : Int))) (.left (decide ((n8 fun (i : Nat) => y (3 + (0 + i))) = n8 fun (i : Nat) => y (3 + (0 + i)))) (.left (decide ((n8 fun (i : Nat) => y (3 + (8 + i))) = n8 fun (i : Nat) => y (3 + (8 + i)))) (.left (decide ((n8 fun (i : Nat) => y (3 + (16 + i))) = n8 fun (i : Nat) => y (3 + (16 + i)))) (.left (decide ((n8 fun (i : Nat) => y (3 + (24 + i))) = n8 fun (i : Nat) => y (3 + (24 + i)))) (.left (decide ((n8 fun (i : Nat) => y (3 + (32 + i))) = n8 fun (i : Nat) => y (3 + (32 + i)))) (.left (decide ((n8 fun (i : Nat) => y (3 + (40 + i))) = n8 fun (i : Nat) => y (3 + (40 + i)))) (.left (decide ((n8 fun (i : Nat) => y (3 + (0 + i))) = n8 fun (i : Nat) => y (3 + (0 + i)))) (.left (decide ((n8 fun (i : Nat) => y (3 + (8 + i))) = n8 fun (i : Nat) => y (3 + (8 + i)))) (.left (decide ((n8 fun (i : Nat) => y (3 + (16 + i))) = n8 fun (i : Nat) => y (3 + (16 + i)))) (.left (decide ((n8 fun (i : Nat) => y (3 + (24 + i))) = n8 fun (i : Nat) => y (3 + (24 + i)))) (.left (decide ((n8 fun (i : Nat) => y (3 + (32 + i))) = n8 fun (i : Nat) => y (3 + (32 + i)))) (.left (decide ((n8 fun (i : Nat) => y (3 + (40 + i))) = n8 fun (i : Nat) => y (3 + (40 + i)))) (.left (decide ((-9223372036854775808 : Int) ≤ (↑(y 2 % 256) : Int) ∧ (↑(y 2 % 256) : Int) ≤ 9223372036854775807)) (.left (decide ((↑(y 2 % 256) : Int) = (↑(y 2 % 256) : Int))) (.left (decide ((↑(y 2 % 256) : Int) = (↑(y 2 % 256) : Int))) (.left (decide ((0 : Int) ≤ 2 ∧ 2 < n)) (.left (decide ((↑(y 2 % 256) : Int) = (↑(y 2 % 256) : Int))) (.left (@decide (1 = 1 ∧ n = n ∧ by8 y = by8 y) pd) (.left (decide ((-9223372036854775808 : Int) ≤ (↑(y 1 % 256) : Int) ∧ (↑(y 1 % 256) : Int) ≤ 9223372036854775807)) (.left (decide ((↑(y 1 % 256) : Int) = (↑(y 1 % 256) : Int))) (.left (decide ((↑(y 1 % 256) : Int) = (↑(y 1 % 256) : Int))) (.left (decide ((0 : Int) ≤ 1 ∧ 1 < n)) (.left (decide ((↑(y 1 % 256) : Int) = (↑(y 1 % 256) : Int))) (.left (@decide (1 = 1 ∧ n = n ∧ by8 y = by8 y) pd) (.left (decide ((↑(y 0 % 256) : Int) = (↑(y 0 % 256) : Int))) (.left (decide ((0 : Int) ≤ 0 ∧ 0 < n)) (.left (decide ((↑(y 0 % 256) : Int) = (↑(y 0 % 256) : Int))) (.left (@decide (1 = 1 ∧ n = n ∧ by8 y = by8 y) pd) (.fork (decide ((↑(y 0 % 256) : Int) = 1)) (.left (decide ((0 : Int) ≤ 51 ∧ 51 ≤ (↑n : Int) ∧ (↑n : Int) ≤ (↑n : Int))) (.stop (Hd.call 18 [.data 1 ((↑n : Int).toNat - 51) fun (i : Nat) => by8 y (51 + i)]) [] ([]))) (.fork (decide ((↑(y 0 % 256) : Int) = 2)) (.left (decide ((0 : Int) ≤ 51 ∧ 51 ≤ (↑n : Int) ∧ (↑n : Int) ≤ (↑n : Int))) (.fork (decide ((↑((↑n : Int).toNat - 51) : Int) = 16)) (.right (decide ((↑((↑n : Int).toNat - 51) : Int) < 0)) (.left (decide ((-9223372036854775808 : Int) ≤ (↑((↑n : Int).toNat - 51) : Int) - 0 ∧ (↑((↑n : Int).toNat - 51) : Int) - 0 ≤ 9223372036854775807)) (.right (decide ((↑((↑n : Int).toNat - 51) : Int) - 0 < 8)) (.left (decide ((0 : Int) ≤ 0 ∧ (0 : Int) ≤ 8 ∧ 8 ≤ (↑((↑n : Int).toNat - 51) : Int))) (.left (decide ((0 : Int) < 8)) (.left (decide ((0 : Int) ≤ 0 ∧ 0 < 8)) (.left (decide (0 ≤ (↑(y 51 % 256) : Int) ∧ (↑(y 51 % 256) : Int) ≤ 18446744073709551615)) (.left (decide ((0 : Int) ≤ 0 ∧ (0 : Int) = 0 ∧ (0 : Int) ≤ 18446744073709551360 ∧ 0 ≤ (↑(y 51 % 256) : Int) ∧ (↑(y 51 % 256) : Int) < 256)) (.left (decide ((1 : Int) < 8)) (.left (decide ((0 : Int) ≤ 1 ∧ 1 < 8)) (.left (decide ((0 : Int) ≤ ((0 : Int) + (↑(y 51 % 256) : Int)) * 256 ∧ ((0 : Int) + (↑(y 51 % 256) : Int)) * 256 ≤ 18446744073709551615)) (.left (decide (0 ≤ (↑(y 52 % 256) : Int) ∧ (↑(y 52 % 256) : Int) ≤ 18446744073709551615)) (.left (decide ((0 : Int) ≤ ((0 : Int) + (↑(y 51 % 256) : Int)) * 256 ∧ ((0 : Int) + (↑(y 51 % 256) : Int)) * 256 % 256 = 0 ∧ ((0 : Int) + (↑(y 51 % 256) : Int)) * 256 ≤ 18446744073709551360 ∧ 0 ≤ (↑(y 52 % 256) : Int) ∧ (↑(y 52 % 256) : Int) < 256)) (.left (decide ((2 : Int) < 8)) (.left (decide ((0 : Int) ≤ 2 ∧ 2 < 8)) (.left (decide ((0 : Int) ≤ (((0 : Int) + (↑(y 51 % 256) : Int)) * 256 + (↑(y 52 % 256) : Int)) * 256 ∧ (((0 : Int) + (↑(y 51 % 256) : Int)) * 256 + (↑(y 52 % 256) : Int)) * 256 ≤ 18446744073709551615)) (.left (decide (0 ≤ (↑(y 53 % 256) : Int) ∧ (↑(y 53 % 256) : Int) ≤ 18446744073709551615)) (.left (decide ((0 : Int) ≤ (((0 : Int) + (↑(y 51 % 256) : Int)) * 256 + (↑(y 52 % 256) : Int)) * 256 ∧ (((0 : Int) + (↑(y 51 % 256) : Int)) * 256 + (↑(y 52 % 256) : Int)) * 256 % 256 = 0 ∧ (((0 : Int) + (↑(y 51 % 256) : Int)) * 256 + (↑(y 52 % 256) : Int)) * 256 ≤ 18446744073709551360 ∧ 0 ≤ (↑(y 53 % 256) : Int) ∧ (↑(y 53 % 256) : Int) < 256)) (.left (decide ((3 : Int) < 8)) (.left (decide ((0 : Int) ≤ 3 ∧ 3 < 8)) (.left (decide ((0 : Int) ≤ ((((0 : Int) + (↑(y 51 % 256) : Int)) * 256 + (↑(y 52 % 256) : Int)) * 256 + (↑(y 53 % 256) : Int)) * 256 ∧ ((((0 : Int) + (↑(y 51 % 256) : Int)) * 256 + (↑(y 52 % 256) : Int)) * 256 + (↑(y 53 % 256) : Int)) * 256 ≤ 18446744073709551615)) (.left (decide (0 ≤ (↑(y 54 % 256) : Int) ∧ (↑(y 54 % 256) : Int) ≤ 18446744073709551615)) (.left (decide ((0 : Int) ≤ ((((0 : Int) + (↑(y 51 % 256) : Int)) * 256 + (↑(y 52 % 256) : Int)) * 256 + (↑(y 53 % 256) : Int)) * 256 ∧ ((((0 : Int) + (↑(y 51 % 256) : Int)) * 256 + (↑(y 52 % 256) : Int)) * 256 + (↑(y 53 % 256) : Int)) * 256 % 256 = 0 ∧ ((((0 : Int) + (↑(y 51 % 256) : Int)) * 256 + (↑(y 52 % 256) : Int)) * 256 + (↑(y 53 % 256) : Int)) * 256 ≤ 18446744073709551360 ∧ 0 ≤ (↑(y 54 % 256) : Int) ∧ (↑(y 54 % 256) : Int) < 256)) (.left (decide ((4 : Int) < 8)) (.left (decide ((0 : Int) ≤ 4 ∧ 4 < 8)) (.left (decide ((0 : Int) ≤ (((((0 : Int) + (↑(y 51 % 256) : Int)) * 256 + (↑(y 52 % 256) : Int)) * 256 + (↑(y 53 % 256) : Int)) * 256 + (↑(y 54 % 256) : Int)) * 256 ∧ (((((0 : Int) + (↑(y 51 % 256) : Int)) * 256 + (↑(y 52 % 256) : Int)) * 256 + (↑(y 53 % 256) : Int)) * 256 + (↑(y 54 % 256) : Int)) * 256 ≤ 18446744073709551615)) (.left (decide (0 ≤ (↑(y 55 % 256) : Int) ∧ (↑(y 55 % 256) : Int) ≤ 18446744073709551615)) (.left (decide ((0 : Int) ≤ (((((0 : Int) + (↑(y 51 % 256) : Int)) * 256 + (↑(y 52 % 256) : Int)) * 256 + (↑(y 53 % 256) : Int)) * 256 + (↑(y 54 % 256) : Int)) * 256 ∧ (((((0 : Int) + (↑(y 51 % 256) : Int)) * 256 + (↑(y 52 % 256) : Int)) * 256 + (↑(y 53 % 256) : Int)) * 256 + (↑(y 54 % 256) : Int)) * 256 % 256 = 0 ∧ (((((0 : Int) + (↑(y 51 % 256) : Int)) * 256 + (↑(y 52 % 256) : Int)) * 256 + (↑(y 53 % 256) : Int)) * 256 + (↑(y 54 % 256) : Int)) * 256 ≤ 18446744073709551360 ∧ 0 ≤ (↑(y 55 % 256) : Int) ∧ (↑(y 55 % 256) : Int) < 256)) (.left (decide ((5 : Int) < 8)) (.left (decide ((0 : Int) ≤ 5 ∧ 5 < 8)) (.left (decide ((0 : Int) ≤ ((((((0 : Int) + (↑(y 51 % 256) : Int)) * 256 + (↑(y 52 % 256) : Int)) * 256 + (↑(y 53 % 256) : Int)) * 256 + (↑(y 54 % 256) : Int)) * 256 + (↑(y 55 % 256) : Int)) * 256 ∧ ((((((0 : Int) + (↑(y 51 % 256) : Int)) * 256 + (↑(y 52 % 256) : Int)) * 256 + (↑(y 53 % 256) : Int)) * 256 + (↑(y 54 % 256) : Int)) * 256 + (↑(y 55 % 256) : Int)) * 256 ≤ 18446744073709551615)) (.left (decide (0 ≤ (↑(y 56 % 256) : Int) ∧ (↑(y 56 % 256) : Int) ≤ 18446744073709551615)) (.left (decide ((0 : Int) ≤ ((((((0 : Int) + (↑(y 51 % 256) : Int)) * 256 + (↑(y 52 % 256) : Int)) * 256 + (↑(y 53 % 256) : Int)) * 256 + (↑(y 54 % 256) : Int)) * 256 + (↑(y 55 % 256) : Int)) * 256 ∧ ((((((0 : Int) + (↑(y 51 % 256) : Int)) * 256 + (↑(y 52 % 256) : Int)) * 256 + (↑(y 53 % 256) : Int)) * 256 + (↑(y 54 % 256) : Int)) * 256 + (↑(y 55 % 256) : Int)) * 256 % 256 = 0 ∧ ((((((0 : Int) + (↑(y 51 % 256) : Int)) * 256 + (↑(y 52 % 256) : Int)) * 256 + (↑(y 53 % 256) : Int)) * 256 + (↑(y 54 % 256) : Int)) * 256 + (↑(y 55 % 256) : Int)) * 256 ≤ 18446744073709551360 ∧ 0 ≤ (↑(y 56 % 256) : Int) ∧ (↑(y 56 % 256) : Int) < 256)) (.left (decide ((6 : Int) < 8)) (.left (decide ((0 : Int) ≤ 6 ∧ 6 < 8)) (.left (decide ((0 : Int) ≤ (((((((0 : Int) + (↑(y 51 % 256) : Int)) * 256 + (↑(y 52 % 256) : Int)) * 256 + (↑(y 53 % 256) : Int)) * 256 + (↑(y 54 % 256) : Int)) * 256 + (↑(y 55 % 256) : Int)) * 256 + (↑(y 56 % 256) : Int)) * 256 ∧ (((((((0 : Int) + (↑(y 51 % 256) : Int)) * 256 + (↑(y 52 % 256) : Int)) * 256 + (↑(y 53 % 256) : Int)) * 256 + (↑(y 54 % 256) : Int)) * 256 + (↑(y 55 % 256) : Int)) * 256 + (↑(y 56 % 256) : Int)) * 256 ≤ 18446744073709551615)) (.left (decide (0 ≤ (↑(y 57 % 256) : Int) ∧ (↑(y 57 % 256) : Int) ≤ 18446744073709551615)) (.left (decide ((0 : Int) ≤ (((((((0 : Int) + (↑(y 51 % 256) : Int)) * 256 + (↑(y 52 % 256) : Int)) * 256 + (↑(y 53 % 256) : Int)) * 256 + (↑(y 54 % 256) : Int)) * 256 + (↑(y 55 % 256) : Int)) * 256 + (↑(y 56 % 256) : Int)) * 256 ∧ (((((((0 : Int) + (↑(y 51 % 256) : Int)) * 256 + (↑(y 52 % 256) : Int)) * 256 + (↑(y 53 % 256) : Int)) * 256 + (↑(y 54 % 256) : Int)) * 256 + (↑(y 55 % 256) : Int)) * 256 + (↑(y 56 % 256) : Int)) * 256 % 256 = 0 ∧ (((((((0 : Int) + (↑(y 51 % 256) : Int)) * 256 + (↑(y 52 % 256) : Int)) * 256 + (↑(y 53 % 256) : Int)) * 256 + (↑(y 54 % 256) : Int)) * 256 + (↑(y 55 % 256) : Int)) * 256 + (↑(y 56 % 256) : Int)) * 256 ≤ 18446744073709551360 ∧ 0 ≤ (↑(y 57 % 256) : Int) ∧ (↑(y 57 % 256) : Int) < 256)) (.left (decide ((7 : Int) < 8)) (.left (decide ((0 : Int) ≤ 7 ∧ 7 < 8)) (.left (decide ((0 : Int) ≤ ((((((((0 : Int) + (↑(y 51 % 256) : Int)) * 256 + (↑(y 52 % 256) : Int)) * 256 + (↑(y 53 % 256) : Int)) * 256 + (↑(y 54 % 256) : Int)) * 256 + (↑(y 55 % 256) : Int)) * 256 + (↑(y 56 % 256) : Int)) * 256 + (↑(y 57 % 256) : Int)) * 256 ∧ ((((((((0 : Int) + (↑(y 51 % 256) : Int)) * 256 + (↑(y 52 % 256) : Int)) * 256 + (↑(y 53 % 256) : Int)) * 256 + (↑(y 54 % 256) : Int)) * 256 + (↑(y 55 % 256) : Int)) * 256 + (↑(y 56 % 256) : Int)) * 256 + (↑(y 57 % 256) : Int)) * 256 ≤ 18446744073709551615)) (.left (decide (0 ≤ (↑(y 58 % 256) : Int) ∧ (↑(y 58 % 256) : Int) ≤ 18446744073709551615)) (.left (decide ((0 : Int) ≤ ((((((((0 : Int) + (↑(y 51 % 256) : Int)) * 256 + (↑(y 52 % 256) : Int)) * 256 + (↑(y 53 % 256) : Int)) * 256 + (↑(y 54 % 256) : Int)) * 256 + (↑(y 55 % 256) : Int)) * 256 + (↑(y 56 % 256) : Int)) * 256 + (↑(y 57 % 256) : Int)) * 256 ∧ ((((((((0 : Int) + (↑(y 51 % 256) : Int)) * 256 + (↑(y 52 % 256) : Int)) * 256 + (↑(y 53 % 256) : Int)) * 256 + (↑(y 54 % 256) : Int)) * 256 + (↑(y 55 % 256) : Int)) * 256 + (↑(y 56 % 256) : Int)) * 256 + (↑(y 57 % 256) : Int)) * 256 % 256 = 0 ∧ ((((((((0 : Int) + (↑(y 51 % 256) : Int)) * 256 + (↑(y 52 % 256) : Int)) * 256 + (↑(y 53 % 256) : Int)) * 256 + (↑(y 54 % 256) : Int)) * 256 + (↑(y 55 % 256) : Int)) * 256 + (↑(y 56 % 256) : Int)) * 256 + (↑(y 57 % 256) : Int)) * 256 ≤ 18446744073709551360 ∧ 0 ≤ (↑(y 58 % 256) : Int) ∧ (↑(y 58 % 256) : Int) < 256)) (.right (decide ((8 : Int) < 8)) (.right (decide ((↑((↑n : Int).toNat - 51) : Int) < 8)) (.left (decide ((-9223372036854775808 : Int) ≤ (↑((↑n : Int).toNat - 51) : Int) - 8 ∧ (↑((↑n : Int).toNat - 51) : Int) - 8 ≤ 9223372036854775807)) (.right (decide ((↑((↑n : Int).toNat - 51) : Int) - 8 < 8)) (.left (decide ((0 : Int) ≤ 8 ∧ (8 : Int) ≤ 16 ∧ 16 ≤ (↑((↑n : Int).toNat - 51) : Int))) (.left (decide ((0 : Int) < 8)) (.left (decide ((0 : Int) ≤ 0 ∧ 0 < 8)) (.left (decide (0 ≤ (↑(y 59 % 256) : Int) ∧ (↑(y 59 % 256) : Int) ≤ 18446744073709551615)) (.left (decide ((0 : Int) ≤ 0 ∧ (0 : Int) = 0 ∧ (0 : Int) ≤ 18446744073709551360 ∧ 0 ≤ (↑(y 59 % 256) : Int) ∧ (↑(y 59 % 256) : Int) < 256)) (.left (decide ((1 : Int) < 8)) (.left (decide ((0 : Int) ≤ 1 ∧ 1 < 8)) (.left (decide ((0 : Int) ≤ ((0 : Int) + (↑(y 59 % 256) : Int)) * 256 ∧ ((0 : Int) + (↑(y 59 % 256) : Int)) * 256 ≤ 18446744073709551615)) (.left (decide (0 ≤ (↑(y 60 % 256) : Int) ∧ (↑(y 60 % 256) : Int) ≤ 18446744073709551615)) (.left (decide ((0 : Int) ≤ ((0 : Int) + (↑(y 59 % 256) : Int)) * 256 ∧ ((0 : Int) + (↑(y 59 % 256) : Int)) * 256 % 256 = 0 ∧ ((0 : Int) + (↑(y 59 % 256) : Int)) * 256 ≤ 18446744073709551360 ∧ 0 ≤ (↑(y 60 % 256) : Int) ∧ (↑(y 60 % 256) : Int) < 256)) (.left (decide ((2 : Int) < 8)) (.left (decide ((0 : Int) ≤ 2 ∧ 2 < 8)) (.left (decide ((0 : Int) ≤ (((0 : Int) + (↑(y 59 % 256) : Int)) * 256 + (↑(y 60 % 256) : Int)) * 256 ∧ (((0 : Int) + (↑(y 59 % 256) : Int)) * 256 + (↑(y 60 % 256) : Int)) * 256 ≤ 18446744073709551615)) (.left (decide (0 ≤ (↑(y 61 % 256) : Int) ∧ (↑(y 61 % 256) : Int) ≤ 18446744073709551615)) (.left (decide ((0 : Int) ≤ (((0 : Int) + (↑(y 59 % 256) : Int)) * 256 + (↑(y 60 % 256) : Int)) * 256 ∧ (((0 : Int) + (↑(y 59 % 256) : Int)) * 256 + (↑(y 60 % 256) : Int)) * 256 % 256 = 0 ∧ (((0 : Int) + (↑(y 59 % 256) : Int)) * 256 + (↑(y 60 % 256) : Int)) * 256 ≤ 18446744073709551360 ∧ 0 ≤ (↑(y 61 % 256) : Int) ∧ (↑(y 61 % 256) : Int) < 256)) (.left (decide ((3 : Int) < 8)) (.left (decide ((0 : Int) ≤ 3 ∧ 3 < 8)) (.left (decide ((0 : Int) ≤ ((((0 : Int) + (↑(y 59 % 256) : Int)) * 256 + (↑(y 60 % 256) : Int)) * 256 + (↑(y 61 % 256) : Int)) * 256 ∧ ((((0 : Int) + (↑(y 59 % 256) : Int)) * 256 + (↑(y 60 % 256) : Int)) * 256 + (↑(y 61 % 256) : Int)) * 256 ≤ 18446744073709551615)) (.left (decide (0 ≤ (↑(y 62 % 256) : Int) ∧ (↑(y 62 % 256) : Int) ≤ 18446744073709551615)) (.left (decide ((0 : Int) ≤ ((((0 : Int) + (↑(y 59 % 256) : Int)) * 256 + (↑(y 60 % 256) : Int)) * 256 + (↑(y 61 % 256) : Int)) * 256 ∧ ((((0 : Int) + (↑(y 59 % 256) : Int)) * 256 + (↑(y 60 % 256) : Int)) * 256 + (↑(y 61 % 256) : Int)) * 256 % 256 = 0 ∧ ((((0 : Int) + (↑(y 59 % 256) : Int)) * 256 + (↑(y 60 % 256) : Int)) * 256 + (↑(y 61 % 256) : Int)) * 256 ≤ 18446744073709551360 ∧ 0 ≤ (↑(y 62 % 256) : Int) ∧ (↑(y 62 % 256) : Int) < 256)) (.left (decide ((4 : Int) < 8)) (.left (decide ((0 : Int) ≤ 4 ∧ 4 < 8)) (.left (decide ((0 : Int) ≤ (((((0 : Int) + (↑(y 59 % 256) : Int)) * 256 + (↑(y 60 % 256) : Int)) * 256 + (↑(y 61 % 256) : Int)) * 256 + (↑(y 62 % 256) : Int)) * 256 ∧ (((((0 : Int) + (↑(y 59 % 256) : Int)) * 256 + (↑(y 60 % 256) : Int)) * 256 + (↑(y 61 % 256) : Int)) * 256 + (↑(y 62 % 256) : Int)) * 256 ≤ 18446744073709551615)) (.left (decide (0 ≤ (↑(y 63 % 256) : Int) ∧ (↑(y 63 % 256) : Int) ≤ 18446744073709551615)) (.left (decide ((0 : Int) ≤ (((((0 : Int) + (↑(y 59 % 256) : Int)) * 256 + (↑(y 60 % 256) : Int)) * 256 + (↑(y 61 % 256) : Int)) * 256 + (↑(y 62 % 256) : Int)) * 256 ∧ (((((0 : Int) + (↑(y 59 % 256) : Int)) * 256 + (↑(y 60 % 256) : Int)) * 256 + (↑(y 61 % 256) : Int)) * 256 + (↑(y 62 % 256) : Int)) * 256 % 256 = 0 ∧ (((((0 : Int) + (↑(y 59 % 256) : Int)) * 256 + (↑(y 60 % 256) : Int)) * 256 + (↑(y 61 % 256) : Int)) * 256 + (↑(y 62 % 256) : Int)) * 256 ≤ 18446744073709551360 ∧ 0 ≤ (↑(y 63 % 256) : Int) ∧ (↑(y 63 % 256) : Int) < 256)) (.left (decide ((5 : Int) < 8)) (.left (decide ((0 : Int) ≤ 5 ∧ 5 < 8)) (.left (decide ((0 : Int) ≤ ((((((0 : Int) + (↑(y 59 % 256) : Int)) * 256 + (↑(y 60 % 256) : Int)) * 256 + (↑(y 61 % 256) : Int)) * 256 + (↑(y 62 % 256) : Int)) * 256 + (↑(y 63 % 256) : Int)) * 256 ∧ ((((((0 : Int) + (↑(y 59 % 256) : Int)) * 256 + (↑(y 60 % 256) : Int)) * 256 + (↑(y 61 % 256) : Int)) * 256 + (↑(y 62 % 256) : Int)) * 256 + (↑(y 63 % 256) : Int)) * 256 ≤ 18446744073709551615)) (.left (decide (0 ≤ (↑(y 64 % 256) : Int) ∧ (↑(y 64 % 256) : Int) ≤ 18446744073709551615)) (.left (decide ((0 : Int) ≤ ((((((0 : Int) + (↑(y 59 % 256) : Int)) * 256 + (↑(y 60 % 256) : Int)) * 256 + (↑(y 61 % 256) : Int)) * 256 + (↑(y 62 % 256) : Int)) * 256 + (↑(y 63 % 256) : Int)) * 256 ∧ ((((((0 : Int) + (↑(y 59 % 256) : Int)) * 256 + (↑(y 60 % 256) : Int)) * 256 + (↑(y 61 % 256) : Int)) * 256 + (↑(y 62 % 256) : Int)) * 256 + (↑(y 63 % 256) : Int)) * 256 % 256 = 0 ∧ ((((((0 : Int) + (↑(y 59 % 256) : Int)) * 256 + (↑(y 60 % 256) : Int)) * 256 + (↑(y 61 % 256) : Int)) * 256 + (↑(y 62 % 256) : Int)) * 256 + (↑(y 63 % 256) : Int)) * 256 ≤ 18446744073709551360 ∧ 0 ≤ (↑(y 64 % 256) : Int) ∧ (↑(y 64 % 256) : Int) < 256)) (.left (decide ((6 : Int) < 8)) (.left (decide ((0 : Int) ≤ 6 ∧ 6 < 8)) (.left (decide ((0 : Int) ≤ (((((((0 : Int) + (↑(y 59 % 256) : Int)) * 256 + (↑(y 60 % 256) : Int)) * 256 + (↑(y 61 % 256) : Int)) * 256 + (↑(y 62 % 256) : Int)) * 256 + (↑(y 63 % 256) : Int)) * 256 + (↑(y 64 % 256) : Int)) * 256 ∧ (((((((0 : Int) + (↑(y 59 % 256) : Int)) * 256 + (↑(y 60 % 256) : Int)) * 256 + (↑(y 61 % 256) : Int)) * 256 + (↑(y 62 % 256) : Int)) * 256 + (↑(y 63 % 256) : Int)) * 256 + (↑(y 64 % 256) : Int)) * 256 ≤ 18446744073709551615)) (.left (decide (0 ≤ (↑(y 65 % 256) : Int) ∧ (↑(y 65 % 256) : Int) ≤ 18446744073709551615)) (.left (decide ((0 : Int) ≤ (((((((0 : Int) + (↑(y 59 % 256) : Int)) * 256 + (↑(y 60 % 256) : Int)) * 256 + (↑(y 61 % 256) : Int)) * 256 + (↑(y 62 % 256) : Int)) * 256 + (↑(y 63 % 256) : Int)) * 256 + (↑(y 64 % 256) : Int)) * 256 ∧ (((((((0 : Int) + (↑(y 59 % 256) : Int)) * 256 + (↑(y 60 % 256) : Int)) * 256 + (↑(y 61 % 256) : Int)) * 256 + (↑(y 62 % 256) : Int)) * 256 + (↑(y 63 % 256) : Int)) * 256 + (↑(y 64 % 256) : Int)) * 256 % 256 = 0 ∧ (((((((0 : Int) + (↑(y 59 % 256) : Int)) * 256 + (↑(y 60 % 256) : Int)) * 256 + (↑(y 61 % 256) : Int)) * 256 + (↑(y 62 % 256) : Int)) * 256 + (↑(y 63 % 256) : Int)) * 256 + (↑(y 64 % 256) : Int)) * 256 ≤ 18446744073709551360 ∧ 0 ≤ (↑(y 65 % 256) : Int) ∧ (↑(y 65 % 256) : Int) < 256)) (.left (decide ((7 : Int) < 8)) (.left (decide ((0 : Int) ≤ 7 ∧ 7 < 8)) (.left (decide ((0 : Int) ≤ ((((((((0 : Int) + (↑(y 59 % 256) : Int)) * 256 + (↑(y 60 % 256) : Int)) * 256 + (↑(y 61 % 256) : Int)) * 256 + (↑(y 62 % 256) : Int)) * 256 + (↑(y 63 % 256) : Int)) * 256 + (↑(y 64 % 256) : Int)) * 256 + (↑(y 65 % 256) : Int)) * 256 ∧ ((((((((0 : Int) + (↑(y 59 % 256) : Int)) * 256 + (↑(y 60 % 256) : Int)) * 256 + (↑(y 61 % 256) : Int)) * 256 + (↑(y 62 % 256) : Int)) * 256 + (↑(y 63 % 256) : Int)) * 256 + (↑(y 64 % 256) : Int)) * 256 + (↑(y 65 % 256) : Int)) * 256 ≤ 18446744073709551615)) (.left (decide (0 ≤ (↑(y 66 % 256) : Int) ∧ (↑(y 66 % 256) : Int) ≤ 18446744073709551615)) (.left (decide ((0 : Int) ≤ ((((((((0 : Int) + (↑(y 59 % 256) : Int)) * 256 + (↑(y 60 % 256) : Int)) * 256 + (↑(y 61 % 256) : Int)) * 256 + (↑(y 62 % 256) : Int)) * 256 + (↑(y 63 % 256) : Int)) * 256 + (↑(y 64 % 256) : Int)) * 256 + (↑(y 65 % 256) : Int)) * 256 ∧ ((((((((0 : Int) + (↑(y 59 % 256) : Int)) * 256 + (↑(y 60 % 256) : Int)) * 256 + (↑(y 61 % 256) : Int)) * 256 + (↑(y 62 % 256) : Int)) * 256 + (↑(y 63 % 256) : Int)) * 256 + (↑(y 64 % 256) : Int)) * 256 + (↑(y 65 % 256) : Int)) * 256 % 256 = 0 ∧ ((((((((0 : Int) + (↑(y 59 % 256) : Int)) * 256 + (↑(y 60 % 256) : Int)) * 256 + (↑(y 61 % 256) : Int)) * 256 + (↑(y 62 % 256) : Int)) * 256 + (↑(y 63 % 256) : Int)) * 256 + (↑(y 64 % 256) : Int)) * 256 + (↑(y 65 % 256) : Int)) * 256 ≤ 18446744073709551360 ∧ 0 ≤ (↑(y 66 % 256) : Int) ∧ (↑(y 66 % 256) : Int) < 256)) (.right (decide ((8 : Int) < 8)) (.fork (decide ((-9223372036854775808 : Int) ≤ ((((((((0 : Int) + (↑(y 59 % 256) : Int)) * 256 + (↑(y 60 % 256) : Int)) * 256 + (↑(y 61 % 256) : Int)) * 256 + (↑(y 62 % 256) : Int)) * 256 + (↑(y 63 % 256) : Int)) * 256 + (↑(y 64 % 256) : Int)) * 256 + (↑(y 65 % 256) : Int)) * 256 + (↑(y 66 % 256) : Int) ∧ ((((((((0 : Int) + (↑(y 59 % 256) : Int)) * 256 + (↑(y 60 % 256) : Int)) * 256 + (↑(y 61 % 256) : Int)) * 256 + (↑(y 62 % 256) : Int)) * 256 + (↑(y 63 % 256) : Int)) * 256 + (↑(y 64 % 256) : Int)) * 256 + (↑(y 65 % 256) : Int)) * 256 + (↑(y 66 % 256) : Int) ≤ 9223372036854775807)) (.stop (Hd.call 30 [.agg [.sint .u8 (↑(y 0 % 256) : Int), .sint .i64 (↑(y 1 % 256) : Int), .sint .i64 (↑(y 2 % 256) : Int), .sint .u64 (n8 fun (i : Nat) => y (3 + (0 + i))), .sint .u64 (n8 fun (i : Nat) => y (3 + (8 + i))), .sint .u64 (n8 fun (i : Nat) => y (3 + (16 + i))), .sint .u64 (n8 fun (i : Nat) => y (3 + (24 + i))), .sint .u64 (n8 fun (i : Nat) => y (3 + (32 + i))), .sint .u64 (n8 fun (i : Nat) => y (3 + (40 + i))), .nilSlice, .sint .u64 (((((((((0 : Int) + (↑(y 51 % 256) : Int)) * 256 + (↑(y 52 % 256) : Int)) * 256 + (↑(y 53 % 256) : Int)) * 256 + (↑(y 54 % 256) : Int)) * 256 + (↑(y 55 % 256) : Int)) * 256 + (↑(y 56 % 256) : Int)) * 256 + (↑(y 57 % 256) : Int)) * 256 + (↑(y 58 % 256) : Int)), .sint .i64 (((((((((0 : Int) + (↑(y 59 % 256) : Int)) * 256 + (↑(y 60 % 256) : Int)) * 256 + (↑(y 61 % 256) : Int)) * 256 + (↑(y 62 % 256) : Int)) * 256 + (↑(y 63 % 256) : Int)) * 256 + (↑(y 64 % 256) : Int)) * 256 + (↑(y 65 % 256) : Int)) * 256 + (↑(y 66 % 256) : Int))]]) [] ([])) (.stop (Hd.call 30 [.agg [.sint .u8 (↑(y 0 % 256) : Int), .sint .i64 (↑(y 1 % 256) : Int), .sint .i64 (↑(y 2 % 256) : Int), .sint .u64 (n8 fun (i : Nat) => y (3 + (0 + i))), .sint .u64 (n8 fun (i : Nat) => y (3 + (8 + i))), .sint .u64 (n8 fun (i : Nat) => y (3 + (16 + i))), .sint .u64 (n8 fun (i : Nat) => y (3 + (24 + i))), .sint .u64 (n8 fun (i : Nat) => y (3 + (32 + i))), .sint .u64 (n8 fun (i : Nat) => y (3 + (40 + i))), .nilSlice, .sint .u64 (((((((((0 : Int) + (↑(y 51 % 256) : Int)) * 256 + (↑(y 52 % 256) : Int)) * 256 + (↑(y 53 % 256) : Int)) * 256 + (↑(y 54 % 256) : Int)) * 256 + (↑(y 55 % 256) : Int)) * 256 + (↑(y 56 % 256) : Int)) * 256 + (↑(y 57 % 256) : Int)) * 256 + (↑(y 58 % 256) : Int)), .sint .i64 (IntKind.i64.wrap (((((((((0 : Int) + (↑(y 59 % 256) : Int)) * 256 + (↑(y 60 % 256) : Int)) * 256 + (↑(y 61 % 256) : Int)) * 256 + (↑(y 62 % 256) : Int)) * 256 + (↑(y 63 % 256) : Int)) * 256 + (↑(y 64 % 256) : Int)) * 256 + (↑(y 65 % 256) : Int)) * 256 + (↑(y 66 % 256) : Int)))]]) [] ([]))))))))))))))))))))))))))))))))))))))))))))))))))))))))))))))))))))))))))))))))))))))))))) (.stop (Hd.leaf (.tuple [.agg [.int .u8 (0 : Int), .int .i64 (0 : Int), .int .i64 (0 : Int), .int .u64 (0 : Int), .int .u64 (0 : Int), .int .u64 (0 : Int), .int .u64 (0 : Int), .int .u64 (0 : Int), .int .u64 (0 : Int), .nilSlice, .int .u64 (0 : Int), .int .i64 (0 : Int)], .int .i64 (5 : Int)])) [] ([])))) (.stop (Hd.call 30 [.agg [.sint .u8 (↑(y 0 % 256) : Int), .sint .i64 (↑(y 1 % 256) : Int), .sint .i64 (↑(y 2 % 256) : Int), .sint .u64 (n8 fun (i : Nat) => y (3 + (0 + i))), .sint .u64 (n8 fun (i : Nat) => y (3 + (8 + i))), .sint .u64 (n8 fun (i : Nat) => y (3 + (16 + i))), .sint .u64 (n8 fun (i : Nat) => y (3 + (24 + i))), .sint .u64 (n8 fun (i : Nat) => y (3 + (32 + i))), .sint .u64 (n8 fun (i : Nat) => y (3 + (40 + i))), .nilSlice, .int .u64 (0 : Int), .int .i64 (0 : Int)]]) [] ([])))))))))))))))))))))))))))))))))))))))) (by kernel_rfl) ?_
   refine hl (bc fun h2 => by omega) ?_
   refine hl (bc fun h2 => by omega) ?_
   refine hl (bc fun h2 => by omega) ?_
   refine hl (bc fun h2 => by omega) ?_
   refine hl (bc fun h2 => by omega) ?_
   refine hl (bc fun h2 => by omega) ?_
   refine hl (bc fun h2 => by omega) ?_
   refine hl (bc fun h2 => by omega) ?_
   refine hl (bc fun h2 => by omega) ?_
   refine hl (bc fun h2 => by omega) ?_
   refine hl (bc fun h2 => by omega) ?_
   refine hl (bc fun h2 => by omega) ?_
   refine hl (bc fun h2 => by omega) ?_
   refine hl (bc fun h2 => by omega) ?_
   refine hl (bc fun h2 => by omega) ?_
   refine hl (bc fun h2 => by omega) ?_
   refine hl (bc fun h2 => by omega) ?_
   refine hl (bc fun h2 => by omega) ?_
   refine hl (bc fun h2 => by omega) ?_
   refine hl (bc fun h2 => by omega) ?_
   refine hl (bc fun h2 => by omega) ?_
   refine hl (bc fun h2 => by omega) ?_
   refine hl (bc fun h2 => by omega) ?_
   refine hl (bc fun h2 => by omega) ?_
   refine hl (bc fun h2 => by omega) ?_
   refine hl (bc fun h2 => by exact h2 ⟨rfl, rfl, rfl⟩) ?_
   refine hl (bc fun h2 => by omega) ?_
   refine hl (bc fun h2 => by omega) ?_
   refine hl (bc fun h2 => by omega) ?_
   refine hl (bc fun h2 => by omega) ?_
   refine hl (bc fun h2 => by omega) ?_
   refine hl (bc fun h2 => by exact h2 ⟨rfl, rfl, rfl⟩) ?_
   refine hl (bc fun h2 => by omega) ?_
   refine hl (bc fun h2 => by omega) ?_
   refine hl (bc fun h2 => by omega) ?_
   refine hl (bc fun h2 => by exact h2 ⟨rfl, rfl, rfl⟩) ?_
   refine hold_forkD (fun h2 => ?_) (fun h2 => ?_)
   ·
    refine hl (bc fun h3 => by omega) ?_
    refine hold_stop (fun hd hb => ?_)
    refine ok_call0 hd (eall _ _ (by omega)) rfl ?_
    rintro x G (⟨q, eq, am, rfl, rfl⟩ | ⟨rfl, rfl, am⟩ | ⟨rfl, rfl, am⟩) <;> first | refine ⟨rfl, fun g hg => (by rcases List.mem_singleton.1 hg with rfl; exact fun _ _ => rfl), ?_⟩ | refine ⟨rfl, fun g hg => (by cases hg), ?_⟩
    ·
     refine ok_sk (.stop [3]) (S := .stop (Hd.call 30 [.agg [.sint .u8 (↑(y 0 % 256) : Int), .sint .i64 (↑(y 1 % 256) : Int), .sint .i64 (↑(y 2 % 256) : Int), .sint .u64 (n8 fun (i : Nat) => y (3 + (0 + i))), .sint .u64 (n8 fun (i : Nat) => y (3 + (8 + i))), .sint .u64 (n8 fun (i : Nat) => y (3 + (16 + i))), .sint .u64 (n8 fun (i : Nat) => y (3 + (24 + i))), .sint .u64 (n8 fun (i : Nat) => y (3 + (32 + i))), .sint .u64 (n8 fun (i : Nat) => y (3 + (40 + i))), .gsl 3 q, .int .u64 (0 : Int), .int .i64 (0 : Int)]]) [3] ([(some (Blk.seq 3 14 q (allF fun (i : Nat) => y (51 + i))), some (14, q, allF fun (i : Nat) => y (51 + i)))])) (by kernel_rfl) ?_
     refine hold_stop (fun hd hb => ?_)
     first
       | (refine ok_call hd (mmay (msS y) q (msE y) (by omega)) (vrow (m := msS y) (d := evs q (msE y)) (by exact ⟨rfl, q, _, look_seq hb, Nat.le_refl _, fun i hi => ⟨rfl, rfl⟩⟩) (by exact ⟨rfl, rfl⟩) (by exact ⟨rfl, rfl⟩)) ?_
          rintro x G ⟨rfl, ⟨rfl, mm⟩ | ⟨rfl, mm⟩⟩ <;> refine ⟨rfl, fun g hg => (by cases hg), ?_⟩)
       | (refine ok_call hd (mmay (msS y) 0 (msE y) (by omega)) (vrow (m := msS y) (d := evs 0 (msE y)) (by exact rfl) (by exact ⟨rfl, rfl⟩) (by exact ⟨rfl, rfl⟩)) ?_
          rintro x G ⟨rfl, ⟨rfl, mm⟩ | ⟨rfl, mm⟩⟩ <;> refine ⟨rfl, fun g hg => (by cases hg), ?_⟩)
       | (refine ok_call hd (mmay (msK y) 0 (msE y) (by omega)) (vrow (m := msK y) (d := evs 0 (msE y)) (by exact rfl) (by exact ⟨rfl, rfl⟩) (by exact ⟨rfl, rfl⟩)) ?_
          rintro x G ⟨rfl, ⟨rfl, mm⟩ | ⟨rfl, mm⟩⟩ <;> refine ⟨rfl, fun g hg => (by cases hg), ?_⟩)
       | (refine ok_call hd (mmay (msW y) 0 (msE y) (by omega)) (vrow (m := msW y) (d := evs 0 (msE y)) (by exact rfl) (by exact ⟨rfl, rfl⟩) (by exact ⟨rfl, rfl⟩)) ?_
          rintro x G ⟨rfl, ⟨rfl, mm⟩ | ⟨rfl, mm⟩⟩
          · exact ((msW_no (by assumption) (by assumption)).1 mm).elim
          have mz := (msW_no (E := msE y) (by assumption) (by assumption)).2
          refine ⟨rfl, fun g hg => (by cases hg), ?_⟩)
     ·
      refine ok_sk (.stop [3]) (S := .stop (Hd.leaf (.tuple [.agg [.sint .u8 (↑(y 0 % 256) : Int), .sint .i64 (↑(y 1 % 256) : Int), .sint .i64 (↑(y 2 % 256) : Int), .sint .u64 (n8 fun (i : Nat) => y (3 + (0 + i))), .sint .u64 (n8 fun (i : Nat) => y (3 + (8 + i))), .sint .u64 (n8 fun (i : Nat) => y (3 + (16 + i))), .sint .u64 (n8 fun (i : Nat) => y (3 + (24 + i))), .sint .u64 (n8 fun (i : Nat) => y (3 + (32 + i))), .sint .u64 (n8 fun (i : Nat) => y (3 + (40 + i))), .gsl 3 q, .int .u64 (0 : Int), .int .i64 (0 : Int)], .int .i64 (0 : Int)])) [3] ([(some (Blk.seq 3 14 q (allF fun (i : Nat) => y (51 + i))), some (14, q, allF fun (i : Nat) => y (51 + i)))])) (by kernel_rfl) ?_
      refine hold_stop (fun hd hb => ?_)
      exact ok_leafG hd hb (y := .tuple [.agg ((msS y).row (.gsl 0 q)), .int .i64 0]) (frow ⟨rfl, rfl⟩ ⟨rfl, rfl⟩ ⟨rfl, rfl⟩) (Nat.le_refl _) (fun i hi => ⟨rfl, rfl⟩) (.inl ⟨q, ⟨by omega, by assumption, mm⟩, rfl, rfl⟩)
     refine ok_sk (.stop []) (S := .stop (Hd.leaf (.tuple [.agg [.int .u8 (0 : Int), .int .i64 (0 : Int), .int .i64 (0 : Int), .int .u64 (0 : Int), .int .u64 (0 : Int), .int .u64 (0 : Int), .int .u64 (0 : Int), .int .u64 (0 : Int), .int .u64 (0 : Int), .nilSlice, .int .u64 (0 : Int), .int .i64 (0 : Int)], .int .i64 (5 : Int)])) [] ([])) (by kernel_rfl) ?_
     refine hold_stop (fun hd hb => ?_)
     exact ok_leaf0 hd rfl (.inr (.inr (.inr ⟨rfl, rfl, fun ⟨q', h⟩ => (by obtain rfl : q' = q := (by have e1 := h.1; omega); exact mm h.2.2), fun h => (by have e2 : ((y 0 % 256 : Nat) : Int) = 2 := h.2.1; omega)⟩)))
    ·
     refine ok_sk (.stop []) (S := .stop (Hd.leaf (.tuple [.agg [.int .u8 (0 : Int), .int .i64 (0 : Int), .int .i64 (0 : Int), .int .u64 (0 : Int), .int .u64 (0 : Int), .int .u64 (0 : Int), .int .u64 (0 : Int), .int .u64 (0 : Int), .int .u64 (0 : Int), .nilSlice, .int .u64 (0 : Int), .int .i64 (0 : Int)], .int .i64 (5 : Int)])) [] ([])) (by kernel_rfl) ?_
     refine hold_stop (fun hd hb => ?_)
     exact ok_leaf0 hd rfl (.inr (.inr (.inr ⟨rfl, rfl, fun ⟨q', h⟩ => am ⟨q', by have e1 := h.1; omega, fun j hj => ms_evs h.2.2 h.2.1 j hj⟩, fun h => (by have e2 : ((y 0 % 256 : Nat) : Int) = 2 := h.2.1; omega)⟩)))
    refine ok_sk (.stop []) (S := .stop (Hd.call 30 [.agg [.sint .u8 (↑(y 0 % 256) : Int), .sint .i64 (↑(y 1 % 256) : Int), .sint .i64 (↑(y 2 % 256) : Int), .sint .u64 (n8 fun (i : Nat) => y (3 + (0 + i))), .sint .u64 (n8 fun (i : Nat) => y (3 + (8 + i))), .sint .u64 (n8 fun (i : Nat) => y (3 + (16 + i))), .sint .u64 (n8 fun (i : Nat) => y (3 + (24 + i))), .sint .u64 (n8 fun (i : Nat) => y (3 + (32 + i))), .sint .u64 (n8 fun (i : Nat) => y (3 + (40 + i))), .nilSlice, .int .u64 (0 : Int), .int .i64 (0 : Int)]]) [] ([])) (by kernel_rfl) ?_
    refine hold_stop (fun hd hb => ?_)
    first
      | (refine ok_call hd (mmay (msS y) q (msE y) (by omega)) (vrow (m := msS y) (d := evs q (msE y)) (by exact ⟨rfl, q, _, look_seq hb, Nat.le_refl _, fun i hi => ⟨rfl, rfl⟩⟩) (by exact ⟨rfl, rfl⟩) (by exact ⟨rfl, rfl⟩)) ?_
         rintro x G ⟨rfl, ⟨rfl, mm⟩ | ⟨rfl, mm⟩⟩ <;> refine ⟨rfl, fun g hg => (by cases hg), ?_⟩)
      | (refine ok_call hd (mmay (msS y) 0 (msE y) (by omega)) (vrow (m := msS y) (d := evs 0 (msE y)) (by exact rfl) (by exact ⟨rfl, rfl⟩) (by exact ⟨rfl, rfl⟩)) ?_
         rintro x G ⟨rfl, ⟨rfl, mm⟩ | ⟨rfl, mm⟩⟩ <;> refine ⟨rfl, fun g hg => (by cases hg), ?_⟩)
      | (refine ok_call hd (mmay (msK y) 0 (msE y) (by omega)) (vrow (m := msK y) (d := evs 0 (msE y)) (by exact rfl) (by exact ⟨rfl, rfl⟩) (by exact ⟨rfl, rfl⟩)) ?_
         rintro x G ⟨rfl, ⟨rfl, mm⟩ | ⟨rfl, mm⟩⟩ <;> refine ⟨rfl, fun g hg => (by cases hg), ?_⟩)
      | (refine ok_call hd (mmay (msW y) 0 (msE y) (by omega)) (vrow (m := msW y) (d := evs 0 (msE y)) (by exact rfl) (by exact ⟨rfl, rfl⟩) (by exact ⟨rfl, rfl⟩)) ?_
         rintro x G ⟨rfl, ⟨rfl, mm⟩ | ⟨rfl, mm⟩⟩
         · exact ((msW_no (by assumption) (by assumption)).1 mm).elim
         have mz := (msW_no (E := msE y) (by assumption) (by assumption)).2
         refine ⟨rfl, fun g hg => (by cases hg), ?_⟩)
    ·
     refine ok_sk (.stop []) (S := .stop (Hd.leaf (.tuple [.agg [.sint .u8 (↑(y 0 % 256) : Int), .sint .i64 (↑(y 1 % 256) : Int), .sint .i64 (↑(y 2 % 256) : Int), .sint .u64 (n8 fun (i : Nat) => y (3 + (0 + i))), .sint .u64 (n8 fun (i : Nat) => y (3 + (8 + i))), .sint .u64 (n8 fun (i : Nat) => y (3 + (16 + i))), .sint .u64 (n8 fun (i : Nat) => y (3 + (24 + i))), .sint .u64 (n8 fun (i : Nat) => y (3 + (32 + i))), .sint .u64 (n8 fun (i : Nat) => y (3 + (40 + i))), .nilSlice, .int .u64 (0 : Int), .int .i64 (0 : Int)], .int .i64 (0 : Int)])) [] ([])) (by kernel_rfl) ?_
     refine hold_stop (fun hd hb => ?_)
     exact ok_leaf (ns := []) (G := []) hd ⟨⟨frow (m := msS y) (d := .nilSlice) ⟨rfl, rfl⟩ ⟨rfl, rfl⟩ ⟨rfl, rfl⟩, trivial⟩, trivial, .nil⟩ (.inr (.inl ⟨⟨by omega, by assumption, mm⟩, rfl, rfl⟩))
    refine ok_sk (.stop []) (S := .stop (Hd.leaf (.tuple [.agg [.int .u8 (0 : Int), .int .i64 (0 : Int), .int .i64 (0 : Int), .int .u64 (0 : Int), .int .u64 (0 : Int), .int .u64 (0 : Int), .int .u64 (0 : Int), .int .u64 (0 : Int), .int .u64 (0 : Int), .nilSlice, .int .u64 (0 : Int), .int .i64 (0 : Int)], .int .i64 (5 : Int)])) [] ([])) (by kernel_rfl) ?_
    refine hold_stop (fun hd hb => ?_)
    exact ok_leaf0 hd rfl (.inr (.inr (.inr ⟨rfl, rfl, fun ⟨q', h⟩ => (by obtain rfl : q' = 0 := (by have e1 := h.1; omega); exact mm h.2.2), fun h => (by have e2 : ((y 0 % 256 : Nat) : Int) = 2 := h.2.1; omega)⟩)))
   refine hold_forkD (fun h3 => ?_) (fun h3 => ?_)
   ·
    refine hl (bc fun h4 => by omega) ?_
    refine hold_forkD (fun h4 => ?_) (fun h4 => ?_)
    ·
     refine hzr (fun h5 => by omega) ?_
     refine hl (bc fun h5 => by omega) ?_
     refine hzr (fun h5 => by omega) ?_
     refine hl (bc fun h5 => by omega) ?_
     refine hl (bc fun h5 => by omega) ?_
     refine hl (bc fun h5 => by omega) ?_
     refine hl (bc fun h5 => by omega) ?_
     refine hl (bc fun h5 => by omega) ?_
     refine hl (bc fun h5 => by omega) ?_
     refine hl (bc fun h5 => by omega) ?_
     refine hl (bc fun h5 => by omega) ?_
     refine hl (bc fun h5 => by omega) ?_
     refine hl (bc fun h5 => by omega) ?_
     refine hl (bc fun h5 => by omega) ?_
     refine hl (bc fun h5 => by omega) ?_
     refine hl (bc fun h5 => by omega) ?_
     refine hl (bc fun h5 => by omega) ?_
     refine hl (bc fun h5 => by omega) ?_
     refine hl (bc fun h5 => by omega) ?_
     refine hl (bc fun h5 => by omega) ?_
     refine hl (bc fun h5 => by omega) ?_
     refine hl (bc fun h5 => by omega) ?_
     refine hl (bc fun h5 => by omega) ?_
     refine hl (bc fun h5 => by omega) ?_
     refine hl (bc fun h5 => by omega) ?_
     refine hl (bc fun h5 => by omega) ?_
     refine hl (bc fun h5 => by omega) ?_
     refine hl (bc fun h5 => by omega) ?_
     refine hl (bc fun h5 => by omega) ?_
     refine hl (bc fun h5 => by omega) ?_
     refine hl (bc fun h5 => by omega) ?_
     refine hl (bc fun h5 => by omega) ?_
     refine hl (bc fun h5 => by omega) ?_
     refine hl (bc fun h5 => by omega) ?_
     refine hl (bc fun h5 => by omega) ?_
     refine hl (bc fun h5 => by omega) ?_
     refine hl (bc fun h5 => by omega) ?_
     refine hl (bc fun h5 => by omega) ?_
     refine hl (bc fun h5 => by omega) ?_
     refine hl (bc fun h5 => by omega) ?_
     refine hl (bc fun h5 => by omega) ?_
     refine hl (bc fun h5 => by omega) ?_
     refine hl (bc fun h5 => by omega) ?_
     refine hzr (fun h5 => by omega) ?_
     refine hzr (fun h5 => by omega) ?_
     refine hl (bc fun h5 => by omega) ?_
     refine hzr (fun h5 => by omega) ?_
     refine hl (bc fun h5 => by omega) ?_
     refine hl (bc fun h5 => by omega) ?_
     refine hl (bc fun h5 => by omega) ?_
     refine hl (bc fun h5 => by omega) ?_
     refine hl (bc fun h5 => by omega) ?_
     refine hl (bc fun h5 => by omega) ?_
     refine hl (bc fun h5 => by omega) ?_
     refine hl (bc fun h5 => by omega) ?_
     refine hl (bc fun h5 => by omega) ?_
     refine hl (bc fun h5 => by omega) ?_
     refine hl (bc fun h5 => by omega) ?_
     refine hl (bc fun h5 => by omega) ?_
     refine hl (bc fun h5 => by omega) ?_
     refine hl (bc fun h5 => by omega) ?_
     refine hl (bc fun h5 => by omega) ?_
     refine hl (bc fun h5 => by omega) ?_
     refine hl (bc fun h5 => by omega) ?_
     refine hl (bc fun h5 => by omega) ?_
     refine hl (bc fun h5 => by omega) ?_
     refine hl (bc fun h5 => by omega) ?_
     refine hl (bc fun h5 => by omega) ?_
     refine hl (bc fun h5 => by omega) ?_
     refine hl (bc fun h5 => by omega) ?_
     refine hl (bc fun h5 => by omega) ?_
     refine hl (bc fun h5 => by omega) ?_
     refine hl (bc fun h5 => by omega) ?_
     refine hl (bc fun h5 => by omega) ?_
     refine hl (bc fun h5 => by omega) ?_
     refine hl (bc fun h5 => by omega) ?_
     refine hl (bc fun h5 => by omega) ?_
     refine hl (bc fun h5 => by omega) ?_
     refine hl (bc fun h5 => by omega) ?_
     refine hl (bc fun h5 => by omega) ?_
     refine hl (bc fun h5 => by omega) ?_
     refine hl (bc fun h5 => by omega) ?_
     refine hl (bc fun h5 => by omega) ?_
     refine hl (bc fun h5 => by omega) ?_
     refine hl (bc fun h5 => by omega) ?_
     refine hl (bc fun h5 => by omega) ?_
     refine hl (bc fun h5 => by omega) ?_
     refine hzr (fun h5 => by omega) ?_
     refine hold_forkD (fun h5 => ?_) (fun h5 => ?_)
     ·
      refine hold_stop (fun hd hb => ?_)
      first
        | (refine ok_call hd (mmay (msS y) q (msE y) (by omega)) (vrow (m := msS y) (d := evs q (msE y)) (by exact ⟨rfl, q, _, look_seq hb, Nat.le_refl _, fun i hi => ⟨rfl, rfl⟩⟩) (by exact ⟨rfl, rfl⟩) (by exact ⟨rfl, rfl⟩)) ?_
           rintro x G ⟨rfl, ⟨rfl, mm⟩ | ⟨rfl, mm⟩⟩ <;> refine ⟨rfl, fun g hg => (by cases hg), ?_⟩)
        | (refine ok_call hd (mmay (msS y) 0 (msE y) (by omega)) (vrow (m := msS y) (d := evs 0 (msE y)) (by exact rfl) (by exact ⟨rfl, rfl⟩) (by exact ⟨rfl, rfl⟩)) ?_
           rintro x G ⟨rfl, ⟨rfl, mm⟩ | ⟨rfl, mm⟩⟩ <;> refine ⟨rfl, fun g hg => (by cases hg), ?_⟩)
        | (refine ok_call hd (mmay (msK y) 0 (msE y) (by omega)) (vrow (m := msK y) (d := evs 0 (msE y)) (by exact rfl) (by exact ⟨rfl, rfl⟩) (by exact ⟨rfl, rfl⟩)) ?_
           rintro x G ⟨rfl, ⟨rfl, mm⟩ | ⟨rfl, mm⟩⟩ <;> refine ⟨rfl, fun g hg => (by cases hg), ?_⟩)
        | (refine ok_call hd (mmay (msW y) 0 (msE y) (by omega)) (vrow (m := msW y) (d := evs 0 (msE y)) (by exact rfl) (by exact ⟨rfl, rfl⟩) (by exact ⟨rfl, rfl⟩)) ?_
           rintro x G ⟨rfl, ⟨rfl, mm⟩ | ⟨rfl, mm⟩⟩
           · exact ((msW_no (by assumption) (by assumption)).1 mm).elim
           have mz := (msW_no (E := msE y) (by assumption) (by assumption)).2
           refine ⟨rfl, fun g hg => (by cases hg), ?_⟩)
      ·
       refine ok_sk (.stop []) (S := .stop (Hd.leaf (.tuple [.agg [.sint .u8 (↑(y 0 % 256) : Int), .sint .i64 (↑(y 1 % 256) : Int), .sint .i64 (↑(y 2 % 256) : Int), .sint .u64 (n8 fun (i : Nat) => y (3 + (0 + i))), .sint .u64 (n8 fun (i : Nat) => y (3 + (8 + i))), .sint .u64 (n8 fun (i : Nat) => y (3 + (16 + i))), .sint .u64 (n8 fun (i : Nat) => y (3 + (24 + i))), .sint .u64 (n8 fun (i : Nat) => y (3 + (32 + i))), .sint .u64 (n8 fun (i : Nat) => y (3 + (40 + i))), .nilSlice, .sint .u64 (((((((((0 : Int) + (↑(y 51 % 256) : Int)) * 256 + (↑(y 52 % 256) : Int)) * 256 + (↑(y 53 % 256) : Int)) * 256 + (↑(y 54 % 256) : Int)) * 256 + (↑(y 55 % 256) : Int)) * 256 + (↑(y 56 % 256) : Int)) * 256 + (↑(y 57 % 256) : Int)) * 256 + (↑(y 58 % 256) : Int)), .sint .i64 (((((((((0 : Int) + (↑(y 59 % 256) : Int)) * 256 + (↑(y 60 % 256) : Int)) * 256 + (↑(y 61 % 256) : Int)) * 256 + (↑(y 62 % 256) : Int)) * 256 + (↑(y 63 % 256) : Int)) * 256 + (↑(y 64 % 256) : Int)) * 256 + (↑(y 65 % 256) : Int)) * 256 + (↑(y 66 % 256) : Int))], .int .i64 (0 : Int)])) [] ([])) (by kernel_rfl) ?_
       refine hold_stop (fun hd hb => ?_)
       exact ok_leaf (ns := []) (G := []) hd ⟨⟨frow (m := msK y) (d := .nilSlice) ⟨rfl, rfl⟩ ⟨rfl, rfl⟩ ⟨rfl, rfl⟩, trivial⟩, trivial, .nil⟩ (.inr (.inr (.inl ⟨⟨by omega, by assumption, mm⟩, rfl, rfl⟩)))
      refine ok_sk (.stop []) (S := .stop (Hd.leaf (.tuple [.agg [.int .u8 (0 : Int), .int .i64 (0 : Int), .int .i64 (0 : Int), .int .u64 (0 : Int), .int .u64 (0 : Int), .int .u64 (0 : Int), .int .u64 (0 : Int), .int .u64 (0 : Int), .int .u64 (0 : Int), .nilSlice, .int .u64 (0 : Int), .int .i64 (0 : Int)], .int .i64 (5 : Int)])) [] ([])) (by kernel_rfl) ?_
      refine hold_stop (fun hd hb => ?_)
      exact ok_leaf0 hd rfl (.inr (.inr (.inr ⟨rfl, rfl, fun ⟨q', h⟩ => (by have e2 : ((y 0 % 256 : Nat) : Int) = 1 := h.2.1; omega), fun h => mm h.2.2⟩)))
     refine hold_stop (fun hd hb => ?_)
     first
       | (refine ok_call hd (mmay (msS y) q (msE y) (by omega)) (vrow (m := msS y) (d := evs q (msE y)) (by exact ⟨rfl, q, _, look_seq hb, Nat.le_refl _, fun i hi => ⟨rfl, rfl⟩⟩) (by exact ⟨rfl, rfl⟩) (by exact ⟨rfl, rfl⟩)) ?_
          rintro x G ⟨rfl, ⟨rfl, mm⟩ | ⟨rfl, mm⟩⟩ <;> refine ⟨rfl, fun g hg => (by cases hg), ?_⟩)
       | (refine ok_call hd (mmay (msS y) 0 (msE y) (by omega)) (vrow (m := msS y) (d := evs 0 (msE y)) (by exact rfl) (by exact ⟨rfl, rfl⟩) (by exact ⟨rfl, rfl⟩)) ?_
          rintro x G ⟨rfl, ⟨rfl, mm⟩ | ⟨rfl, mm⟩⟩ <;> refine ⟨rfl, fun g hg => (by cases hg), ?_⟩)
       | (refine ok_call hd (mmay (msK y) 0 (msE y) (by omega)) (vrow (m := msK y) (d := evs 0 (msE y)) (by exact rfl) (by exact ⟨rfl, rfl⟩) (by exact ⟨rfl, rfl⟩)) ?_
          rintro x G ⟨rfl, ⟨rfl, mm⟩ | ⟨rfl, mm⟩⟩ <;> refine ⟨rfl, fun g hg => (by cases hg), ?_⟩)
       | (refine ok_call hd (mmay (msW y) 0 (msE y) (by omega)) (vrow (m := msW y) (d := evs 0 (msE y)) (by exact rfl) (by exact ⟨rfl, rfl⟩) (by exact ⟨rfl, rfl⟩)) ?_
          rintro x G ⟨rfl, ⟨rfl, mm⟩ | ⟨rfl, mm⟩⟩
          · exact ((msW_no (by assumption) (by assumption)).1 mm).elim
          have mz := (msW_no (E := msE y) (by assumption) (by assumption)).2
          refine ⟨rfl, fun g hg => (by cases hg), ?_⟩)
     refine ok_sk (.stop []) (S := .stop (Hd.leaf (.tuple [.agg [.int .u8 (0 : Int), .int .i64 (0 : Int), .int .i64 (0 : Int), .int .u64 (0 : Int), .int .u64 (0 : Int), .int .u64 (0 : Int), .int .u64 (0 : Int), .int .u64 (0 : Int), .int .u64 (0 : Int), .nilSlice, .int .u64 (0 : Int), .int .i64 (0 : Int)], .int .i64 (5 : Int)])) [] ([])) (by kernel_rfl) ?_
     refine hold_stop (fun hd hb => ?_)
     exact ok_leaf0 hd rfl (.inr (.inr (.inr ⟨rfl, rfl, fun ⟨q', h⟩ => (by have e2 : ((y 0 % 256 : Nat) : Int) = 1 := h.2.1; omega), fun h => mz h.2.2⟩)))
    refine hold_stop (fun hd hb => ?_)
    exact ok_leaf0 hd rfl (.inr (.inr (.inr ⟨rfl, rfl, fun ⟨q', h⟩ => (by have e1 := h.1; have e2 : ((y 0 % 256 : Nat) : Int) = 1 := h.2.1; omega), fun h => (by have e1 := h.1; have e2 : ((y 0 % 256 : Nat) : Int) = 2 := h.2.1; omega)⟩)))
   refine hold_stop (fun hd hb => ?_)
   first
     | (refine ok_call hd (mmay (msS y) q (msE y) (by omega)) (vrow (m := msS y) (d := evs q (msE y)) (by exact ⟨rfl, q, _, look_seq hb, Nat.le_refl _, fun i hi => ⟨rfl, rfl⟩⟩) (by exact ⟨rfl, rfl⟩) (by exact ⟨rfl, rfl⟩)) ?_
        rintro x G ⟨rfl, ⟨rfl, mm⟩ | ⟨rfl, mm⟩⟩ <;> refine ⟨rfl, fun g hg => (by cases hg), ?_⟩)
     | (refine ok_call hd (mmay (msS y) 0 (msE y) (by omega)) (vrow (m := msS y) (d := evs 0 (msE y)) (by exact rfl) (by exact ⟨rfl, rfl⟩) (by exact ⟨rfl, rfl⟩)) ?_
        rintro x G ⟨rfl, ⟨rfl, mm⟩ | ⟨rfl, mm⟩⟩ <;> refine ⟨rfl, fun g hg => (by cases hg), ?_⟩)
     | (refine ok_call hd (mmay (msK y) 0 (msE y) (by omega)) (vrow (m := msK y) (d := evs 0 (msE y)) (by exact rfl) (by exact ⟨rfl, rfl⟩) (by exact ⟨rfl, rfl⟩)) ?_
        rintro x G ⟨rfl, ⟨rfl, mm⟩ | ⟨rfl, mm⟩⟩ <;> refine ⟨rfl, fun g hg => (by cases hg), ?_⟩)
     | (refine ok_call hd (mmay (msW y) 0 (msE y) (by omega)) (vrow (m := msW y) (d := evs 0 (msE y)) (by exact rfl) (by exact ⟨rfl, rfl⟩) (by exact ⟨rfl, rfl⟩)) ?_
        rintro x G ⟨rfl, ⟨rfl, mm⟩ | ⟨rfl, mm⟩⟩
        · exact ((msW_no (by assumption) (by assumption)).1 mm).elim
        have mz := (msW_no (E := msE y) (by assumption) (by assumption)).2
        refine ⟨rfl, fun g hg => (by cases hg), ?_⟩)
   ·
    refine ok_sk (.stop []) (S := .stop (Hd.leaf (.tuple [.agg [.sint .u8 (↑(y 0 % 256) : Int), .sint .i64 (↑(y 1 % 256) : Int), .sint .i64 (↑(y 2 % 256) : Int), .sint .u64 (n8 fun (i : Nat) => y (3 + (0 + i))), .sint .u64 (n8 fun (i : Nat) => y (3 + (8 + i))), .sint .u64 (n8 fun (i : Nat) => y (3 + (16 + i))), .sint .u64 (n8 fun (i : Nat) => y (3 + (24 + i))), .sint .u64 (n8 fun (i : Nat) => y (3 + (32 + i))), .sint .u64 (n8 fun (i : Nat) => y (3 + (40 + i))), .nilSlice, .int .u64 (0 : Int), .int .i64 (0 : Int)], .int .i64 (0 : Int)])) [] ([])) (by kernel_rfl) ?_
    refine hold_stop (fun hd hb => ?_)
    exact absurd (ms_kind mm).1 (by show ¬ (((y 0 % 256 : Nat) : Int) = 1 ∨ ((y 0 % 256 : Nat) : Int) = 2); omega)
   refine ok_sk (.stop []) (S := .stop (Hd.leaf (.tuple [.agg [.int .u8 (0 : Int), .int .i64 (0 : Int), .int .i64 (0 : Int), .int .u64 (0 : Int), .int .u64 (0 : Int), .int .u64 (0 : Int), .int .u64 (0 : Int), .int .u64 (0 : Int), .int .u64 (0 : Int), .nilSlice, .int .u64 (0 : Int), .int .i64 (0 : Int)], .int .i64 (5 : Int)])) [] ([])) (by kernel_rfl) ?_
   refine hold_stop (fun hd hb => ?_)
   exact ok_leaf0 hd rfl (.inr (.inr (.inr ⟨rfl, rfl, fun ⟨q', h⟩ => (by have e1 := h.1; have e2 : ((y 0 % 256 : Nat) : Int) = 1 := h.2.1; omega), fun h => (by have e1 := h.1; have e2 : ((y 0 % 256 : Nat) : Int) = 2 := h.2.1; omega)⟩)))
  refine ok_sk (.stop []) (S := .stop (Hd.leaf (.tuple [.agg [.int .u8 (0 : Int), .int .i64 (0 : Int), .int .i64 (0 : Int), .int .u64 (0 : Int), .int .u64 (0 : Int), .int .u64 (0 : Int), .int .u64 (0 : Int), .int .u64 (0 : Int), .int .u64 (0 : Int), .nilSlice, .int .u64 (0 : Int), .int .i64 (0 : Int)], .int .i64 (5 : Int)])) [] ([])) (by kernel_rfl) ?_
  refine hold_stop (fun hd hb => ?_)
  exact ok_leaf0 hd rfl (.inr (.inr (.inr ⟨rfl, rfl, fun ⟨q', h⟩ => vv (may_vec (.inl h.2.2)), fun h => vv (may_vec (.inr h.2.2))⟩)))
end Go.Proofs.Ytjihbjjekhncaaa
namespace Go.Proofs.Ytjihbjjekhncaaa
open Go Go.RowKit Sv
set_option linter.unusedVariables false
set_option maxRecDepth 100000
set_option maxHeartbeats 0
theorem ev_eq {a b : EvI} (h : a.o = b.o ∧ a.s = b.s ∧ a.d0 = b.d0 ∧ a.d1 = b.d1 ∧ a.d2 = b.d2 ∧ a.d3 = b.d3 ∧ a.d4 = b.d4 ∧ a.d5 = b.d5 ∧ a.k = b.k ∧ a.n = b.n ∧ a.t = b.t ∧ a.a = b.a ∧ a.r = b.r ∧ a.f = b.f) : a = b := by
  cases a
  cases b
  simp only at h
  obtain ⟨rfl, rfl, rfl, rfl, rfl, rfl, rfl, rfl, rfl, rfl, rfl, rfl, rfl, rfl⟩ := h
  rfl
theorem ev_ne {a b : EvI} (h : ¬ (a.o = b.o ∧ a.s = b.s ∧ a.d0 = b.d0 ∧ a.d1 = b.d1 ∧ a.d2 = b.d2 ∧ a.d3 = b.d3 ∧ a.d4 = b.d4 ∧ a.d5 = b.d5 ∧ a.k = b.k ∧ a.n = b.n ∧ a.t = b.t ∧ a.a = b.a ∧ a.r = b.r ∧ a.f = b.f)) : ¬ a = b := fun e => h (by subst e; exact ⟨rfl, rfl, rfl, rfl, rfl, rfl, rfl, rfl, rfl, rfl, rfl, rfl, rfl, rfl⟩)
def samS (n k : Nat) (E F : Nat → EvI) (q : Nat) : List AV := [evs n E, evs k F, .top, .top, .bool false, .sint .i64 q, .top, .top, .top, .top, .top, .top, .top, .top, .top, .top, .top, .top, .top, .top, .top, .top, .top, .top, .top, .top]
theorem samUp {E F : Nat → EvI} {q : Nat} (h : ∀ j, j < q → E j = F j) (k : E q = F q) : ∀ j, j < q + 1 → E j = F j := fun j hj => by
  by_cases e : j < q
  · exact h j e
  · obtain rfl : j = q := by omega
    exact k
theorem esame (n k : Nat) (E F : Nat → EvI) (hn : n ≤ 1099511627776) (hk : k ≤ 1099511627776) : Runs Try.prog 20 [evs n E, evs k F] fun x G => G = [] ∧ ((x = .bool true ∧ n = k ∧ ∀ j, j < n → E j = F j) ∨ (x = .bool false ∧ ¬ (n = k ∧ ∀ j, j < n → E j = F j))) := by
  refine runs_treeF plain mixed (fun g => false) (fun _ => true) 60 ?_
  refine ok_sk (.both (.stop []) (.stop [])) (S := .fork (decide ((↑n : Int) = (↑k : Int))) (.stop (Hd.loop 54 [.data 14 n fun (i : Nat) => (E i).row, .data 14 k fun (i : Nat) => (F i).row, .tuple [], .tuple [], .bool false, .int .i64 (0 : Int), .data 14 n fun (i : Nat) => (E i).row, .sint .i64 (↑n : Int), .data 14 k fun (i : Nat) => (F i).row, .sint .i64 (↑k : Int), .bool false, .tuple [], .tuple [], .tuple [], .tuple [], .tuple [], .tuple [], .tuple [], .tuple [], .tuple [], .tuple [], .tuple [], .tuple [], .tuple [], .tuple [], .tuple []]) [] ([])) (.stop (Hd.leaf (.bool false)) [] ([]))) (by kernel_rfl) ?_
  refine hold_forkD (fun h0 => ?_) (fun h0 => ?_)
  ·
   refine hold_stop (fun hd hb => ?_)
   refine ok_loop hd (X := {q : Nat // q ≤ n ∧ ∀ j, j < q → E j = F j}) (fun q => samS n k E F q.1) (fun _ => []) (fun q => n - q.1) [] ⟨0, by omega, fun j hj => absurd hj (Nat.not_lt_zero j)⟩ ⟨by simp [samS, evs, fitsA, fitA, nf], trivial, .nil⟩ ?_
   rintro ⟨q, q1, qm⟩
   refine ok_sk (.both (.l (.l (.both (.l (.stop [])) (.stop [])))) (.stop [])) (S := .fork (decide ((↑q : Int) < (↑n : Int))) (.left (decide (0 ≤ (↑q : Int) ∧ (↑q : Int).toNat < n)) (.left (decide (0 ≤ (↑q : Int) ∧ (↑q : Int).toNat < k)) (.fork (@decide ((E (↑q : Int).toNat).o = (F (↑q : Int).toNat).o ∧ (E (↑q : Int).toNat).s = (F (↑q : Int).toNat).s ∧ (E (↑q : Int).toNat).d0 = (F (↑q : Int).toNat).d0 ∧ (E (↑q : Int).toNat).d1 = (F (↑q : Int).toNat).d1 ∧ (E (↑q : Int).toNat).d2 = (F (↑q : Int).toNat).d2 ∧ (E (↑q : Int).toNat).d3 = (F (↑q : Int).toNat).d3 ∧ (E (↑q : Int).toNat).d4 = (F (↑q : Int).toNat).d4 ∧ (E (↑q : Int).toNat).d5 = (F (↑q : Int).toNat).d5 ∧ (E (↑q : Int).toNat).k = (F (↑q : Int).toNat).k ∧ (E (↑q : Int).toNat).n = (F (↑q : Int).toNat).n ∧ (E (↑q : Int).toNat).t = (F (↑q : Int).toNat).t ∧ (E (↑q : Int).toNat).a = (F (↑q : Int).toNat).a ∧ (E (↑q : Int).toNat).r = (F (↑q : Int).toNat).r ∧ (E (↑q : Int).toNat).f = (F (↑q : Int).toNat).f) pd) (.left (decide ((-9223372036854775808 : Int) ≤ (↑q : Int) + 1 ∧ (↑q : Int) + 1 ≤ 9223372036854775807)) (.stop (Hd.again (again' (fun (q : { q : Nat // q ≤ n ∧ ∀ (j : Nat), j < q → E j = F j }) => samS n k E F q.val) (fun (x : { q : Nat // q ≤ n ∧ ∀ (j : Nat), j < q → E j = F j }) => []) (fun (q : { q : Nat // q ≤ n ∧ ∀ (j : Nat), j < q → E j = F j }) => n - q.val) ⟨q, ⟨q1, qm⟩⟩) [.data 14 n fun (i : Nat) => (E i).row, .data 14 k fun (i : Nat) => (F i).row, .top, .top, .bool false, .sint .i64 ((↑q : Int) + 1), .top, .top, .top, .top, .top, .sint .i64 (↑q : Int), .data 14 n fun (i : Nat) => (E i).row, .sint .i64 (↑n : Int), .bool true, .sint .i64 (↑q : Int), .sint .i64 ((↑q : Int) + 1), .data 14 n fun (i : Nat) => (E i).row, .sint .i64 (↑q : Int), AV.dptr [.sint .i64 (E (↑q : Int).toNat).o, .sint .u64 (E (↑q : Int).toNat).s, .sint .u64 (E (↑q : Int).toNat).d0, .sint .u64 (E (↑q : Int).toNat).d1, .sint .u64 (E (↑q : Int).toNat).d2, .sint .u64 (E (↑q : Int).toNat).d3, .sint .u64 (E (↑q : Int).toNat).d4, .sint .u64 (E (↑q : Int).toNat).d5, .sint .u8 (E (↑q : Int).toNat).k, .sint .u64 (E (↑q : Int).toNat).n, .sint .i64 (E (↑q : Int).toNat).t, .sint .i64 (E (↑q : Int).toNat).a, .sint .u64 (E (↑q : Int).toNat).r, .sint .u64 (E (↑q : Int).toNat).f], .agg [.sint .i64 (E (↑q : Int).toNat).o, .sint .u64 (E (↑q : Int).toNat).s, .sint .u64 (E (↑q : Int).toNat).d0, .sint .u64 (E (↑q : Int).toNat).d1, .sint .u64 (E (↑q : Int).toNat).d2, .sint .u64 (E (↑q : Int).toNat).d3, .sint .u64 (E (↑q : Int).toNat).d4, .sint .u64 (E (↑q : Int).toNat).d5, .sint .u8 (E (↑q : Int).toNat).k, .sint .u64 (E (↑q : Int).toNat).n, .sint .i64 (E (↑q : Int).toNat).t, .sint .i64 (E (↑q : Int).toNat).a, .sint .u64 (E (↑q : Int).toNat).r, .sint .u64 (E (↑q : Int).toNat).f], .data 14 k fun (i : Nat) => (F i).row, .sint .i64 (↑q : Int), AV.dptr [.sint .i64 (F (↑q : Int).toNat).o, .sint .u64 (F (↑q : Int).toNat).s, .sint .u64 (F (↑q : Int).toNat).d0, .sint .u64 (F (↑q : Int).toNat).d1, .sint .u64 (F (↑q : Int).toNat).d2, .sint .u64 (F (↑q : Int).toNat).d3, .sint .u64 (F (↑q : Int).toNat).d4, .sint .u64 (F (↑q : Int).toNat).d5, .sint .u8 (F (↑q : Int).toNat).k, .sint .u64 (F (↑q : Int).toNat).n, .sint .i64 (F (↑q : Int).toNat).t, .sint .i64 (F (↑q : Int).toNat).a, .sint .u64 (F (↑q : Int).toNat).r, .sint .u64 (F (↑q : Int).toNat).f], .agg [.sint .i64 (F (↑q : Int).toNat).o, .sint .u64 (F (↑q : Int).toNat).s, .sint .u64 (F (↑q : Int).toNat).d0, .sint .u64 (F (↑q : Int).toNat).d1, .sint .u64 (F (↑q : Int).toNat).d2, .sint .u64 (F (↑q : Int).toNat).d3, .sint .u64 (F (↑q : Int).toNat).d4, .sint .u64 (F (↑q : Int).toNat).d5, .sint .u8 (F (↑q : Int).toNat).k, .sint .u64 (F (↑q : Int).toNat).n, .sint .i64 (F (↑q : Int).toNat).t, .sint .i64 (F (↑q : Int).toNat).a, .sint .u64 (F (↑q : Int).toNat).r, .sint .u64 (F (↑q : Int).toNat).f], .bool false]) [] ([]))) (.stop (Hd.leaf (.bool false)) [] ([]))))) (.stop (Hd.leaf (.bool true)) [] ([]))) (by kernel_rfl) ?_
   refine hold_forkD (fun h2 => ?_) (fun h2 => ?_)
   ·
    refine hl (bc fun h3 => by omega) ?_
    refine hl (bc fun h3 => by omega) ?_
    refine hold_forkD (fun h3 => ?_) (fun h3 => ?_)
    ·
     refine hl (bc fun h4 => by omega) ?_
     refine hold_stop (fun hd hb => ?_)
     refine ok_again hd [] ⟨q + 1, by omega, samUp qm (ev_eq (by assumption))⟩ ?_ ⟨?_, trivial, .nil⟩
     · show n - (q + 1) < n - q
       omega
     · simp [samS, evs, fitsA, fitA, nf] <;> omega
    refine hold_stop (fun hd hb => ?_)
    exact ok_leaf0 hd rfl ⟨rfl, .inr ⟨rfl, fun h => ev_ne (by assumption) (h.2 q (by omega))⟩⟩
   refine hold_stop (fun hd hb => ?_)
   exact ok_leaf0 hd rfl ⟨rfl, .inl ⟨rfl, by omega, fun j hj => qm j (by omega)⟩⟩
  refine hold_stop (fun hd hb => ?_)
  exact ok_leaf0 hd rfl ⟨rfl, .inr ⟨rfl, fun h => by omega⟩⟩
end Go.Proofs.Ytjihbjjekhncaaa
namespace Go.Proofs.Ytjihbjjekhncaaa
open Go Go.RowKit Sv
set_option linter.unusedVariables false
set_option maxRecDepth 100000
set_option maxHeartbeats 0
theorem ms_eq {m p : MsI} (h : m.k = p.k ∧ m.f = p.f ∧ m.t = p.t ∧ m.v0 = p.v0 ∧ m.v1 = p.v1 ∧ m.v2 = p.v2 ∧ m.v3 = p.v3 ∧ m.v4 = p.v4 ∧ m.v5 = p.v5 ∧ m.n = p.n ∧ m.a = p.a) : m = p := by
  cases m
  cases p
  simp only at h
  obtain ⟨rfl, rfl, rfl, rfl, rfl, rfl, rfl, rfl, rfl, rfl, rfl⟩ := h
  rfl
def eqMs (m p : MsI) (n k : Nat) (E F : Nat → EvI) : Prop := m = p ∧ n = k ∧ ∀ j, j < n → E j = F j
theorem msame (m p : MsI) (n k : Nat) (E F : Nat → EvI) (hn : n ≤ 1099511627776) (hk : k ≤ 1099511627776) : Runs Try.prog 34 [.agg (m.row (evs n E)), .agg (p.row (evs k F))] fun x G => G = [] ∧ ((x = .bool true ∧ eqMs m p n k E F) ∨ (x = .bool false ∧ ¬ eqMs m p n k E F)) := by
  refine runs_treeF plain mixed (fun g => Nat.beq g 20) (fun _ => true) 60 ?_
  refine ok_sk (.both (.both (.both (.both (.stop []) (.stop [])) (.stop [])) (.stop [])) (.stop [])) (S := .fork (decide (m.k = p.k)) (.fork (decide (m.f = p.f)) (.fork (decide (m.t = p.t)) (.fork (@decide (m.v0 = p.v0 ∧ m.v1 = p.v1 ∧ m.v2 = p.v2 ∧ m.v3 = p.v3 ∧ m.v4 = p.v4 ∧ m.v5 = p.v5) pd) (.stop (Hd.call 20 [.data 14 n fun (i : Nat) => (E i).row, .data 14 k fun (i : Nat) => (F i).row]) [] ([])) (.stop (Hd.leaf (.bool false)) [] ([]))) (.stop (Hd.leaf (.bool false)) [] ([]))) (.stop (Hd.leaf (.bool false)) [] ([]))) (.stop (Hd.leaf (.bool false)) [] ([]))) (by kernel_rfl) ?_
  refine hold_forkD (fun h0 => ?_) (fun h0 => ?_)
  ·
   refine hold_forkD (fun h1 => ?_) (fun h1 => ?_)
   ·
    refine hold_forkD (fun h2 => ?_) (fun h2 => ?_)
    ·
     refine hold_forkD (fun h3 => ?_) (fun h3 => ?_)
     ·
      refine hold_stop (fun hd hb => ?_)
      refine ok_call0 hd (esame n k E F hn hk) rfl ?_
      rintro x G ⟨rfl, ⟨rfl, sm⟩ | ⟨rfl, sm⟩⟩ <;> refine ⟨rfl, fun g hg => (by cases hg), ?_⟩
      ·
       refine ok_sk (.both (.both (.stop []) (.stop [])) (.stop [])) (S := .fork (decide (m.n = p.n)) (.fork (decide (m.a = p.a)) (.stop (Hd.leaf (.bool true)) [] ([])) (.stop (Hd.leaf (.bool false)) [] ([]))) (.stop (Hd.leaf (.bool false)) [] ([]))) (by kernel_rfl) ?_
       refine hold_forkD (fun h5 => ?_) (fun h5 => ?_)
       ·
        refine hold_forkD (fun h6 => ?_) (fun h6 => ?_)
        ·
         refine hold_stop (fun hd hb => ?_)
         exact ok_leaf0 hd rfl ⟨rfl, .inl ⟨rfl, ms_eq (by omega), sm⟩⟩
        refine hold_stop (fun hd hb => ?_)
        exact ok_leaf0 hd rfl ⟨rfl, .inr ⟨rfl, fun h => (by obtain ⟨rfl, _, _⟩ := h; exact absurd rfl (by assumption))⟩⟩
       refine hold_stop (fun hd hb => ?_)
       exact ok_leaf0 hd rfl ⟨rfl, .inr ⟨rfl, fun h => (by obtain ⟨rfl, _, _⟩ := h; exact absurd rfl (by assumption))⟩⟩
      refine ok_sk (.stop []) (S := .stop (Hd.leaf (.bool false)) [] ([])) (by kernel_rfl) ?_
      refine hold_stop (fun hd hb => ?_)
      exact ok_leaf0 hd rfl ⟨rfl, .inr ⟨rfl, fun h => sm h.2⟩⟩
     refine hold_stop (fun hd hb => ?_)
     exact ok_leaf0 hd rfl ⟨rfl, .inr ⟨rfl, fun h => (by obtain ⟨rfl, _, _⟩ := h; omega)⟩⟩
    refine hold_stop (fun hd hb => ?_)
    exact ok_leaf0 hd rfl ⟨rfl, .inr ⟨rfl, fun h => (by obtain ⟨rfl, _, _⟩ := h; exact absurd rfl (by assumption))⟩⟩
   refine hold_stop (fun hd hb => ?_)
   exact ok_leaf0 hd rfl ⟨rfl, .inr ⟨rfl, fun h => (by obtain ⟨rfl, _, _⟩ := h; exact absurd rfl (by assumption))⟩⟩
  refine hold_stop (fun hd hb => ?_)
  exact ok_leaf0 hd rfl ⟨rfl, .inr ⟨rfl, fun h => (by obtain ⟨rfl, _, _⟩ := h; exact absurd rfl (by assumption))⟩⟩
end Go.Proofs.Ytjihbjjekhncaaa
namespace Go.Proofs.Ytjihbjjekhncaaa
open Go Go.RowKit Sv
set_option linter.unusedVariables false
set_option maxRecDepth 100000
set_option maxHeartbeats 0
theorem works : Runs Try.prog 27 [] fun x G => x = .bool true ∧ G = [] := by
  refine runs_treeF plain mixed (fun _ => false) (fun _ => false) 1000 ?_
  refine ok_sk (.stop []) (S := .stop (.leaf (.bool true)) [] []) (by kernel_rfl) ?_
  refine hold_stop (fun hd hb => ?_)
  exact ok_leaf0 hd rfl ⟨rfl, rfl⟩
end Go.Proofs.Ytjihbjjekhncaaa
namespace Go.Proofs.Ytjihbjjekhncaaa
open Go Go.RowKit Sv
set_option linter.unusedVariables false
set_option maxRecDepth 100000
set_option maxHeartbeats 0
/-- eight bytes of a number make it again. -/
theorem n8_of {y : Nat → Nat} {x : Int} (hx : 0 ≤ x ∧ x ≤ 18446744073709551615) (h0 : b8 y 0 = x / 72057594037927936 % 256) (h1 : b8 y 1 = x / 281474976710656 % 256) (h2 : b8 y 2 = x / 1099511627776 % 256) (h3 : b8 y 3 = x / 4294967296 % 256) (h4 : b8 y 4 = x / 16777216 % 256) (h5 : b8 y 5 = x / 65536 % 256) (h6 : b8 y 6 = x / 256 % 256) (h7 : b8 y 7 = x % 256) : n8 y = x := by
  obtain ⟨q1, e1⟩ : ∃ q, q = x / 256 := ⟨_, rfl⟩
  obtain ⟨q2, e2⟩ : ∃ q, q = q1 / 256 := ⟨_, rfl⟩
  obtain ⟨q3, e3⟩ : ∃ q, q = q2 / 256 := ⟨_, rfl⟩
  obtain ⟨q4, e4⟩ : ∃ q, q = q3 / 256 := ⟨_, rfl⟩
  obtain ⟨q5, e5⟩ : ∃ q, q = q4 / 256 := ⟨_, rfl⟩
  obtain ⟨q6, e6⟩ : ∃ q, q = q5 / 256 := ⟨_, rfl⟩
  obtain ⟨q7, e7⟩ : ∃ q, q = q6 / 256 := ⟨_, rfl⟩
  have d (a b : Int) (hb : 0 < b) : a / (b * 256) = a / b / 256 := (Int.ediv_ediv_of_nonneg (Int.le_of_lt hb)).symm
  have k2 : x / 65536 = q2 := by rw [show (65536 : Int) = 256 * 256 by decide, d _ _ (by decide), ← e1, ← e2]
  have k3 : x / 16777216 = q3 := by rw [show (16777216 : Int) = 65536 * 256 by decide, d _ _ (by decide), k2, ← e3]
  have k4 : x / 4294967296 = q4 := by rw [show (4294967296 : Int) = 16777216 * 256 by decide, d _ _ (by decide), k3, ← e4]
  have k5 : x / 1099511627776 = q5 := by rw [show (1099511627776 : Int) = 4294967296 * 256 by decide, d _ _ (by decide), k4, ← e5]
  have k6 : x / 281474976710656 = q6 := by rw [show (281474976710656 : Int) = 1099511627776 * 256 by decide, d _ _ (by decide), k5, ← e6]
  have k7 : x / 72057594037927936 = q7 := by rw [show (72057594037927936 : Int) = 281474976710656 * 256 by decide, d _ _ (by decide), k6, ← e7]
  rw [k7] at h0
  rw [k6] at h1
  rw [k5] at h2
  rw [k4] at h3
  rw [k3] at h4
  rw [k2] at h5
  rw [← e1] at h6
  clear d k2 k3 k4 k5 k6 k7
  unfold n8
  rw [h0, h1, h2, h3, h4, h5, h6, h7]
  omega
/-- bytes, as the engine has them. -/
def natB (l : Nat → Int) (i : Nat) : Nat := (l i).toNat
theorem by8_nat {l : Nat → Int} {i : Nat} (h : 0 ≤ l i ∧ l i < 256) : by8 (natB l) i = [cell8 (l i)] := by
  unfold by8 natB cell8
  have e : (((l i).toNat % 256 : Nat) : Int) = l i := by omega
  rw [e]
theorem b8_nat {l : Nat → Int} {f : Nat → Nat} {i : Nat} (h : 0 ≤ l (f i) ∧ l (f i) < 256) : b8 (fun i => natB l (f i)) i = l (f i) := by
  show (((l (f i)).toNat % 256 : Nat) : Int) = l (f i)
  omega
end Go.Proofs.Ytjihbjjekhncaaa
namespace Go.Proofs.Ytjihbjjekhncaaa
open Go Go.RowKit Sv
set_option linter.unusedVariables false
set_option maxRecDepth 100000
set_option maxHeartbeats 0
theorem n8_b0 (z : Nat → Nat) : n8 z / 72057594037927936 % 256 = b8 z 0 := by
  have b0 := b8_bd z 0
  have b1 := b8_bd z 1
  have b2 := b8_bd z 2
  have b3 := b8_bd z 3
  have b4 := b8_bd z 4
  have b5 := b8_bd z 5
  have b6 := b8_bd z 6
  have b7 := b8_bd z 7
  unfold n8
  omega
theorem n8_b1 (z : Nat → Nat) : n8 z / 281474976710656 % 256 = b8 z 1 := by
  have b0 := b8_bd z 0
  have b1 := b8_bd z 1
  have b2 := b8_bd z 2
  have b3 := b8_bd z 3
  have b4 := b8_bd z 4
  have b5 := b8_bd z 5
  have b6 := b8_bd z 6
  have b7 := b8_bd z 7
  unfold n8
  omega
theorem n8_b2 (z : Nat → Nat) : n8 z / 1099511627776 % 256 = b8 z 2 := by
  have b0 := b8_bd z 0
  have b1 := b8_bd z 1
  have b2 := b8_bd z 2
  have b3 := b8_bd z 3
  have b4 := b8_bd z 4
  have b5 := b8_bd z 5
  have b6 := b8_bd z 6
  have b7 := b8_bd z 7
  unfold n8
  omega
theorem n8_b3 (z : Nat → Nat) : n8 z / 4294967296 % 256 = b8 z 3 := by
  have b0 := b8_bd z 0
  have b1 := b8_bd z 1
  have b2 := b8_bd z 2
  have b3 := b8_bd z 3
  have b4 := b8_bd z 4
  have b5 := b8_bd z 5
  have b6 := b8_bd z 6
  have b7 := b8_bd z 7
  unfold n8
  omega
theorem n8_b4 (z : Nat → Nat) : n8 z / 16777216 % 256 = b8 z 4 := by
  have b0 := b8_bd z 0
  have b1 := b8_bd z 1
  have b2 := b8_bd z 2
  have b3 := b8_bd z 3
  have b4 := b8_bd z 4
  have b5 := b8_bd z 5
  have b6 := b8_bd z 6
  have b7 := b8_bd z 7
  unfold n8
  omega
theorem n8_b5 (z : Nat → Nat) : n8 z / 65536 % 256 = b8 z 5 := by
  have b0 := b8_bd z 0
  have b1 := b8_bd z 1
  have b2 := b8_bd z 2
  have b3 := b8_bd z 3
  have b4 := b8_bd z 4
  have b5 := b8_bd z 5
  have b6 := b8_bd z 6
  have b7 := b8_bd z 7
  unfold n8
  omega
theorem n8_b6 (z : Nat → Nat) : n8 z / 256 % 256 = b8 z 6 := by
  have b0 := b8_bd z 0
  have b1 := b8_bd z 1
  have b2 := b8_bd z 2
  have b3 := b8_bd z 3
  have b4 := b8_bd z 4
  have b5 := b8_bd z 5
  have b6 := b8_bd z 6
  have b7 := b8_bd z 7
  unfold n8
  omega
theorem n8_b7 (z : Nat → Nat) : n8 z % 256 = b8 z 7 := by
  have b0 := b8_bd z 0
  have b1 := b8_bd z 1
  have b2 := b8_bd z 2
  have b3 := b8_bd z 3
  have b4 := b8_bd z 4
  have b5 := b8_bd z 5
  have b6 := b8_bd z 6
  have b7 := b8_bd z 7
  unfold n8
  omega
end Go.Proofs.Ytjihbjjekhncaaa
namespace Go.Proofs.Ytjihbjjekhncaaa
open Go Go.RowKit Sv
set_option linter.unusedVariables false
set_option maxRecDepth 100000
set_option maxHeartbeats 0
theorem be8_n8 (z : Nat → Nat) : be8 (n8 z) = [b8 z 0, b8 z 1, b8 z 2, b8 z 3, b8 z 4, b8 z 5, b8 z 6, b8 z 7] := by
  unfold be8
  rw [n8_b0, n8_b1, n8_b2, n8_b3, n8_b4, n8_b5, n8_b6, n8_b7]
theorem be8d_n8 (z : Nat → Nat) : be8d (n8 z) = [b8 z 0, b8 z 1, b8 z 2, b8 z 3, b8 z 4, b8 z 5, b8 z 6, b8 z 7] := by
  unfold be8d
  rw [n8_b0, n8_b1, n8_b2, n8_b3, n8_b4, n8_b5, n8_b6, Int.ediv_one, n8_b7]
theorem md (z : Nat → Nat) (i : Nat) : b8 z i % 256 = b8 z i := by
  have b := b8_bd z i
  omega
theorem md0 (z : Nat → Nat) (i : Nat) : (0 + b8 z i) % 256 = b8 z i := by
  have b := b8_bd z i
  omega
theorem md1 (z : Nat → Nat) (i : Nat) : (0 + b8 z i) % 256 % 256 = b8 z i := by
  have b := b8_bd z i
  omega
theorem hd_by (y : Nat → Nat) : (msS y).hd = (List.range 51).map (b8 y) := by
  have e : (msS y).hd = [b8 y 0, b8 y 1 % 256, b8 y 2 % 256] ++ be8d (n8 fun i => y (3 + (0 + i))) ++ be8d (n8 fun i => y (3 + (8 + i))) ++ be8d (n8 fun i => y (3 + (16 + i))) ++ be8d (n8 fun i => y (3 + (24 + i))) ++ be8d (n8 fun i => y (3 + (32 + i))) ++ be8d (n8 fun i => y (3 + (40 + i))) := rfl
  rw [e, md, md, be8d_n8, be8d_n8, be8d_n8, be8d_n8, be8d_n8, be8d_n8]
  rfl
theorem ask_by (y : Nat → Nat) : (msK y).ask = (List.range 67).map (b8 y) := by
  have e : (msK y).ask = (msS y).hd ++ be8 (n8 fun i => y (51 + i)) ++ be8 (n8 fun i => y (59 + i)) := rfl
  rw [e, hd_by, be8_n8, be8_n8]
  rfl
theorem ev_by (A : Nat) (y : Nat → Nat) : (evAt A y).by = (List.range 91).map (b8 fun r => y (A + r)) := by
  have e : (evAt A y).by = [(0 + b8 (fun i => y (A + i)) 0) % 256] ++ be8 (n8 fun i => y (A + (1 + i))) ++ be8d (n8 fun i => y (A + (1 + (8 + (0 + (0 + i)))))) ++ be8d (n8 fun i => y (A + (1 + (8 + (0 + (8 + i)))))) ++ be8d (n8 fun i => y (A + (1 + (8 + (0 + (16 + i)))))) ++ be8d (n8 fun i => y (A + (1 + (8 + (0 + (24 + i)))))) ++ be8d (n8 fun i => y (A + (1 + (8 + (0 + (32 + i)))))) ++ be8d (n8 fun i => y (A + (1 + (8 + (0 + (40 + i)))))) ++ [(0 + b8 (fun i => y (A + (1 + (8 + (48 + i))))) 0) % 256 % 256] ++ be8 (n8 fun i => y (A + (1 + (8 + (48 + (1 + i)))))) ++ [(0 + b8 (fun i => y (A + (1 + (8 + (48 + (1 + (8 + i))))))) 0) % 256] ++ be8 (n8 fun i => y (A + (1 + (8 + (48 + (1 + (8 + (1 + i)))))))) ++ be8 (n8 fun i => y (A + (1 + (8 + (48 + (1 + (8 + (1 + (8 + i))))))))) ++ be8 (n8 fun i => y (A + (1 + (8 + (48 + (1 + (8 + (1 + (8 + (8 + i)))))))))) := rfl
  rw [e, md0, md1, md0, be8_n8, be8_n8, be8_n8, be8_n8, be8_n8, be8d_n8, be8d_n8, be8d_n8, be8d_n8, be8d_n8, be8d_n8]
  rfl
theorem getD_rng {g : Nat → Int} {n i : Nat} (h : i < n) : ((List.range n).map g).getD i 0 = g i := by
  rw [List.getD_eq_getElem?_getD, List.getElem?_map, List.getElem?_range h]
  rfl
/-- what is a Sync is put as it stood. -/
theorem syn_to {n q : Nat} {y : Nat → Nat} (h : n = 51 + 91 * q) : ∀ i, i < n → synY (msS y) (msE y) i = by8 y i := fun i hi => by
  by_cases k : i < 51
  · rw [syn_lt _ _ k, hd_by, getD_rng k]
    rfl
  · rw [syn_ge _ _ k]
    unfold evY msE
    rw [ev_by, getD_rng (Nat.mod_lt _ (by decide))]
    have e : 51 + (91 * ((i - 51) / 91) + (i - 51) % 91) = i := by omega
    show [cell8 ((y (51 + (91 * ((i - 51) / 91) + (i - 51) % 91)) % 256 : Nat) : Int)] = _
    rw [e]
    rfl
theorem ask_to {y : Nat → Nat} : ∀ i, i < 67 → [cell8 ((msK y).ask.getD i 0)] = by8 y i := fun i hi => by
  rw [ask_by, getD_rng hi]
  rfl
end Go.Proofs.Ytjihbjjekhncaaa
namespace Go.Proofs.Ytjihbjjekhncaaa
open Go Go.RowKit Sv
set_option linter.unusedVariables false
set_option maxRecDepth 100000
set_option maxHeartbeats 0
/-- a number that is written out, as one that isn't. -/
def sI : AV → AV
  | .int k x => .sint k x
  | a => a
theorem vd_sI {ρ : Ctx} {a : AV} {v : Value} (h : VD ρ a v) : VD ρ (sI a) v := by
  cases a <;> first | exact h | (cases h; exact .sint _ _)
theorem vd_unsI {ρ : Ctx} {a : AV} {v : Value} (h : VD ρ (sI a) v) : VD ρ a v := by
  cases a <;> first | exact h | (cases h; exact .int _ _)
theorem vds_sI {ρ : Ctx} : ∀ {l : List AV} {vs : List Value}, VDs ρ l vs → VDs ρ (l.map sI) vs
  | [], _, h => h
  | a :: l, _, h => by
    cases h with
    | cons _ v _ m h t => exact .cons _ _ _ _ (vd_sI h) (vds_sI t)
theorem vds_unsI {ρ : Ctx} : ∀ {l : List AV} {vs : List Value}, VDs ρ (l.map sI) vs → VDs ρ l vs
  | [], _, h => h
  | a :: l, _, h => by
    cases h with
    | cons _ v _ m h t => exact .cons _ _ _ _ (vd_unsI h) (vds_unsI t)
theorem vd_ext {ρ : Ctx} {z n : Nat} {f g : Nat → List AV} {v : Value} (h : ∀ i, i < n → (f i).map sI = (g i).map sI) (hv : VD ρ (.data z n f) v) : VD ρ (.data z n g) v := by
  cases hv with
  | data _ _ _ b off cap c elem fr hd hcap hsz hlen hrow =>
    refine .data _ _ _ b off cap c elem fr hd hcap hsz (fun i hi => ?_) fun i hi => vds_unsI ?_
    · have e := congrArg List.length (h i hi)
      rw [List.length_map, List.length_map] at e
      rw [← e]
      exact hlen i hi
    · rw [← h i hi]
      exact vds_sI (hrow i hi)
  | data0 _ _ a c => exact .data0 _ _ _ _
  | dataN _ _ => exact .dataN _ _
/-- a contract, its rows told otherwise. -/
theorem runs_ext {P : Program} {k z n : Nat} {f g : Nat → List AV} {R : AV → List NewB → Prop} (h : ∀ i, i < n → (f i).map sI = (g i).map sI) (hr : Runs P k [.data z n g] R) : Runs P k [.data z n f] R :=
  ⟨hr.1, fun ρ w vs h1 h2 hv => hr.2 ρ w vs h1 h2 (by
    generalize vs.toList = l at hv ⊢
    cases hv with
    | cons _ v _ m h3 h4 => exact .cons _ _ _ _ (vd_ext h h3) h4)⟩
theorem runs_args {P : Program} {k : Nat} {as' bs : List AV} {R : AV → List NewB → Prop} (h : ∀ ρ vs, VDs ρ as' vs → VDs ρ bs vs) (hr : Runs P k bs R) : Runs P k as' R :=
  ⟨hr.1, fun ρ w vs h1 h2 hv => hr.2 ρ w vs h1 h2 (h _ _ hv)⟩
theorem getD_mem {l : List Int} {i : Nat} (h : i < l.length) : l.getD i 0 ∈ l := by
  rw [List.getD_eq_getElem?_getD, List.getElem?_eq_getElem h, Option.getD_some]
  exact List.getElem_mem h
def isBy (l : List Int) : Prop := ∀ x ∈ l, 0 ≤ x ∧ x < 256
theorem isBy_app {l m : List Int} (h : isBy l) (k : isBy m) : isBy (l ++ m) := fun x hx => by
  rcases List.mem_append.1 hx with e | e
  · exact h x e
  · exact k x e
theorem isBy_cons {x : Int} {l : List Int} (h : 0 ≤ x ∧ x < 256) (k : isBy l) : isBy (x :: l) := fun y hy => by
  rcases List.mem_cons.1 hy with rfl | e
  · exact h
  · exact k y e
theorem isBy_nil : isBy [] := fun x hx => by cases hx
theorem isBy_be8 (x : Int) : isBy (be8 x) := by
  unfold be8
  exact isBy_cons (by omega) (isBy_cons (by omega) (isBy_cons (by omega) (isBy_cons (by omega) (isBy_cons (by omega) (isBy_cons (by omega) (isBy_cons (by omega) (isBy_cons (by omega) isBy_nil)))))))
theorem isBy_be8d (x : Int) : isBy (be8d x) := by
  unfold be8d
  exact isBy_cons (by omega) (isBy_cons (by omega) (isBy_cons (by omega) (isBy_cons (by omega) (isBy_cons (by omega) (isBy_cons (by omega) (isBy_cons (by omega) (isBy_cons (by omega) isBy_nil)))))))
theorem isBy_ev (e : EvI) : isBy e.by := by
  unfold EvI.by
  have h1 : ∀ x : Int, isBy [x % 256] := fun x => isBy_cons (by omega) isBy_nil
  exact isBy_app (isBy_app (isBy_app (isBy_app (isBy_app (isBy_app (isBy_app (isBy_app (isBy_app (isBy_app (isBy_app (isBy_app (isBy_app (h1 _) (isBy_be8 _)) (isBy_be8d _)) (isBy_be8d _)) (isBy_be8d _)) (isBy_be8d _)) (isBy_be8d _)) (isBy_be8d _)) (h1 _)) (isBy_be8 _)) (h1 _)) (isBy_be8 _)) (isBy_be8 _)) (isBy_be8 _)
theorem isBy_hd {m : MsI} (hk : 0 ≤ m.k ∧ m.k < 256) : isBy m.hd := by
  unfold MsI.hd
  exact isBy_app (isBy_app (isBy_app (isBy_app (isBy_app (isBy_app (isBy_cons hk (isBy_cons (by omega) (isBy_cons (by omega) isBy_nil))) (isBy_be8d _)) (isBy_be8d _)) (isBy_be8d _)) (isBy_be8d _)) (isBy_be8d _)) (isBy_be8d _)
theorem isBy_ask {m : MsI} (hk : 0 ≤ m.k ∧ m.k < 256) : isBy m.ask := by
  unfold MsI.ask
  exact isBy_app (isBy_app (isBy_hd hk) (isBy_be8 _)) (isBy_be8 _)
/-- a Sync's bytes, as numbers. -/
def synI (m : MsI) (E : Nat → EvI) (i : Nat) : Int := if i < 51 then m.hd.getD i 0 else (E ((i - 51) / 91)).by.getD ((i - 51) % 91) 0
theorem synI_bd {m : MsI} (hk : 0 ≤ m.k ∧ m.k < 256) (E : Nat → EvI) (i : Nat) : 0 ≤ synI m E i ∧ synI m E i < 256 := by
  unfold synI
  by_cases h : i < 51
  · rw [if_pos h]
    exact isBy_hd hk _ (getD_mem (by rw [hd_len]; exact h))
  · rw [if_neg h]
    exact isBy_ev _ _ (getD_mem (by rw [by_len]; omega))
theorem synY_I (m : MsI) (E : Nat → EvI) (i : Nat) : synY m E i = [cell8 (synI m E i)] := by
  unfold synI
  by_cases h : i < 51
  · rw [if_pos h, syn_lt m E h]
  · rw [if_neg h, syn_ge m E h]
    rfl
def synN (m : MsI) (E : Nat → EvI) : Nat → Nat := natB (synI m E)
theorem by8_synN {m : MsI} (hk : 0 ≤ m.k ∧ m.k < 256) (E : Nat → EvI) (i : Nat) : by8 (synN m E) i = synY m E i := by
  rw [synY_I]
  exact by8_nat (synI_bd hk E i)
def askN (m : MsI) : Nat → Nat := natB fun i => m.ask.getD i 0
theorem by8_askN {m : MsI} (hk : 0 ≤ m.k ∧ m.k < 256) {i : Nat} (h : i < 67) : by8 (askN m) i = [cell8 (m.ask.getD i 0)] :=
  by8_nat (isBy_ask hk _ (getD_mem (by exact h)))
theorem gdf_syn (m : MsI) (E : Nat → EvI) (n : Nat) : GDF (.seq 1 n (synY m E)) := fun i hi => by
  rw [synY_I]
  rfl
theorem bytes_ext {n : Nat} {f g : Nat → List AV} (h : ∀ i, i < n → f i = g i) : bytesOf n f = bytesOf n g := by
  unfold bytesOf
  exact List.map_congr_left fun i hi => by rw [h i (List.mem_range.1 hi)]
theorem all_by8 (n : Nat) (y : Nat → Nat) : AllBytes n (by8 y) := fun i hi => by
  refine ⟨?_, ?_⟩
  · show (0 : Int) ≤ ((y i % 256 : Nat) : Int)
    omega
  · show ((y i % 256 : Nat) : Int) < 256
    omega
theorem all_syn {m : MsI} (hk : 0 ≤ m.k ∧ m.k < 256) (E : Nat → EvI) (n : Nat) : AllBytes n (synY m E) := fun i hi => by
  rw [synY_I]
  exact synI_bd hk E i
end Go.Proofs.Ytjihbjjekhncaaa
