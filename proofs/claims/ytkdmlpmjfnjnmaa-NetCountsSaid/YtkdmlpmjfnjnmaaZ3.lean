import Derived.Test.YtkdmlpmjfnjnmaaZ2
set_option linter.unusedSimpArgs false
namespace Go.Proofs.Ytkdmlpmjfnjnmaa
open Go Go.RowKit Sv
set_option linter.unusedVariables false
set_option maxRecDepth 100000
set_option maxHeartbeats 0
theorem ev_eq {a b : EvI} (h : a.o = b.o ∧ a.s = b.s ∧ a.d0 = b.d0 ∧ a.d1 = b.d1 ∧ a.d2 = b.d2 ∧ a.d3 = b.d3 ∧ a.d4 = b.d4 ∧ a.d5 = b.d5 ∧ a.k = b.k ∧ a.n = b.n ∧ a.t = b.t ∧ a.a = b.a ∧ a.r = b.r ∧ a.f = b.f) : a = b := by
  cases a
  cases b
  simp only at h
  obtain ⟨rfl, rfl, rfl, rfl, rfl, rfl, rfl, rfl, rfl, rfl, rfl, rfl, rfl, rfl⟩ := h
  rfl
theorem ev_ne {a b : EvI} (h : ¬ (a.o = b.o ∧ a.s = b.s ∧ a.d0 = b.d0 ∧ a.d1 = b.d1 ∧ a.d2 = b.d2 ∧ a.d3 = b.d3 ∧ a.d4 = b.d4 ∧ a.d5 = b.d5 ∧ a.k = b.k ∧ a.n = b.n ∧ a.t = b.t ∧ a.a = b.a ∧ a.r = b.r ∧ a.f = b.f)) : ¬ a = b := fun e => h (by subst e; exact ⟨rfl, rfl, rfl, rfl, rfl, rfl, rfl, rfl, rfl, rfl, rfl, rfl, rfl, rfl⟩)
def samS (n k : Nat) (E F : Nat → EvI) (q : Nat) : List AV := [evs n E, evs k F, .top, .top, .bool false, .sint .i64 q, .top, .top, .top, .top, .top, .top, .top, .top, .top, .top, .top, .top, .top, .top, .top, .top, .top, .top, .top, .top]
theorem samUp {E F : Nat → EvI} {q : Nat} (h : ∀ j, j < q → E j = F j) (k : E q = F q) : ∀ j, j < q + 1 → E j = F j := fun j hj => by
  by_cases e : j < q
  · exact h j e
  · obtain rfl : j = q := by omega
    exact k
theorem esame (n k : Nat) (E F : Nat → EvI) (hn : n ≤ 1099511627776) (hk : k ≤ 1099511627776) : Runs Try.prog 26 [evs n E, evs k F] fun x G => G = [] ∧ ((x = .bool true ∧ n = k ∧ ∀ j, j < n → E j = F j) ∨ (x = .bool false ∧ ¬ (n = k ∧ ∀ j, j < n → E j = F j))) := by
  refine runs_treeF plain mixed (fun g => false) (fun _ => true) 60 ?_
  refine ok_sk (.both (.stop []) (.stop [])) (S := .fork (decide ((↑n : Int) = (↑k : Int))) (.stop (.loop 54 [.data 14 n fun i => (E i).row, .data 14 k fun i => (F i).row, .tuple [], .tuple [], .bool false, .int .i64 (0 : Int), .data 14 n fun i => (E i).row, .sint .i64 (↑n : Int), .data 14 k fun i => (F i).row, .sint .i64 (↑k : Int), .bool false, .tuple [], .tuple [], .tuple [], .tuple [], .tuple [], .tuple [], .tuple [], .tuple [], .tuple [], .tuple [], .tuple [], .tuple [], .tuple [], .tuple [], .tuple []]) [] ([])) (.stop (.leaf (.bool false)) [] ([]))) (by kernel_rfl) ?_
  refine hold_forkD (fun h0 => ?_) (fun h0 => ?_)
  ·
   refine hold_stop (fun hd hb => ?_)
   refine ok_loop hd (X := {q : Nat // q ≤ n ∧ ∀ j, j < q → E j = F j}) (fun q => samS n k E F q.1) (fun _ => []) (fun q => n - q.1) [] ⟨0, by omega, fun j hj => absurd hj (Nat.not_lt_zero j)⟩ ⟨by simp [samS, evs, fitsA, fitA, nf], trivial, .nil⟩ ?_
   rintro ⟨q, q1, qm⟩
   refine ok_sk (.both (.l (.l (.both (.l (.stop [])) (.stop [])))) (.stop [])) (S := .fork (decide ((↑q : Int) < (↑n : Int))) (.left (decide (0 ≤ (↑q : Int) ∧ (↑q : Int).toNat < n)) (.left (decide (0 ≤ (↑q : Int) ∧ (↑q : Int).toNat < k)) (.fork (@decide ((E (↑q : Int).toNat).o = (F (↑q : Int).toNat).o ∧ (E (↑q : Int).toNat).s = (F (↑q : Int).toNat).s ∧ (E (↑q : Int).toNat).d0 = (F (↑q : Int).toNat).d0 ∧ (E (↑q : Int).toNat).d1 = (F (↑q : Int).toNat).d1 ∧ (E (↑q : Int).toNat).d2 = (F (↑q : Int).toNat).d2 ∧ (E (↑q : Int).toNat).d3 = (F (↑q : Int).toNat).d3 ∧ (E (↑q : Int).toNat).d4 = (F (↑q : Int).toNat).d4 ∧ (E (↑q : Int).toNat).d5 = (F (↑q : Int).toNat).d5 ∧ (E (↑q : Int).toNat).k = (F (↑q : Int).toNat).k ∧ (E (↑q : Int).toNat).n = (F (↑q : Int).toNat).n ∧ (E (↑q : Int).toNat).t = (F (↑q : Int).toNat).t ∧ (E (↑q : Int).toNat).a = (F (↑q : Int).toNat).a ∧ (E (↑q : Int).toNat).r = (F (↑q : Int).toNat).r ∧ (E (↑q : Int).toNat).f = (F (↑q : Int).toNat).f) pd) (.left (decide ((-9223372036854775808 : Int) ≤ (↑q : Int) + 1 ∧ (↑q : Int) + 1 ≤ 9223372036854775807)) (.stop (.again (again' (fun (q : { q : Nat // q ≤ n ∧ ∀ (j : Nat), j < q → E j = F j }) => samS n k E F q.val) (fun (x : { q : Nat // q ≤ n ∧ ∀ (j : Nat), j < q → E j = F j }) => []) (fun (q : { q : Nat // q ≤ n ∧ ∀ (j : Nat), j < q → E j = F j }) => n - q.val) ⟨q, ⟨q1, qm⟩⟩) [.data 14 n fun i => (E i).row, .data 14 k fun i => (F i).row, .top, .top, .bool false, .sint .i64 ((↑q : Int) + 1), .top, .top, .top, .top, .top, .sint .i64 (↑q : Int), .data 14 n fun i => (E i).row, .sint .i64 (↑n : Int), .bool true, .sint .i64 (↑q : Int), .sint .i64 ((↑q : Int) + 1), .data 14 n fun i => (E i).row, .sint .i64 (↑q : Int), .dptr (E (↑q : Int).toNat).row, .agg (E (↑q : Int).toNat).row, .data 14 k fun i => (F i).row, .sint .i64 (↑q : Int), .dptr (F (↑q : Int).toNat).row, .agg (F (↑q : Int).toNat).row, .bool false]) [] ([]))) (.stop (.leaf (.bool false)) [] ([]))))) (.stop (.leaf (.bool true)) [] ([]))) (by kernel_rfl) ?_
   refine hold_forkD (fun h2 => ?_) (fun h2 => ?_)
   ·
    iterate 2 refine hl (bc fun h3 => by omega) ?_
    refine hold_forkD (fun h3 => ?_) (fun h3 => ?_)
    ·
     refine hl (bc fun h4 => by omega) ?_
     refine hold_stop (fun hd hb => ?_)
     refine ok_again hd [] ⟨q + 1, by omega, samUp qm (ev_eq (by assumption))⟩ ?_ ⟨?_, trivial, .nil⟩
     · show n - (q + 1) < n - q
       omega
     · simp [samS, evs, fitsA, fitA, nf] <;> omega
    exact hold_stop fun hd hb => ok_leaf0 hd rfl ⟨rfl, .inr ⟨rfl, fun h => ev_ne (by assumption) (h.2 q (by omega))⟩⟩
   exact hold_stop fun hd hb => ok_leaf0 hd rfl ⟨rfl, .inl ⟨rfl, by omega, fun j hj => qm j (by omega)⟩⟩
  exact hold_stop fun hd hb => ok_leaf0 hd rfl ⟨rfl, .inr ⟨rfl, fun h => by omega⟩⟩
theorem ms_eq {m p : MsI} (h : m.k = p.k ∧ m.f = p.f ∧ m.t = p.t ∧ m.v0 = p.v0 ∧ m.v1 = p.v1 ∧ m.v2 = p.v2 ∧ m.v3 = p.v3 ∧ m.v4 = p.v4 ∧ m.v5 = p.v5 ∧ m.n = p.n ∧ m.a = p.a) : m = p := by
  cases m
  cases p
  simp only at h
  obtain ⟨rfl, rfl, rfl, rfl, rfl, rfl, rfl, rfl, rfl, rfl, rfl⟩ := h
  rfl
def eqMs (m p : MsI) (n k : Nat) (E F : Nat → EvI) : Prop := m = p ∧ n = k ∧ ∀ j, j < n → E j = F j
theorem msame (m p : MsI) (n k : Nat) (E F : Nat → EvI) (hn : n ≤ 1099511627776) (hk : k ≤ 1099511627776) : Runs Try.prog 12 [.agg (m.row (evs n E)), .agg (p.row (evs k F))] fun x G => G = [] ∧ ((x = .bool true ∧ eqMs m p n k E F) ∨ (x = .bool false ∧ ¬ eqMs m p n k E F)) := by
  refine runs_treeF plain mixed (fun g => Nat.beq g 26) (fun _ => true) 60 ?_
  refine ok_sk (.both (.both (.both (.both (.stop []) (.stop [])) (.stop [])) (.stop [])) (.stop [])) (S := .fork (decide (m.k = p.k)) (.fork (decide (m.f = p.f)) (.fork (decide (m.t = p.t)) (.fork (@decide (m.v0 = p.v0 ∧ m.v1 = p.v1 ∧ m.v2 = p.v2 ∧ m.v3 = p.v3 ∧ m.v4 = p.v4 ∧ m.v5 = p.v5) pd) (.stop (.call 26 [.data 14 n fun i => (E i).row, .data 14 k fun i => (F i).row]) [] ([])) (.stop (.leaf (.bool false)) [] ([]))) (.stop (.leaf (.bool false)) [] ([]))) (.stop (.leaf (.bool false)) [] ([]))) (.stop (.leaf (.bool false)) [] ([]))) (by kernel_rfl) ?_
  refine hold_forkD (fun h0 => ?_) (fun h0 => ?_)
  ·
   refine hold_forkD (fun h1 => ?_) (fun h1 => ?_)
   ·
    refine hold_forkD (fun h2 => ?_) (fun h2 => ?_)
    ·
     refine hold_forkD (fun h3 => ?_) (fun h3 => ?_)
     ·
      refine hold_stop (fun hd hb => ?_)
      refine ok_call0 hd (esame n k E F hn hk) rfl ?_
      rintro x G ⟨rfl, ⟨rfl, sm⟩ | ⟨rfl, sm⟩⟩ <;> refine ⟨rfl, fun g hg => (by cases hg), ?_⟩
      ·
       refine ok_sk (.both (.both (.stop []) (.stop [])) (.stop [])) (S := .fork (decide (m.n = p.n)) (.fork (decide (m.a = p.a)) (.stop (.leaf (.bool true)) [] ([])) (.stop (.leaf (.bool false)) [] ([]))) (.stop (.leaf (.bool false)) [] ([]))) (by kernel_rfl) ?_
       refine hold_forkD (fun h5 => ?_) (fun h5 => ?_)
       ·
        refine hold_forkD (fun h6 => ?_) (fun h6 => ?_)
        ·
         exact hold_stop fun hd hb => ok_leaf0 hd rfl ⟨rfl, .inl ⟨rfl, ms_eq (by omega), sm⟩⟩
        exact hold_stop fun hd hb => ok_leaf0 hd rfl ⟨rfl, .inr ⟨rfl, fun h => (by obtain ⟨rfl, _, _⟩ := h; exact absurd rfl (by assumption))⟩⟩
       exact hold_stop fun hd hb => ok_leaf0 hd rfl ⟨rfl, .inr ⟨rfl, fun h => (by obtain ⟨rfl, _, _⟩ := h; exact absurd rfl (by assumption))⟩⟩
      refine ok_sk (.stop []) (S := .stop (.leaf (.bool false)) [] ([])) (by kernel_rfl) ?_
      exact hold_stop fun hd hb => ok_leaf0 hd rfl ⟨rfl, .inr ⟨rfl, fun h => sm h.2⟩⟩
     exact hold_stop fun hd hb => ok_leaf0 hd rfl ⟨rfl, .inr ⟨rfl, fun h => (by obtain ⟨rfl, _, _⟩ := h; omega)⟩⟩
    exact hold_stop fun hd hb => ok_leaf0 hd rfl ⟨rfl, .inr ⟨rfl, fun h => (by obtain ⟨rfl, _, _⟩ := h; exact absurd rfl (by assumption))⟩⟩
   exact hold_stop fun hd hb => ok_leaf0 hd rfl ⟨rfl, .inr ⟨rfl, fun h => (by obtain ⟨rfl, _, _⟩ := h; exact absurd rfl (by assumption))⟩⟩
  exact hold_stop fun hd hb => ok_leaf0 hd rfl ⟨rfl, .inr ⟨rfl, fun h => (by obtain ⟨rfl, _, _⟩ := h; exact absurd rfl (by assumption))⟩⟩
end Go.Proofs.Ytkdmlpmjfnjnmaa
