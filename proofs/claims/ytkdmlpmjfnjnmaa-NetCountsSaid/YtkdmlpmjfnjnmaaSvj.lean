import Derived.Test.YtkdmlpmjfnjnmaaSvi
/-! append. -/
namespace Go.Proofs.Ytkdmlpmjfnjnmaa.Sv
open Go Go.RowKit
set_option linter.unusedVariables false
set_option linter.unusedSimpArgs false
variable {P : Program} {ρ : Ctx} {E : Env} {H : AH} {w : World}

/-- what is appended: m elements, with the cells us. -/
def Src (P : Program) (w : World) (e n m : Nat) (d : TypeDesc) (x : Value) (us : Array Value) : Prop :=
  ((∀ k, d ≠ .int k) ∧ (Builtin.lenOf x).run P w = .ok m w ∧ (Builtin.firstCells n m x).run P w = .ok us w) ∨
  ((∃ k, d = .int k) ∧ (∃ k, x = .int k (m : Int)) ∧ m < 65536 ∧ ∃ z, (zeroValue e).run P w = .ok z w ∧ z.cells.size = n ∧ us = Builtin.zeroCells z.cells m)
theorem bytes_le {b m : Nat} (hb : b < 65536) (hm : m < 65536) : ¬ ((m : Int) * (b : Int) > 2 ^ 48) := by
  have h1 : m * b ≤ 65536 * 65536 := Nat.mul_le_mul (Nat.le_of_lt hm) (Nat.le_of_lt hb)
  have h2 : ((m * b : Nat) : Int) ≤ ((65536 * 65536 : Nat) : Int) := Int.ofNat_le.2 h1
  rw [Int.natCast_mul] at h2
  have h3 : ((65536 * 65536 : Nat) : Int) < 2 ^ 48 := by decide
  omega
/-- so few that there is room for twice as many. -/
def Small (b m : Nat) : Prop := m < 65536 ∨ (b < 65 ∧ m < 1073741824)
theorem room_le {b k m : Nat} (hb : b < 65536) (hk : Small b k) (hm : Small b m) : (2 * (k + m) + 768) * b ≤ 2 ^ 48 := by
  have key : (k + m < 131072) ∨ (b < 65 ∧ k + m < 2147483648) := by
    rcases hk with hk | hk <;> rcases hm with hm | hm <;> omega
  rcases key with h | ⟨h1, h2⟩
  · exact Nat.le_trans (Nat.mul_le_mul (show 2 * (k + m) + 768 ≤ 263000 by omega) (show b ≤ 65536 by omega)) (by decide)
  · exact Nat.le_trans (Nat.mul_le_mul (show 2 * (k + m) + 768 ≤ 4294968064 by omega) (show b ≤ 64 by omega)) (by decide)
theorem lim_true {w c1 c2 x : Bool} (h : lim w c1 c2 x = true) : x = true ∧ (c1 = true ∨ (w = true ∧ c2 = true)) := by
  unfold lim at h
  simp only [fork_eq] at h
  cases c1 <;> cases w <;> cases c2 <;> first | (cases h; done) | exact ⟨h, by simp⟩
theorem zeroCells_nil {n m : Nat} {z : Value} (hz : z.cells.size = n) (h : m * n = 0) : Builtin.zeroCells z.cells m = #[] := by
  simp [Builtin.zeroCells, hz, h]
theorem append_in {ats : Array TypeId} {ty : TypeId} {t t' e n m sLen sCap : Nat} {d : TypeDesc} {i : TypeInfo} {x : Value} {base : Option Addr} {us : Array Value} (h0 : ats[0]? = some t) (h1 : ats[1]? = some t') (hu : P.underlying t = some (.slice e))
    (hu' : P.underlying t' = some d) (hn : size P e = some n) (hi : P.info? e = some i) (hb : i.bytes < 65536) (hsrc : Src P w e n m d x us) (hle : sLen + m ≤ sCap) :
    (Builtin.append_ ats ty #[.slice base sLen sCap, x]).run P w = match base with
      | some a => ((storeCells (a.add (sLen * n)) us.toList).run P w).andThen fun _ w' => .ok (.slice (some a) (sLen + m) sCap) w'
      | none => .ok (.slice none (sLen + m) sCap) w := by
  unfold Builtin.append_
  rcases hsrc with ⟨hd, hl, hf⟩ | ⟨⟨k, rfl⟩, ⟨k', rfl⟩, hm, z, hz, hzs, rfl⟩
  · have hd' : (match d with | .int _ => true | _ => false) = false := by cases d <;> first | rfl | exact absurd rfl (hd _)
    simp only [h0, h1, List.getElem?_toArray, List.getElem?_cons_zero, List.getElem?_cons_succ, Sem.run_bind, run_und hu, run_und hu', run_size hn, Result.andThen_ok, Sem.run_pure, hd', Bool.false_eq_true, if_false, hl, Bool.not_false, if_true, hf]
    rw [if_pos hle]
    cases base <;> simp only [Sem.run_bind, hf, Result.andThen_ok, Sem.run_pure]
  · have hw1 : IntKind.i64.wrap (m : Int) = (m : Int) := by rw [IntKind.wrap_i64]; omega
    simp only [h0, h1, List.getElem?_toArray, List.getElem?_cons_zero, List.getElem?_cons_succ, Sem.run_bind, run_und hu, run_und hu', run_size hn, Result.andThen_ok, Sem.run_pure, if_true, asInt, asIntOf, hw1, Bool.not_true, Bool.false_eq_true, if_false]
    rw [if_neg (by omega)]
    simp only [Sem.run_bind, run_info hi, Sem.run_pure, Result.andThen_ok, if_neg (bytes_le hb hm), Int.toNat_natCast]
    rw [if_pos hle]
    by_cases hmn : m * n = 0
    · cases base <;> simp only [if_pos hmn, Sem.run_bind, Sem.run_pure, Result.andThen_ok, zeroCells_nil hzs hmn]
    · cases base <;> simp only [if_neg hmn, Sem.run_bind, hz, Sem.run_pure, Result.andThen_ok]
theorem growBy_le (newLen : Nat) : ∀ (k c : Nat), c ≤ 2 * newLen + 768 → Builtin.growBy newLen k c ≤ 2 * newLen + 768
  | 0, c, h => h
  | k + 1, c, h => by
    unfold Builtin.growBy
    split
    · exact h
    · exact growBy_le newLen k _ (by omega)
theorem nextcap_le {need cap : Nat} (h : cap < need) : Builtin.nextslicecap need cap ≤ 2 * need + 768 := by
  unfold Builtin.nextslicecap
  split
  · omega
  · split
    · omega
    · exact growBy_le _ _ _ (by omega)
theorem append_new {ats : Array TypeId} {ty : TypeId} {t t' e n m sLen sCap : Nat} {d : TypeDesc} {i : TypeInfo} {x : Value} {base : Option Addr} {us old : Array Value} (h0 : ats[0]? = some t) (h1 : ats[1]? = some t') (hu : P.underlying t = some (.slice e))
    (hu' : P.underlying t' = some d) (hn : size P e = some n) (hi : P.info? e = some i) (hb : i.bytes < 65536) (hb0 : 0 < i.bytes) (hz : ∃ z, (zeroValue e).run P w = .ok z w ∧ z.cells.size = n) (hzw : ∀ W : World, ∀ z, (zeroValue e).run P w = .ok z w → (zeroValue e).run P W = .ok z W)
    (hsrc : ∀ W : World, W.heap = w.heap → Src P W e n m d x us) (hold : ∀ W : World, W.heap = w.heap → (Builtin.firstCells n sLen (.slice base sLen sCap)).run P W = .ok old W) (hlt : sCap < sLen + m) (hsmall : (2 * (sLen + m) + 768) * i.bytes ≤ 2 ^ 48) :
    ∃ newCap w' rest, sLen + m ≤ newCap ∧ (Builtin.append_ ats ty #[.slice base sLen sCap, x]).run P w = .ok (.slice (some ⟨w.heap.size, 0, none⟩) (sLen + m) newCap) w' ∧ Pushed w w' (.cells (old ++ us ++ rest) e) ∧ rest.size = (newCap - (sLen + m)) * n := by
  obtain ⟨z, hz, hzs⟩ := hz
  refine ⟨Question.cut (.appendCap (sLen + m) sCap e) (w.tape w.drawn (.appendCap (sLen + m) sCap e)), ?_⟩
  generalize hcap : Question.cut (.appendCap (sLen + m) sCap e) (w.tape w.drawn (.appendCap (sLen + m) sCap e)) = newCap
  have hge : sLen + m ≤ newCap := by rw [← hcap]; simp only [Question.cut]; omega
  let w1 : World := { w with drawn := w.drawn + 1 }
  refine ⟨{ w1 with heap := w.heap.push (.cells (old ++ us ++ Builtin.zeroCells z.cells (newCap - (sLen + m))) e) }, Builtin.zeroCells z.cells (newCap - (sLen + m)), hge, ?_, ⟨rfl, rfl, rfl, by simp [w1], by simp [w1], fun j hj => ?_⟩, by simp [Builtin.zeroCells, hzs]⟩
  · have hmax : ¬ (((sLen + m : Nat) : Int) > IntKind.i64.max) := by
      have : IntKind.i64.max = 9223372036854775807 := rfl
      have h1 : 2 * (sLen + m) + 768 ≤ 2 ^ 48 := Nat.le_trans (Nat.le_mul_of_pos_right _ hb0) hsmall
      omega
    have hbig : ¬ (Builtin.nextslicecap (sLen + m) sCap * i.bytes > 2 ^ 48) := by
      exact Nat.not_lt_of_le (Nat.le_trans (Nat.mul_le_mul_right _ (nextcap_le hlt)) hsmall)
    have hroom : ∀ (k : Nat) (W : World), (askRoom k).run P W = .ok () W := fun k W => by
      unfold askRoom
      split <;> simp [mark, Sem.run]
    have hcut : (choose (.appendCap (sLen + m) sCap e)).run P w = .ok newCap w1 := by
      simp only [choose, Sem.run, Question.forced, Bool.false_eq_true, if_false, hcap]
      rfl
    unfold Builtin.append_
    rcases hsrc w rfl with ⟨hd, hl, hf⟩ | ⟨⟨k, rfl⟩, ⟨k', rfl⟩, hm, z', hz', hzs', hus⟩
    · have hd' : (match d with | .int _ => true | _ => false) = false := by cases d <;> first | rfl | exact absurd rfl (hd _)
      have hf1 : (Builtin.firstCells n m x).run P w1 = .ok us w1 := by
        rcases hsrc w1 rfl with ⟨_, _, h⟩ | ⟨⟨k, h⟩, _⟩
        · exact h
        · exact absurd h (hd k)
      simp only [h0, h1, List.getElem?_toArray, List.getElem?_cons_zero, List.getElem?_cons_succ, Sem.run_bind, run_und hu, run_und hu', run_size hn, Result.andThen_ok, Sem.run_pure, hd', Bool.false_eq_true, if_false, hl, Bool.not_false, if_true, hf]
      rw [if_neg (by omega)]
      simp only [Sem.run_bind, run_info hi, Result.andThen_ok, hmax, false_and, if_false, hbig, Sem.run_pure, hcut, hroom, hold w1 rfl, hf1, hzw w1 z hz, newRow, newObj, Sem.run]
      rfl
    · have hw1 : IntKind.i64.wrap (m : Int) = (m : Int) := by rw [IntKind.wrap_i64]; omega
      have hzz : z' = z := by rw [hz] at hz'; cases hz'; rfl
      subst hzz
      simp only [h0, h1, List.getElem?_toArray, List.getElem?_cons_zero, List.getElem?_cons_succ, Sem.run_bind, run_und hu, run_und hu', run_size hn, Result.andThen_ok, Sem.run_pure, if_true, asInt, asIntOf, hw1, Bool.not_true, Bool.false_eq_true, if_false]
      rw [if_neg (by omega)]
      simp only [Sem.run_bind, run_info hi, Sem.run_pure, Result.andThen_ok, if_neg (bytes_le hb hm), Int.toNat_natCast]
      rw [if_neg (by omega)]
      by_cases hmn : m * n = 0
      · rw [hus, zeroCells_nil hzs hmn]
        simp only [Sem.run_bind, run_info hi, Result.andThen_ok, hmax, false_and, if_false, hbig, Sem.run_pure, hcut, hroom, hold w1 rfl, if_pos hmn, hzw w1 z' hz, newRow, newObj, Sem.run]
        rfl
      · rw [hus]
        simp only [Sem.run_bind, run_info hi, Result.andThen_ok, hmax, false_and, if_false, hbig, Sem.run_pure, hcut, hroom, hold w1 rfl, if_neg hmn, hzw w1 z' hz, newRow, newObj, Sem.run]
        rfl
  · show (w.heap.push _)[j]? = _
    rw [Array.getElem?_push, if_neg (by omega)]
end Go.Proofs.Ytkdmlpmjfnjnmaa.Sv
