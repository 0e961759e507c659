import Derived.Test.YtnnhkanjneecjaaOctG
namespace Go.Proofs.Ytnnhkanjneecjaa
open Go.RowKit
theorem own_zero {w : World} {base : Nat} {e : TypeId} {v : Value} {bs : List UInt8} (h : OwnB w base e v bs) : OwnB w 0 e v bs := by
  refine ⟨h.1, ?_⟩
  rcases h.2 with h0 | ⟨g, cap, cur, hv, _, hr⟩
  · exact .inl h0
  · exact .inr ⟨g, cap, cur, hv, Nat.zero_le _, hr⟩
theorem own_less {w : World} {base b2 : Nat} {e : TypeId} {v : Value} {bs : List UInt8} (h : OwnB w base e v bs) (hb : b2 ≤ base) : OwnB w b2 e v bs := by
  refine ⟨h.1, ?_⟩
  rcases h.2 with h0 | ⟨g, cap, cur, hv, hg, hr⟩
  · exact .inl h0
  · exact .inr ⟨g, cap, cur, hv, Nat.le_trans hb hg, hr⟩
/-- rows of bytes and rows of slices never share a block. -/
theorem own_apart {w : World} {b1 b2 n : Nat} {x v : Value} {s : List UInt8} {xs : List Value} (h : OwnB w b1 5 x s) (h2 : w.ownsRow b2 22 1 v n xs) : x.ownBlock = none ∨ x.ownBlock ≠ v.ownBlock := by
  rcases h.2 with ⟨rfl, _⟩ | ⟨g, cap, cur, rfl, _, hh, _⟩
  · exact .inl rfl
  · refine .inr ?_
    rcases h2.2 with ⟨rfl, _⟩ | ⟨g', cap', cur', rfl, _, hh', _⟩
    · simp [Value.ownBlock]
    · intro e
      have e' : g = g' := by simpa [Value.ownBlock] using e
      subst e'
      rw [hh] at hh'
      injection hh' with hh'
      injection hh' with _ ht
      exact absurd ht (by decide)
/-- a row of the call's own that holds these strings, each in memory of the call's own. -/
def OwnS (w : World) (base : Nat) (v : Value) (acc : List (List UInt8)) : Prop :=
  ∃ xs : List Value, w.ownsRow base 22 1 v acc.length xs ∧ ∀ (i : Nat) (s : List UInt8), acc[i]? = some s → ∃ (A : Option Addr) (c : Nat), xs[i]? = some (Value.slice A s.length c) ∧ OwnB w base 5 (.slice A s.length c) s
theorem OwnS.nil_ (w : World) (base : Nat) : OwnS w base (.slice none 0 0) [] := ⟨[], World.ownsRow_nil w base 22 1, fun i s h => by simp at h⟩
theorem OwnS.below {w w' : World} {base : Nat} {v : Value} {acc : List (List UInt8)} (h : OwnS w base v acc) (hb : Below w.heap.size w w') : OwnS w' base v acc := by
  obtain ⟨xs, h1, h2⟩ := h
  refine ⟨xs, ⟨h1.1, ?_⟩, fun i s hi => ?_⟩
  · rcases h1.2 with h0 | ⟨g, cap, cur, hv, hg, hh, hr⟩
    · exact .inl h0
    · refine .inr ⟨g, cap, cur, hv, hg, ?_, hr⟩
      have hlt : g < w.heap.size := by
        rcases Nat.lt_or_ge g w.heap.size with h' | h'
        · exact h'
        · rw [Array.getElem?_eq_none h'] at hh; cases hh
      rw [hb.block g hlt]; exact hh
  · obtain ⟨A, c, hx, ho⟩ := h2 i s hi
    exact ⟨A, c, hx, own_below ho hb⟩
theorem OwnS.strs {w : World} {base : Nat} {A : Option Addr} {n c : Nat} {acc : List (List UInt8)} (h : OwnS w base (.slice A n c) acc) : Strs w w.heap.size A acc ∧ n = acc.length ∧ n ≤ c ∧ c ≤ maxLen := by
  obtain ⟨xs, h1, h2⟩ := h
  rcases h1.2 with ⟨hv, hn⟩ | ⟨g, cap, cur, hv, hg, hh, hc, hm, hz, ht⟩
  · injection hv with hA hn' hc'
    subst hA hn' hc'
    have : acc = [] := List.eq_nil_of_length_eq_zero hn
    subst this
    exact ⟨Strs.none_, rfl, Nat.le_refl _, by decide⟩
  · injection hv with hA hn' hc'
    subst hA hn' hc'
    have each : ∀ i, i < acc.length → ∃ y : Option Addr × Nat, ∀ s, acc[i]? = some s → xs[i]? = some (Value.slice y.1 s.length y.2) ∧ OwnB w base 5 (.slice y.1 s.length y.2) s := by
      intro i hi
      obtain ⟨A, c', hx, ho⟩ := h2 i acc[i] (List.getElem?_eq_getElem hi)
      refine ⟨(A, c'), fun s hs => ?_⟩
      rw [List.getElem?_eq_getElem hi] at hs
      injection hs with hs
      subst hs
      exact ⟨hx, ho⟩
    obtain ⟨y, hy⟩ := Deep.choose_lt each
    have hlt : ∀ i (s : List UInt8), acc[i]? = some s → i < acc.length := fun i s hs => by
      rcases Nat.lt_or_ge i acc.length with h' | h'
      · exact h'
      · rw [List.getElem?_eq_none h'] at hs; cases hs
    refine ⟨⟨fun i => (y i).1, fun i => (y i).2, fun _ => ⟨g, 0, rfl, ?_, fun i s hs => ?_⟩, fun i s hs => ?_⟩, rfl, hc, hm⟩
    · rcases Nat.lt_or_ge g w.heap.size with h' | h'
      · exact h'
      · rw [Array.getElem?_eq_none h'] at hh; cases hh
    · have hx := (hy i (hlt i s hs) s hs).1
      rw [Nat.zero_add, cell_of_row w g i cur 22 (0, 0) hh]
      rw [← ht, List.getElem?_take] at hx
      split at hx
      · simpa using hx
      · cases hx
    · obtain ⟨hb, h1, h2, _⟩ := own_open (hy i (hlt i s hs) s hs).2
      exact ⟨hb, h1, h2⟩
theorem info22 : (Try.prog.info? 22).map (fun i => (i.zero, i.size, i.bytes)) = some (some (.slice none 0 0), 1, 24) := by kernel_rfl
section
variable {ops : Array Oper} {Q : Exit → Act → World → Prop} {a : Act} {w : World} {rest : List Oper} {o : Oper}
/-- append of one string onto the call's own row of strings. -/
theorem wpList_aps (hw : Region.wanted o (yielded ops a.tmps) = true) (s x : Operand) (ho : o.op = .call { callee := .builtin .append, args := #[s, x], argTypes := #[33, 33] }) (hty : o.type = 33)
    (base : Nat) (v : Value) (acc : List (List UInt8)) (g c : Nat) (A5 : Option Addr) (n5 c5 : Nat) (s5 : List UInt8) (hs : a.eval s = v) (hx : a.eval x = .slice (some ⟨g, 0, none⟩) 1 c) (hcell : w.cell? ⟨g, 0, none⟩ = some (.slice A5 n5 c5))
    (hown : OwnS w base v acc) (h5 : OwnB w base 5 (.slice A5 n5 c5) s5) (hn5 : n5 = s5.length) (hsum : acc.length + 1 ≤ 1099511627777) (w0 : World) (hbel : Below base w0 w) (hbase : base ≤ w.heap.size)
    (h : ∀ A' c' n' w', Hid (n' = (acc ++ [s5]).length) → OwnS w' base (.slice A' n' c') (acc ++ [s5]) → Below base w0 w' → base ≤ w'.heap.size → wpList Try.prog ops Q rest (a.put o.dst (.slice A' n' c')) w') : wpList Try.prog ops Q (o :: rest) a w := by
  subst hn5
  obtain ⟨xs, h1, h2⟩ := hown
  obtain ⟨i, hi, hz, hsz, hby⟩ := info_parts info22
  obtain ⟨v', w', hr, k1, k2, _, k4⟩ := run_append_own_at (P := Try.prog) w base 33 o.type 22 i (.slice none 0 0) 1 24 Try.underlying33 hi hz hsz hby rfl (by omega) v acc.length xs h1 ⟨g, 0, none⟩ 1 c [.slice A5 s5.length c5] rfl
    (by intro j u hu; match j, hu with
        | 0, hu => injection hu with hu; subst hu; simpa [Addr.add] using hcell
        | j + 1, hu => simp at hu) (by intro u hu; simp at hu; subst hu; rfl) (by unfold maxLen; omega) (by omega) hbase
  have hgr : ∀ q, v.ownBlock = some q → base ≤ q := fun q hq => (World.ownsRow.lt h1 q hq).1
  have hv' : ∃ A' c', v' = .slice A' (acc.length + 1) c' := by
    rcases k1.2 with ⟨hv, hn⟩ | ⟨g', cap, cur, hv, _⟩
    · omega
    · exact ⟨_, _, hv⟩
  obtain ⟨A', c', rfl⟩ := hv'
  have keep : ∀ (x : Value) (s : List UInt8), OwnB w base 5 x s → OwnB w' base 5 x s := fun x s hx => World.ownsRow.kept hx k2 (own_apart hx h1)
  have hown' : OwnS w' base (.slice A' (acc.length + 1) c') (acc ++ [s5]) := by
    refine ⟨xs ++ [.slice A5 s5.length c5], by rw [List.length_append]; exact k1, fun j s hj => ?_⟩
    have hxl : xs.length = acc.length := by have := h1.1; omega
    by_cases hlt : j < acc.length
    · rw [List.getElem?_append_left hlt] at hj
      obtain ⟨A, c, hx, hb⟩ := h2 j s hj
      exact ⟨A, c, by rw [List.getElem?_append_left (by omega)]; exact hx, keep _ _ hb⟩
    · rw [List.getElem?_append_right (by omega)] at hj
      have hj0 : j - acc.length = 0 := by
        rcases Nat.eq_zero_or_pos (j - acc.length) with h' | h'
        · exact h'
        · rw [List.getElem?_eq_none (by simp; omega)] at hj; cases hj
      rw [hj0] at hj
      injection hj with hj
      subst hj
      exact ⟨A5, c5, by rw [List.getElem?_append_right (by omega), show j - xs.length = 0 by omega]; rfl, keep _ _ h5⟩
  refine wpList_wanted hw ?_
  unfold Oper.wp execOp
  simp only [ho, resolve, invoke, builtin, Sem.run_bind, Sem.run_pure, Result.andThen_ok, List.map_toArray, List.map_cons, List.map_nil, hs, hx, hr]
  exact h A' c' _ w' (show _ = _ by rw [List.length_append]; rfl) hown' (hbel.grown k2 hbase hgr) (Nat.le_trans hbase k2.size)
end
end Go.Proofs.Ytnnhkanjneecjaa
