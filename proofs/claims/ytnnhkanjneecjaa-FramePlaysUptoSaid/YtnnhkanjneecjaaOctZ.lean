import Derived.Test.YtnnhkanjneecjaaOctY
namespace Go.Proofs.Ytnnhkanjneecjaa
open Go.RowKit
/-! Strings of the call's own whose bytes are written in place. -/
/-- bytes of the call's own, of this length, whatever they are. -/
def Some8 (w : World) (base : Nat) (A : Option Addr) (n c : Nat) : Prop := ∃ s : List UInt8, n = s.length ∧ OwnB w base 5 (.slice A n c) s
theorem Some8.below {w w' : World} {base n c : Nat} {A : Option Addr} (h : Some8 w base A n c) (hb : Below w.heap.size w w') : Some8 w' base A n c := by
  obtain ⟨s, h1, h2⟩ := h; exact ⟨s, h1, own_below h2 hb⟩
theorem Some8.at_ {w : World} {base n c : Nat} {A : Option Addr} (h : Some8 w base A n c) {k : Nat} (hk : k < n) :
    ∃ (g : Nat) (b : UInt8), A = some ⟨g, 0, none⟩ ∧ base ≤ g ∧ g < w.heap.size ∧ w.cell? ⟨g, k, none⟩ = some (.int .u8 (b.toNat : Int)) ∧ w.frozen? ⟨g, k, none⟩ = false ∧ n ≤ c ∧ c ≤ maxLen := by
  obtain ⟨s, hn, h2⟩ := h
  obtain ⟨_, h3, h4, _⟩ := own_open h2
  obtain ⟨g, hA, hg, hlt, hr⟩ := h2.rowO (by omega)
  exact ⟨g, s[k], hA, hg, hlt, hr.cell (by omega), hr.frozen k, h3, h4⟩
theorem Some8.set_ {w : World} {base n c : Nat} {A : Option Addr} (h : Some8 w base A n c) (g k : Nat) (b : UInt8) (v : Value) (hv : v = .int .u8 (b.toNat : Int)) : Some8 (w.setCell ⟨g, k, none⟩ v) base A n c := by
  obtain ⟨s, hn, h1, h2⟩ := h
  subst hv
  rcases h2 with h0 | ⟨g', cap, cur, hv, hg, hh, hc, hm, hz, ht⟩
  · exact ⟨s, hn, h1, .inl h0⟩
  · by_cases hgg : g' = g
    · subst hgg
      have hb : Blk w g' 5 cur := hh
      have hb2 := hb.set_ k (.int .u8 (b.toNat : Int))
      refine ⟨s.set k b, by rw [List.length_set]; exact hn, by simp [bv] at h1 ⊢, .inr ⟨g', cap, _, ?_, hg, hb2, by rw [List.length_set]; exact hc, hm, by simpa using hz, ?_⟩⟩
      · rw [List.length_set]; exact hv
      · rw [Array.toList_setIfInBounds, List.length_set, List.take_set, ht]
        simp [bv, List.map_set]
    · have hb : Blk w g' 5 cur := hh
      exact ⟨s, hn, h1, .inr ⟨g', cap, cur, hv, hg, hb.far hgg _, hc, hm, hz, ht⟩⟩
/-- strings of the call's own, whatever their bytes are. -/
def Held (w : World) (base : Nat) (v : Value) (xs : List Value) : Prop :=
  w.ownsRow base 22 1 v xs.length xs ∧ ∀ i, i < xs.length → ∃ A n c, xs[i]? = some (.slice A n c) ∧ Some8 w base A n c
theorem OwnS.held {w : World} {base : Nat} {v : Value} {acc : List (List UInt8)} (h : OwnS w base v acc) : ∃ xs, xs.length = acc.length ∧ Held w base v xs := by
  obtain ⟨xs, h1, h2⟩ := h
  have hl : xs.length = acc.length := by have := h1.1; omega
  refine ⟨xs, hl, by rw [hl]; exact h1, fun i hi => ?_⟩
  obtain ⟨A, c, hx, ho⟩ := h2 i acc[i] (List.getElem?_eq_getElem (by omega))
  exact ⟨A, _, c, hx, _, rfl, ho⟩
theorem own_row_below {w w' : World} {base n : Nat} {v : Value} {xs : List Value} (h : w.ownsRow base 22 1 v n xs) (hb : Below w.heap.size w w') : w'.ownsRow base 22 1 v n xs := by
  refine ⟨h.1, ?_⟩
  rcases h.2 with h0 | ⟨g, cap, cur, hv, hg, hh, hr⟩
  · exact .inl h0
  · refine .inr ⟨g, cap, cur, hv, hg, ?_, hr⟩
    have hlt : g < w.heap.size := by
      rcases Nat.lt_or_ge g w.heap.size with h' | h'
      · exact h'
      · rw [Array.getElem?_eq_none h'] at hh; cases hh
    rw [hb.block g hlt]; exact hh
theorem Held.below {w w' : World} {base : Nat} {v : Value} {xs : List Value} (h : Held w base v xs) (hb : Below w.heap.size w w') : Held w' base v xs := by
  refine ⟨own_row_below h.1 hb, fun i hi => ?_⟩
  obtain ⟨A, n, c, hx, ho⟩ := h.2 i hi
  exact ⟨A, n, c, hx, ho.below hb⟩
/-- a byte is written into a block of bytes that isn't the row's own. -/
theorem Held.set_ {w : World} {base : Nat} {v : Value} {xs : List Value} (h : Held w base v xs) (g k : Nat) (b : UInt8) (u : Value) (hu : u = .int .u8 (b.toNat : Int)) (hg : v.ownBlock ≠ some g) : Held (w.setCell ⟨g, k, none⟩ u) base v xs := by
  refine ⟨⟨h.1.1, ?_⟩, fun i hi => ?_⟩
  · rcases h.1.2 with h0 | ⟨g', cap, cur, hv, hg', hh, hr⟩
    · exact .inl h0
    · have hne : g' ≠ g := by
        intro e
        apply hg
        rw [hv, e]
        rfl
      have hb : Blk w g' 22 cur := hh
      exact .inr ⟨g', cap, cur, hv, hg', hb.far hne _, hr⟩
  · obtain ⟨A, n, c, hx, ho⟩ := h.2 i hi
    exact ⟨A, n, c, hx, ho.set_ g k b u hu⟩
theorem Held.at_ {w : World} {base : Nat} {A : Option Addr} {m d : Nat} {xs : List Value} (h : Held w base (.slice A m d) xs) {i : Nat} (hi : i < xs.length) :
    ∃ (G : Nat) (Ai : Option Addr) (n c : Nat), A = some ⟨G, 0, none⟩ ∧ base ≤ G ∧ G < w.heap.size ∧ xs[i]? = some (.slice Ai n c) ∧ w.cell? ⟨G, i, none⟩ = some (.slice Ai n c) ∧ Some8 w base Ai n c ∧ (Ai = none ∨ ∀ g o, Ai = some ⟨g, o, none⟩ → g ≠ G) := by
  obtain ⟨Ai, n, c, hx, ho⟩ := h.2 i hi
  rcases h.1.2 with ⟨_, hn⟩ | ⟨G, cap, cur, hv, hG, hh, hc, hm, hz, ht⟩
  · omega
  · injection hv with hA hn' hc'
    subst hA
    have hlt : G < w.heap.size := by
      rcases Nat.lt_or_ge G w.heap.size with h' | h'
      · exact h'
      · rw [Array.getElem?_eq_none h'] at hh; cases hh
    refine ⟨G, Ai, n, c, rfl, hG, hlt, hx, ?_, ho, ?_⟩
    · rw [cell_of_row w G i cur 22 (0, 0) hh]
      rw [← ht, List.getElem?_take] at hx
      split at hx
      · simpa using hx
      · cases hx
    · obtain ⟨s, hns, hs⟩ := ho
      rcases own_apart hs h.1 with h0 | h0
      · left
        cases Ai with
        | none => rfl
        | some a => simp [Value.ownBlock] at h0
      · right
        rintro g o rfl e
        exact h0 (by simp [Value.ownBlock, e])
end Go.Proofs.Ytnnhkanjneecjaa
