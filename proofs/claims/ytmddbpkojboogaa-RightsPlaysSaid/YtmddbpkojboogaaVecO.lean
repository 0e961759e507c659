import Derived.Test.YtmddbpkojboogaaVecG
import Derived.Test.YtmddbpkojboogaaFlat
namespace Go.Proofs.Ytmddbpkojboogaa
/-! vectors that came in. -/
def K6 : List (Option IntKind) := List.replicate 6 (some .u64)
theorem flat6 : flatOK Try.prog 3 24 K6 = true := by kernel_rfl
theorem wf_nat {n : Int} (h : (Lit.int .u64 n).wf = true) : ∃ m : Nat, n = (m : Int) ∧ m ≤ 18446744073709551615 := by
  have := wf_u64 h
  exact ⟨n.toNat, by omega, by omega⟩
theorem vecL_at (L : List Nat) (k : Nat) (h : k < L.length) : (vecL L)[k]? = some (.int .u64 ((L[k] : Nat) : Int)) := by simp [vecL, h]
theorem vec_cells : ∀ (n : Nat) (cs : List Value), Kinded (List.replicate n (some .u64)) cs → ∃ L : List Nat, cs = vecL L ∧ L.length = n ∧ ∀ x ∈ L, x ≤ 18446744073709551615
  | 0, cs, h => ⟨[], by have := h.1; simpa [vecL] using this, rfl, (fun x hx => by cases hx)⟩
  | n + 1, [], h => by have := h.1; simp at this
  | n + 1, c :: cs, h => by
    obtain ⟨z, hz, hw⟩ := h.2 0 (some .u64) c rfl rfl
    obtain ⟨m, rfl, hm⟩ := wf_nat hw
    obtain ⟨L, rfl, hl, hb⟩ := vec_cells n cs ⟨by have := h.1; simpa using this, fun p k v hk hv => h.2 (p + 1) k v (by rw [List.replicate_succ, List.getElem?_cons_succ]; exact hk) (by simpa using hv)⟩
    refine ⟨m :: L, by rw [hz]; rfl, by simp [hl], fun x hx => ?_⟩
    rcases List.mem_cons.1 hx with rfl | hx
    · exact hm
    · exact hb x hx
set_option maxRecDepth 100000 in
theorem open_vec {H : Type} {enc : TypeId × Value → H} {w w' : World} {base b0 : Nat} {r : Reach} {sp : Nat → Bool} {held : Bool} {v : Value} {dd : DataW H} {ps : List MemPlace}
    (hv : Value.okWide Try.prog w' r b0 24 v) (h : DataW.Trod enc Try.prog w base sp held 24 v dd ps) :
    ∃ L : List Nat, v = .agg (vecA L) ∧ L.length = 6 ∧ ∀ x ∈ L, x ≤ 18446744073709551615 := by
  obtain ⟨cs, rfl, hk⟩ := flat_value 3 K6 flat6 Try.underlying24 rfl hv h
  obtain ⟨L, rfl, hl, hb⟩ := vec_cells 6 cs hk
  exact ⟨L, rfl, hl, hb⟩
theorem vecs_cells (w : World) (b off : Nat) : ∀ n, (∀ i, i < n → ∃ cs, Kinded K6 cs ∧ ∀ (j : Nat) (v : Value), cs[j]? = some v → w.cell? ⟨b, off + (i * 6 + j), none⟩ = some v) →
    ∃ l : List (List Nat), l.length = n ∧ (∀ L ∈ l, L.length = 6 ∧ ∀ x ∈ L, x ≤ 18446744073709551615) ∧ ∀ i (L : List Nat), l[i]? = some L → L.length = 6 ∧ w.rangeAt b (off + i * 6) (vecL L)
  | 0, _ => ⟨[], rfl, (fun L h => by cases h), (fun i L h => by simp at h)⟩
  | n + 1, h => by
    obtain ⟨l, h1, h2, h3⟩ := vecs_cells w b off n (fun i hi => h i (by omega))
    obtain ⟨cs, hk, hc⟩ := h n (by omega)
    obtain ⟨L, rfl, hl, hb⟩ := vec_cells 6 cs hk
    refine ⟨l ++ [L], by simp [h1], fun M hM => ?_, fun i M hi => ?_⟩
    · rcases List.mem_append.1 hM with hM | hM
      · exact h2 M hM
      · rw [List.mem_singleton.1 hM]; exact ⟨hl, hb⟩
    · rcases Nat.lt_or_ge i n with hin | hin
      · rw [List.getElem?_append_left (by omega)] at hi
        exact h3 i M hi
      · rw [List.getElem?_append_right (by omega)] at hi
        have : i - l.length = 0 := by
          rcases Nat.eq_zero_or_pos (i - l.length) with h | h
          · exact h
          · rw [List.getElem?_eq_none (by simp; omega)] at hi; cases hi
        rw [this] at hi
        injection hi with hi
        subst hi
        obtain rfl : i = n := by omega
        refine ⟨hl, fun j v hj => ?_⟩
        rw [Nat.add_assoc]
        exact hc j v hj
set_option maxRecDepth 100000 in
theorem open_vecs {H : Type} {enc : TypeId × Value → H} {w : World} {sp : Nat → Bool} {held : Bool} {A : Option Addr} {len cap : Nat} {dd : DataW H} {ps : List MemPlace}
    (h : DataW.Trod enc Try.prog w 0 sp held 25 (.slice A len cap) dd ps) :
    len ≤ cap ∧ cap ≤ maxLen ∧ ∃ l : List (List Nat), len = l.length ∧ Vecs w w.heap.size A l ∧ ∀ L ∈ l, L.length = 6 ∧ ∀ x ∈ L, x ≤ 18446744073709551615 := by
  obtain ⟨h1, h2, h3⟩ := flat_slice 3 K6 Try.underlying25 flat6 (by kernel_rfl) h
  refine ⟨h1, h2, ?_⟩
  rcases Nat.eq_zero_or_pos len with h0 | h0
  · exact ⟨[], h0, (fun h => absurd h (by simp)), (fun L h => by cases h)⟩
  · obtain ⟨⟨b, off, spot⟩, rfl, hc⟩ := h3 (by omega)
    have hs : spot = none := by
      obtain ⟨cs, hk, hcc⟩ := hc 0 h0
      obtain ⟨L, rfl, hl, _⟩ := vec_cells 6 cs hk
      have hv := vecL_at L 0 (by omega)
      have := hcc 0 _ hv
      simp only [Nat.zero_mul, Nat.add_zero] at this
      simpa [Addr.add] using World.cell?_spot this
    subst hs
    have hadd : ∀ k, (⟨b, off, none⟩ : Addr).add k = ⟨b, off + k, none⟩ := fun k => Addr.add_mid b off k
    obtain ⟨l, hl, hb, hr⟩ := vecs_cells w b off len (fun i hi => by
      obtain ⟨cs, hk, hcc⟩ := hc i hi
      exact ⟨cs, hk, fun j v hj => by have := hcc j v hj; rw [hadd] at this; exact this⟩)
    refine ⟨l, hl.symm, fun _ => ⟨b, off, rfl, ?_, hr⟩, hb⟩
    have hl0 : 0 < l.length := by omega
    obtain ⟨h6, hr0⟩ := hr 0 l[0] (List.getElem?_eq_getElem hl0)
    have hv := vecL_at l[0] 0 (by omega)
    exact block_lt_of_cell (hr0 0 _ hv)
end Go.Proofs.Ytmddbpkojboogaa
