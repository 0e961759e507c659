import Derived.Test.YtmddbpkojboogaaRgW
import Derived.Test.YtmddbpkojboogaaFlatEq
import Derived.Test.YtmddbpkojboogaaVecO
namespace Go.Proofs.Ytmddbpkojboogaa
open Go.RowKit
/-! rights and steps that came in; rights that are compared. -/
def K54 : List (Option IntKind) := List.replicate 54 (some .i64)
theorem flat54 : flatOK Try.prog 4 42 K54 = true := by kernel_rfl
def WfR (L : List Int) : Prop := ∀ x ∈ L, (Lit.int .i64 x).wf = true
def rgtL (L : List Int) : List Value := L.map fun x : Int => Value.int .i64 x
theorem ints_cells : ∀ (n : Nat) (cs : List Value), Kinded (List.replicate n (some .i64)) cs → ∃ L : List Int, cs = rgtL L ∧ L.length = n ∧ WfR L
  | 0, cs, h => ⟨[], by have := h.1; simpa [rgtL] using this, rfl, (fun x hx => by cases hx)⟩
  | n + 1, [], h => by have := h.1; simp at this
  | n + 1, c :: cs, h => by
    obtain ⟨z, hz, hw⟩ := h.2 0 (some .i64) c rfl rfl
    obtain ⟨L, rfl, hl, hb⟩ := ints_cells n cs ⟨by have := h.1; simpa using this, fun p k v hk hv => h.2 (p + 1) k v (by rw [List.replicate_succ, List.getElem?_cons_succ]; exact hk) (by simpa using hv)⟩
    refine ⟨z :: L, by rw [hz]; rfl, by simp [hl], fun x hx => ?_⟩
    rcases List.mem_cons.1 hx with rfl | hx
    · exact hw
    · exact hb x hx
theorem kinded54 {L : List Int} (h : L.length = 54) (hw : WfR L) : Kinded K54 (rgtL L) := by
  refine ⟨by simp [K54, rgtL, h], fun p k v hk hv => ?_⟩
  have hp : p < 54 := by
    rcases Nat.lt_or_ge p 54 with h | h
    · exact h
    · rw [List.getElem?_eq_none (by simp [K54]; exact h)] at hk; cases hk
  have hk' : k = some .i64 := by
    rw [K54, List.getElem?_replicate, if_pos hp] at hk
    injection hk with hk; exact hk.symm
  subst hk'
  have hpl : p < L.length := by omega
  have hv' : v = .int .i64 L[p] := by
    have : (rgtL L)[p]? = some (.int .i64 L[p]) := by simp [rgtL, hpl]
    rw [this] at hv; injection hv with hv; exact hv.symm
  exact ⟨L[p], hv', hw _ (List.getElem_mem hpl)⟩
set_option maxRecDepth 100000 in
theorem open_rights {H : Type} {enc : TypeId × Value → H} {w w' : World} {base b0 : Nat} {r : Reach} {sp : Nat → Bool} {held : Bool} {v : Value} {dd : DataW H} {ps : List MemPlace}
    (hv : Value.okWide Try.prog w' r b0 42 v) (h : DataW.Trod enc Try.prog w base sp held 42 v dd ps) :
    ∃ L : List Int, v = .agg (rgtA L) ∧ L.length = 54 ∧ WfR L := by
  obtain ⟨cs, rfl, hk⟩ := flat_value 4 K54 flat54 Try.underlying42 rfl hv h
  obtain ⟨L, rfl, hl, hb⟩ := ints_cells 54 cs hk
  exact ⟨L, rfl, hl, hb⟩
theorem keyR4 : Try.prog.keyTypeAt 4 42 = true := by kernel_rfl
theorem cells54 : K54.length = Try.prog.cellsOf 42 := by kernel_rfl
theorem rgt_same {L M : List Int} (h : L.length = 54) (hw : WfR L) (he : M = L) (w : World) : (Op.equalIn 10000 42 (.agg (rgtA L)) (.agg (rgtA M))).run Try.prog w = .ok true w := by
  subst he
  exact flat_same 9996 4 42 K54 (rgtL M) flat54 keyR4 (kinded54 h hw) Try.underlying42 rfl cells54 w
theorem wf_amt {x : Int} (h : 0 ≤ x ∧ x ≤ 1125899906842624) : (Lit.int .i64 x).wf = true := by
  simp [Lit.wf, IntKind.min, IntKind.max, IntKind.signed, IntKind.bits]
  omega
theorem wf_z54 : WfR Z54 := fun x hx => by
  have : x = 0 := by unfold Z54 at hx; exact (List.mem_replicate.1 hx).2
  subst this; rfl
/-! ### steps -/
structure RStep where
  d : Nat
  i : Int
  j : Int
  x : Int
def stepL (s : RStep) : List Value := [.int .u8 (s.d : Int), .int .i64 s.i, .int .i64 s.j, .int .i64 s.x]
structure RStep.ok (s : RStep) : Prop where
  d : s.d < 256
  i : (Lit.int .i64 s.i).wf = true
  j : (Lit.int .i64 s.j).wf = true
  x : (Lit.int .i64 s.x).wf = true
def K4 : List (Option IntKind) := [some .u8, some .i64, some .i64, some .i64]
theorem flat4 : flatOK Try.prog 4 49 K4 = true := by kernel_rfl
theorem rstep_cells {cs : List Value} (h : Kinded K4 cs) : ∃ s : RStep, cs = stepL s ∧ s.ok := by
  match cs, h with
  | [a, b, c, d], h =>
    obtain ⟨n, rfl, hn⟩ := h.2 0 _ a rfl rfl
    obtain ⟨i, rfl, hi⟩ := h.2 1 _ b rfl rfl
    obtain ⟨j, rfl, hj⟩ := h.2 2 _ c rfl rfl
    obtain ⟨x, rfl, hx⟩ := h.2 3 _ d rfl rfl
    have hb : 0 ≤ n ∧ n ≤ 255 := wf_u8 hn
    refine ⟨⟨n.toNat, i, j, x⟩, ?_, ⟨by show n.toNat < 256; omega, hi, hj, hx⟩⟩
    simp only [stepL]
    rw [show ((n.toNat : Nat) : Int) = n by omega]
  | [], h => have := h.1; simp [K4] at this
  | [_], h => have := h.1; simp [K4] at this
  | [_, _], h => have := h.1; simp [K4] at this
  | [_, _, _], h => have := h.1; simp [K4] at this
  | _ :: _ :: _ :: _ :: _ :: _, h => have := h.1; simp [K4] at this
def RSteps (w : World) (B : Nat) (A : Option Addr) (l : List RStep) : Prop :=
  0 < l.length → ∃ b off, A = some ⟨b, off, none⟩ ∧ b < B ∧ ∀ i (p : RStep), l[i]? = some p → w.rangeAt b (off + i * 4) (stepL p)
theorem RSteps.below {w w' : World} {B : Nat} {A : Option Addr} {l : List RStep} (h : RSteps w B A l) (hb : Below B w w') : RSteps w' B A l := fun h0 => by
  obtain ⟨b, off, hA, hB, hc⟩ := h h0
  refine ⟨b, off, hA, hB, fun i p hi j v hj => ?_⟩
  exact (hb.cell (p := ⟨b, off + i * 4 + j, none⟩) hB).trans (hc i p hi j v hj)
theorem rsteps_cells (w : World) (b off : Nat) : ∀ n, (∀ i, i < n → ∃ cs, Kinded K4 cs ∧ ∀ (j : Nat) (v : Value), cs[j]? = some v → w.cell? ⟨b, off + (i * 4 + j), none⟩ = some v) →
    ∃ l : List RStep, l.length = n ∧ (∀ p ∈ l, p.ok) ∧ ∀ i (p : RStep), l[i]? = some p → w.rangeAt b (off + i * 4) (stepL p)
  | 0, _ => ⟨[], rfl, (fun L h => by cases h), (fun i L h => by simp at h)⟩
  | n + 1, h => by
    obtain ⟨l, h1, h2, h3⟩ := rsteps_cells w b off n (fun i hi => h i (by omega))
    obtain ⟨cs, hk, hc⟩ := h n (by omega)
    obtain ⟨s, rfl, hs⟩ := rstep_cells hk
    refine ⟨l ++ [s], by simp [h1], fun M hM => ?_, fun i M hi => ?_⟩
    · rcases List.mem_append.1 hM with hM | hM
      · exact h2 M hM
      · rw [List.mem_singleton.1 hM]; exact hs
    · rcases Nat.lt_or_ge i n with hin | hin
      · rw [List.getElem?_append_left (by omega)] at hi
        exact h3 i M hi
      · rw [List.getElem?_append_right (by omega)] at hi
        have : i - l.length = 0 := by
          rcases Nat.eq_zero_or_pos (i - l.length) with h | h
          · exact h
          · rw [List.getElem?_eq_none (by simp; omega)] at hi; cases hi
        rw [this] at hi
        injection hi with hi
        subst hi
        obtain rfl : i = n := by omega
        intro j v hj
        rw [Nat.add_assoc]
        exact hc j v hj
set_option maxRecDepth 100000 in
theorem open_rsteps {H : Type} {enc : TypeId × Value → H} {w : World} {sp : Nat → Bool} {held : Bool} {A : Option Addr} {len cap : Nat} {dd : DataW H} {ps : List MemPlace}
    (h : DataW.Trod enc Try.prog w 0 sp held 43 (.slice A len cap) dd ps) :
    len ≤ cap ∧ cap ≤ maxLen ∧ ∃ l : List RStep, len = l.length ∧ RSteps w w.heap.size A l ∧ ∀ p ∈ l, p.ok := by
  obtain ⟨h1, h2, h3⟩ := flat_slice 4 K4 Try.underlying43 flat4 (by kernel_rfl) h
  refine ⟨h1, h2, ?_⟩
  rcases Nat.eq_zero_or_pos len with h0 | h0
  · exact ⟨[], h0, (fun h => absurd h (by simp)), (fun L h => by cases h)⟩
  · obtain ⟨⟨b, off, spot⟩, rfl, hc⟩ := h3 (by omega)
    have hs : spot = none := by
      obtain ⟨cs, hk, hcc⟩ := hc 0 h0
      obtain ⟨s, rfl, _⟩ := rstep_cells hk
      have := hcc 0 _ rfl
      simp only [Nat.zero_mul, Nat.add_zero] at this
      simpa [Addr.add] using World.cell?_spot this
    subst hs
    have hadd : ∀ k, (⟨b, off, none⟩ : Addr).add k = ⟨b, off + k, none⟩ := fun k => Addr.add_mid b off k
    obtain ⟨l, hl, hb, hr⟩ := rsteps_cells w b off len (fun i hi => by
      obtain ⟨cs, hk, hcc⟩ := hc i hi
      exact ⟨cs, hk, fun j v hj => by have := hcc j v hj; rw [hadd] at this; exact this⟩)
    refine ⟨l, hl.symm, fun _ => ⟨b, off, rfl, ?_, hr⟩, hb⟩
    have hl0 : 0 < l.length := by omega
    have hr0 := hr 0 l[0] (List.getElem?_eq_getElem hl0)
    exact block_lt_of_cell (hr0 0 _ rfl)
end Go.Proofs.Ytmddbpkojboogaa
