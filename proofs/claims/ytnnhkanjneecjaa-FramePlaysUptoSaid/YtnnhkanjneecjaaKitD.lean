/- Slices of slices of bytes that came in: small laws of the seat's own. -/
import Derived.Test.YtnnhkanjneecjaaKitB
import Derived.Deep.Matrix
namespace Go.Proofs.Ytnnhkanjneecjaa
open Go.RowKit

theorem own_below {w w' : World} {base : Nat} {e : TypeId} {v : Value} {bs : List UInt8} (h : OwnB w base e v bs) (hb : Below w.heap.size w w') : OwnB w' base e v bs := by
  refine ⟨h.1, ?_⟩
  rcases h.2 with h0 | ⟨g, cap, cur, hv, hg, hh, hr⟩
  · exact .inl h0
  · refine .inr ⟨g, cap, cur, hv, hg, ?_, hr⟩
    have hlt : g < w.heap.size := by
      rcases Nat.lt_or_ge g w.heap.size with h' | h'
      · exact h'
      · rw [Array.getElem?_eq_none h'] at hh; cases hh
    rw [hb.block g hlt]; exact hh
theorem own_after {w w' : World} {base : Nat} {e : TypeId} {v : Value} {bs : List UInt8} (h : OwnB w base e v bs) (hb : Below w.drew.heap.size w.drew w') : OwnB w' base e v bs :=
  own_below h ⟨hb.os, hb.tape, hb.output, hb.size, hb.block⟩
theorem below_after {w0 w w' : World} {B : Nat} (h : Below B w0 w) (hB : B ≤ w.heap.size) (hb : Below w.drew.heap.size w.drew w') : Below B w0 w' :=
  h.trans (Below.mono (B := w.heap.size) ⟨hb.os, hb.tape, hb.output, hb.size, hb.block⟩ hB)
/-- a slice of slices of bytes that reads as these. -/
def Strs (w : World) (B : Nat) (A : Option Addr) (l : List (List UInt8)) : Prop :=
  ∃ (V : Nat → Option Addr) (C : Nat → Nat), (0 < l.length → ∃ b off, A = some ⟨b, off, none⟩ ∧ b < B ∧ ∀ i bs, l[i]? = some bs → w.cell? ⟨b, off + i, none⟩ = some (.slice (V i) bs.length (C i))) ∧
    ∀ i bs, l[i]? = some bs → Bytes w B (V i) bs ∧ bs.length ≤ C i ∧ C i ≤ maxLen
theorem Strs.none_ {w : World} {B : Nat} {A : Option Addr} : Strs w B A [] := ⟨fun _ => none, fun _ => 0, fun h => absurd h (by simp), fun i bs h => by simp at h⟩
theorem Strs.at_ {w : World} {B : Nat} {A : Option Addr} {l : List (List UInt8)} (h : Strs w B A l) {i : Nat} (hi : i < l.length) :
    ∃ b off Ai ci, A = some ⟨b, off, none⟩ ∧ b < B ∧ w.cell? ⟨b, off + i, none⟩ = some (.slice Ai l[i].length ci) ∧ Bytes w B Ai l[i] ∧ l[i].length ≤ ci ∧ ci ≤ maxLen := by
  obtain ⟨V, C, h1, h2⟩ := h
  obtain ⟨b, off, hA, hb, hc⟩ := h1 (by omega)
  exact ⟨b, off, V i, C i, hA, hb, hc i _ (List.getElem?_eq_getElem hi), h2 i _ (List.getElem?_eq_getElem hi)⟩
theorem Strs.below {w w' : World} {B : Nat} {A : Option Addr} {l : List (List UInt8)} (h : Strs w B A l) (hb : Below B w w') : Strs w' B A l := by
  obtain ⟨V, C, h1, h2⟩ := h
  refine ⟨V, C, fun h0 => ?_, fun i bs hi => ⟨Reads.below (h2 i bs hi).1 hb, (h2 i bs hi).2⟩⟩
  obtain ⟨b, off, hA, hB, hc⟩ := h1 h0
  exact ⟨b, off, hA, hB, fun i bs hi => (hb.cell hB).trans (hc i bs hi)⟩
theorem Strs.more {w : World} {B B' : Nat} {A : Option Addr} {l : List (List UInt8)} (h : Strs w B A l) (hB : B ≤ B') : Strs w B' A l := by
  obtain ⟨V, C, h1, h2⟩ := h
  refine ⟨V, C, fun h0 => ?_, fun i bs hi => ⟨Reads.more (h2 i bs hi).1 hB, (h2 i bs hi).2⟩⟩
  obtain ⟨b, off, hA, hb, hc⟩ := h1 h0
  exact ⟨b, off, hA, by omega, hc⟩
/-- what an opened slice of slices says. -/
theorem strs_of {w : World} {a : Addr} {len cap : Nat} {A : Nat → Option Addr} {L C : Nat → Nat} {Z : Nat → List Int} (hl : len ≤ cap)
    (h : ∀ r, r < cap → w.cell? (a.add r) = some (.slice (A r) (L r) (C r)) ∧ L r ≤ C r ∧ C r ≤ maxLen ∧ (Z r).length = C r ∧ (∀ n ∈ Z r, (Lit.int .u8 n).wf = true) ∧ (A r = none → C r = 0) ∧
        ∀ a', A r = some a' → ∀ c, c < C r → w.cell? (a'.add c) = some (.int .u8 ((Z r).getD c 0))) :
    ∃ l : List (List UInt8), len = l.length ∧ Strs w w.heap.size (some a) l := by
  have each : ∀ r, r < cap → ∃ bs : List UInt8, L r = bs.length ∧ Bytes w w.heap.size (A r) bs ∧ L r ≤ C r ∧ C r ≤ maxLen := by
    intro r hr
    obtain ⟨h1, h2, h3, h4, h5, h6, h7⟩ := h r hr
    refine row_bytes (zs := Z r) ?_
    cases hA : A r with
    | none =>
      have hc := h6 hA
      exact .inl ⟨rfl, by omega, hc, List.eq_nil_of_length_eq_zero (by omega)⟩
    | some a' => exact .inr ⟨a', rfl, h2, h3, h4, fun i hi => h7 a' hA i (by omega), h5⟩
  obtain ⟨y, hy⟩ := Deep.choose_lt each
  have hlen : ((List.range len).map y).length = len := by simp
  refine ⟨(List.range len).map y, hlen.symm, A, C, fun h0 => ?_, fun i bs hi => ?_⟩
  · have c0 := (h 0 (by omega)).1
    obtain ⟨b, off, spot⟩ := a
    have hs : spot = none := by simpa [Addr.add] using World.cell?_spot c0
    subst hs
    refine ⟨b, off, rfl, ?_, fun i bs hi => ?_⟩
    · have := block_lt_of_cell c0
      rwa [block_of_add] at this
    · have hi' : i < len := by
        rcases Nat.lt_or_ge i len with h' | h'
        · exact h'
        · rw [List.getElem?_eq_none (by rw [hlen]; exact h')] at hi; cases hi
      have hc := (h i (by omega)).1
      have hadd : (⟨b, off, none⟩ : Addr).add i = ⟨b, off + i, none⟩ := by unfold Addr.add; split <;> simp_all
      rw [hadd] at hc
      rw [hc]
      simp [hi'] at hi
      rw [← hi, (hy i (by omega)).1]
  · have hi' : i < len := by
      rcases Nat.lt_or_ge i len with h' | h'
      · exact h'
      · rw [List.getElem?_eq_none (by rw [hlen]; exact h')] at hi; cases hi
    simp [hi'] at hi
    obtain ⟨e1, e2, e3, e4⟩ := hy i (by omega)
    rw [← hi]
    exact ⟨e2, by omega, e4⟩
end Go.Proofs.Ytnnhkanjneecjaa
