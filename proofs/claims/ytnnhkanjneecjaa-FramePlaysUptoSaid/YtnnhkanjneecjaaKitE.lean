/- The reach of slices of slices of bytes that came in. -/
import Derived.Test.YtnnhkanjneecjaaKitD
import Derived.SizedLaws
namespace Go.Proofs.Ytnnhkanjneecjaa
open Go.RowKit
theorem weights_in {H : Type} {P : Program} {e : TypeId} {d : DataW H} : ∀ {l : List (DataW H)}, d ∈ l → ∀ n ∈ d.weights P e, n ∈ DataW.weightsAll P e l
  | d0 :: l, hd, n, hn => by
    rcases List.mem_cons.1 hd with rfl | h
    · simp only [DataW.weightsAll, List.mem_append]; exact .inl hn
    · simp only [DataW.weightsAll, List.mem_append]; exact .inr (weights_in h n hn)
theorem rows_reach {H : Type} {P : Program} {ts : List TypeId} {ds : List (DataW H)} (h : (DataW.weightsEach P ts ds).all (· ≤ reachBytes) = true) {j : Nat} {t e q : TypeId} {len : Nat} {A : Nat → Option Addr} {L C : Nat → Nat} {Z : Nat → List Int} {spare : List (DataW H)}
    (ht : ts[j]? = some t) (hd : ds[j]? = some (.slice ((List.range len).map fun r => Deep.intRow .u8 (A r) (L r) (Z r)) spare)) (hu : P.underlying t = some (.slice e)) (hue : P.underlying e = some (.slice q)) (hby : P.bytesOf q = 1)
    (r : Nat) (hr : r < len) (hA : A r ≠ none) (hz : (Z r).length = C r) : C r ≤ 140737488351232 := by
  cases hAr : A r with
  | none => exact absurd hAr hA
  | some a =>
    have hm : Deep.intRow (H := H) .u8 (A r) (L r) (Z r) ∈ ((List.range len).map fun r => Deep.intRow (H := H) .u8 (A r) (L r) (Z r)) := List.mem_map.2 ⟨r, List.mem_range.2 hr, rfl⟩
    have hw : C r ∈ (Deep.intRow (H := H) .u8 (A r) (L r) (Z r)).weights P e := by
      rw [hAr]
      simp only [Deep.intRow, DataW.weights, hue, hby, List.mem_cons]
      refine .inl ?_
      simp [ChangeShapes.lits]
      omega
    have h1 := List.all_eq_true.1 h _ (DataW.weights_mem_each ht hd (C r) (by simp only [DataW.weights, hu, List.mem_cons, List.mem_append]; exact .inr (.inl (weights_in hm _ hw))))
    exact of_decide_eq_true h1
/-- what an opened slice of slices says of the strings' lengths. -/
theorem strs_short {w : World} {B : Nat} {a : Addr} {l : List (List UInt8)} {R : Nat} {A : Nat → Option Addr} {L C : Nat → Nat} (h : Strs w B (some a) l)
    (hc : ∀ r, r < l.length → w.cell? (a.add r) = some (.slice (A r) (L r) (C r)) ∧ L r ≤ R) : ∀ s ∈ l, s.length ≤ R := by
  intro s hs
  obtain ⟨i, hi, rfl⟩ := List.getElem_of_mem hs
  obtain ⟨b, off, Ai, ci, hA, _, hcell, _⟩ := h.at_ hi
  injection hA with hA
  subst hA
  obtain ⟨h1, h2⟩ := hc i hi
  have hadd : (⟨b, off, none⟩ : Addr).add i = ⟨b, off + i, none⟩ := by unfold Addr.add; split <;> simp_all
  rw [hadd, hcell] at h1
  injection h1 with h1
  injection h1 with _ h1 _
  omega
end Go.Proofs.Ytnnhkanjneecjaa
