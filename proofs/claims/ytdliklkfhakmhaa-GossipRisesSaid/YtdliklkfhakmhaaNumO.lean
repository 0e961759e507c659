import Derived.Test.YtdliklkfhakmhaaGosC
namespace Go.Proofs.Ytdliklkfhakmhaa
open Go.RowKit
theorem row_nums {w : World} {a : Option Addr} {len cap : Nat} {zs : List Int} (h : IsRow .i64 w a len cap zs) :
    ∃ l : List Int, len = l.length ∧ Nums w w.heap.size a l ∧ (∀ z ∈ l, (Lit.int .i64 z).wf = true) ∧ len ≤ cap ∧ cap ≤ maxLen := by
  rcases h with ⟨rfl, rfl, rfl, rfl⟩ | ⟨x, rfl, hl, hm, hz, hc, hw⟩
  · exact ⟨[], rfl, (fun h => absurd h (by simp)), (fun z h => by cases h), Nat.le_refl _, by decide⟩
  · have hlen : (zs.take len).length = len := by rw [List.length_take]; omega
    refine ⟨zs.take len, hlen.symm, fun h0 => ?_, fun z hz => hw z (List.mem_of_mem_take hz), hl, hm⟩
    obtain ⟨b, off, spot⟩ := x
    have h00 := hc 0 (by omega)
    have hs : spot = none := by simpa [Addr.add] using World.cell?_spot h00
    subst hs
    refine ⟨b, off, rfl, ?_, fun i z hi => ?_⟩
    · have := block_lt_of_cell h00
      rwa [block_of_add] at this
    · have hi2 : i < len := by
        rcases Nat.lt_or_ge i len with h | h
        · exact h
        · rw [List.getElem?_eq_none (by omega)] at hi; cases hi
      have := hc i (by omega)
      rw [Addr.add_mid] at this
      rw [this]
      rw [List.getElem?_take, if_pos hi2] at hi
      rw [List.getD_eq_getElem?_getD, hi]; rfl
end Go.Proofs.Ytdliklkfhakmhaa
