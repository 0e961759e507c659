import Derived.Test.YtmddbpkojboogaaLatMath
namespace Go.Proofs.Ytmddbpkojboogaa
open Go.RowKit
/-! a vector that turns into another, number by number. -/
def mjV (J M : List Nat) (k : Nat) : List Nat := J.take k ++ M.drop k
theorem mjV_len {J M : List Nat} (hJ : J.length = 6) (hM : M.length = 6) (k : Nat) (hk : k ≤ 6) : (mjV J M k).length = 6 := by simp [mjV, hJ, hM]; omega
theorem mjV_zero (J M : List Nat) : mjV J M 0 = M := by simp [mjV]
theorem mjV_all {J M : List Nat} (hJ : J.length = 6) (hM : M.length = 6) : mjV J M 6 = J := by
  have h1 : J.take 6 = J := List.take_of_length_le (by omega)
  have h2 : M.drop 6 = [] := List.drop_eq_nil_of_le (by omega)
  simp [mjV, h1, h2]
theorem mjV_at {J M : List Nat} (hJ : J.length = 6) (hM : M.length = 6) (k : Nat) (hk : k < 6) : (mjV J M k)[k]? = M[k]? := by
  unfold mjV
  rw [List.getElem?_append_right (by simp; omega)]
  simp [hJ, Nat.min_eq_left (Nat.le_of_lt hk)]
theorem mjV_set {J M : List Nat} (hJ : J.length = 6) (hM : M.length = 6) (k : Nat) (hk : k < 6) (hk' : k < J.length) : (mjV J M k).set k J[k] = mjV J M (k + 1) := by
  obtain ⟨a, b, c, d, e, f, rfl⟩ := six hJ
  obtain ⟨a', b', c', d', e', f', rfl⟩ := six hM
  match k, hk with
  | 0, _ | 1, _ | 2, _ | 3, _ | 4, _ | 5, _ => rfl
theorem Blk.vat {W : World} {g : Nat} {t : TypeId} {L : List Nat} (h : Blk W g t (vecA L)) (k : Nat) (hk : k < L.length) : W.cell? ⟨g, k, none⟩ = some (.int .u64 ((L[k] : Nat) : Int)) := by
  rw [h.cell]; exact vecA_at L k hk
theorem Below.drewM {B : Nat} {a w : World} (h : Below B a w) (n : Nat) : Below B a (w.drewN n) := ⟨h.os, h.tape, h.output, h.size, h.block⟩
theorem Blk.drewM {W : World} {g : Nat} {t : TypeId} {cs : Array Value} (h : Blk W g t cs) (n : Nat) : Blk (W.drewN n) g t cs := h
end Go.Proofs.Ytmddbpkojboogaa
