import Derived.Test.YtmddbpkojboogaaVecO
namespace Go.Proofs.Ytmddbpkojboogaa
/-! joins and meets of two vectors, number by number. -/
theorem joinV_two (L M : List Nat) : joinV [L, M] = List.zipWith max L M := by
  unfold joinV chosenV
  simp only [List.foldl_cons, List.foldl_nil]
  congr 1; funext x y; unfold pick gtN
  by_cases h : x < y
  · rw [decide_eq_true h, if_pos rfl]; omega
  · rw [decide_eq_false h]; simp; omega
theorem meetV_two (L M : List Nat) : meetV [L, M] = List.zipWith min L M := by
  unfold meetV chosenV
  simp only [List.foldl_cons, List.foldl_nil]
  congr 1; funext x y; unfold pick ltN
  by_cases h : y < x
  · rw [decide_eq_true h, if_pos rfl]; omega
  · rw [decide_eq_false h]; simp; omega
section
variable {A B C : List Nat} (hA : A.length = 6) (hB : B.length = 6) (hC : C.length = 6)
include hA hB
theorem lat1 : meetV [A, joinV [A, B]] = A := by
  obtain ⟨a, b, c, d, e, f, rfl⟩ := six hA
  obtain ⟨a', b', c', d', e', f', rfl⟩ := six hB
  simp [joinV_two, meetV_two]; omega
theorem lat2 : joinV [A, meetV [A, B]] = A := by
  obtain ⟨a, b, c, d, e, f, rfl⟩ := six hA
  obtain ⟨a', b', c', d', e', f', rfl⟩ := six hB
  simp [joinV_two, meetV_two]; omega
theorem lat3 : joinV [B, A] = joinV [A, B] := by
  obtain ⟨a, b, c, d, e, f, rfl⟩ := six hA
  obtain ⟨a', b', c', d', e', f', rfl⟩ := six hB
  simp [joinV_two]; omega
theorem lat4 : meetV [B, A] = meetV [A, B] := by
  obtain ⟨a, b, c, d, e, f, rfl⟩ := six hA
  obtain ⟨a', b', c', d', e', f', rfl⟩ := six hB
  simp [meetV_two]; omega
theorem jlen : (joinV [A, B]).length = 6 := joinV_len (by simp [hA, hB])
theorem mlen : (meetV [A, B]).length = 6 := meetV_len (by simp [hA, hB])
theorem lat_less1 : decide (joinV [A, B] = B) = lessV A B := by
  obtain ⟨a, b, c, d, e, f, rfl⟩ := six hA
  obtain ⟨a', b', c', d', e', f', rfl⟩ := six hB
  rw [Bool.eq_iff_iff]
  simp [joinV_two, lessV, lessN, show List.range 6 = [0, 1, 2, 3, 4, 5] from rfl]; omega
theorem lat_less2 : decide (meetV [A, B] = A) = lessV A B := by
  obtain ⟨a, b, c, d, e, f, rfl⟩ := six hA
  obtain ⟨a', b', c', d', e', f', rfl⟩ := six hB
  rw [Bool.eq_iff_iff]
  simp [meetV_two, lessV, lessN, show List.range 6 = [0, 1, 2, 3, 4, 5] from rfl]; omega
theorem lat_lackN (k : Nat) (hk : k < 6) : lackN A B k + lackN B A k = lackN (meetV [A, B]) (joinV [A, B]) k := by
  have h1 : k < A.length := by omega
  have h2 : k < B.length := by omega
  simp only [lackN, joinV_two, meetV_two, List.getElem?_zipWith, List.getElem?_eq_getElem h1, List.getElem?_eq_getElem h2, Option.getD_some]
  omega
theorem lat_lackK : ∀ k, k ≤ 6 → lackS A B k + lackS B A k = lackS (meetV [A, B]) (joinV [A, B]) k
  | 0, _ => rfl
  | k + 1, hk => by
    have h1 := lat_lackK k (by omega)
    have h2 := lat_lackN hA hB k (by omega)
    simp only [lackS]; omega
theorem lat_lack : lackS A B 6 + lackS B A 6 = lackS (meetV [A, B]) (joinV [A, B]) 6 := lat_lackK hA hB 6 (Nat.le_refl _)
theorem lat_lackV : (lackV A B + lackV B A) % 18446744073709551616 = lackV (meetV [A, B]) (joinV [A, B]) := by
  have := lat_lack hA hB
  unfold lackV; omega
theorem lat_may (h1 : mayV A = true) (h2 : mayV B = true) : decide (lackV B A = 0) = lessV A B := by
  obtain ⟨a, b, c, d, e, f, rfl⟩ := six hA
  obtain ⟨a', b', c', d', e', f', rfl⟩ := six hB
  simp [mayV, mayN] at h1 h2
  rw [Bool.eq_iff_iff]
  simp [lackV, lackS, lackN, lessV, lessN, show List.range 6 = [0, 1, 2, 3, 4, 5] from rfl]; omega
include hC
theorem lat5 : meetV [A, joinV [B, C]] = joinV [meetV [A, B], meetV [A, C]] := by
  obtain ⟨a, b, c, d, e, f, rfl⟩ := six hA
  obtain ⟨a', b', c', d', e', f', rfl⟩ := six hB
  obtain ⟨a'', b'', c'', d'', e'', f'', rfl⟩ := six hC
  simp [joinV_two, meetV_two]; omega
theorem lat6 : joinV [A, meetV [B, C]] = meetV [joinV [A, B], joinV [A, C]] := by
  obtain ⟨a, b, c, d, e, f, rfl⟩ := six hA
  obtain ⟨a', b', c', d', e', f', rfl⟩ := six hB
  obtain ⟨a'', b'', c'', d'', e'', f'', rfl⟩ := six hC
  simp [joinV_two, meetV_two]; omega
end
theorem join_bd {A B : List Nat} (hA : A.length = 6) (hB : B.length = 6) (h1 : ∀ x ∈ A, x ≤ 18446744073709551615) (h2 : ∀ x ∈ B, x ≤ 18446744073709551615) : ∀ x ∈ joinV [A, B], x ≤ 18446744073709551615 := by
  obtain ⟨a, b, c, d, e, f, rfl⟩ := six hA
  obtain ⟨a', b', c', d', e', f', rfl⟩ := six hB
  simp [joinV_two] at h1 h2 ⊢; omega
end Go.Proofs.Ytmddbpkojboogaa
