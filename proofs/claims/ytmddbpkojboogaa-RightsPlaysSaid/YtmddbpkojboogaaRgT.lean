import Derived.Test.YtmddbpkojboogaaRgS
namespace Go.Proofs.Ytmddbpkojboogaa
open Go.RowKit
/-! rights: which calls go. -/
theorem guard_bad {L : List Int} {x : Int} {ks : List Int} {E : List Int × Int} (h : ¬ (mayR L = true ∧ 1 ≤ x ∧ x ≤ 1125899906842624 ∧ ks.all regR = true)) : ∃ e : Int, guardR L x ks E = (Z54, e) ∧ ¬ e = 0 := by
  unfold guardR
  by_cases h1 : mayR L = true ∧ 1 ≤ x ∧ x ≤ 1125899906842624
  · rw [if_pos h1]
    have h2 : ¬ ks.all regR = true := fun h3 => h ⟨h1.1, h1.2.1, h1.2.2, h3⟩
    rw [if_neg h2]
    exact ⟨10, rfl, by decide⟩
  · rw [if_neg h1]
    exact ⟨1, rfl, by decide⟩
theorem guard_in {L : List Int} {x : Int} {ks : List Int} {E : List Int × Int} (h1 : mayR L = true) (h2 : 1 ≤ x) (h3 : x ≤ 1125899906842624) (h4 : ks.all regR = true) : guardR L x ks E = if E.2 = 0 then E else (Z54, E.2) := by
  unfold guardR; rw [if_pos ⟨h1, h2, h3⟩, if_pos h4]
theorem guard_no {L : List Int} {x : Int} {ks : List Int} {E : List Int × Int} (h : ¬ (guardR L x ks E).2 = 0) : (guardR L x ks E).1 = Z54 := by
  by_cases h1 : mayR L = true ∧ 1 ≤ x ∧ x ≤ 1125899906842624 ∧ ks.all regR = true
  · rw [guard_in h1.1 h1.2.1 h1.2.2.1 h1.2.2.2] at h ⊢
    by_cases h2 : E.2 = 0
    · rw [if_pos h2] at h; exact absurd h2 h
    · rw [if_neg h2]
  · obtain ⟨e, he, _⟩ := guard_bad (E := E) h1
    rw [he]
theorem guard_yes {L : List Int} {x : Int} {ks : List Int} {E : List Int × Int} (h : (guardR L x ks E).2 = 0) : (mayR L = true ∧ 1 ≤ x ∧ x ≤ 1125899906842624 ∧ ks.all regR = true) ∧ E.2 = 0 ∧ guardR L x ks E = E := by
  by_cases h1 : mayR L = true ∧ 1 ≤ x ∧ x ≤ 1125899906842624 ∧ ks.all regR = true
  · refine ⟨h1, ?_⟩
    rw [guard_in h1.1 h1.2.1 h1.2.2.1 h1.2.2.2] at h ⊢
    by_cases h2 : E.2 = 0
    · exact ⟨h2, by rw [if_pos h2]⟩
    · rw [if_neg h2] at h; exact absurd h h2
  · obtain ⟨e, he, hne⟩ := guard_bad (E := E) h1
    rw [he] at h; exact absurd h hne
theorem reg_one (k : Nat) (hk : k < 6) : [(k : Int) + 1].all regR = true := by
  simp [regR]; omega
theorem reg_of (k : Nat) (hk : k < 6) : regR ((k : Int) + 1) = true := by simp [regR]; omega
theorem nat_of (k : Nat) : ((k : Int) + 1 - 1).toNat = k := by omega
theorem local_may {L : List Int} (h : mayR L = true) (k : Nat) (hk : k < 6) : localR L ((k : Int) + 1) = leftR L k := by
  unfold localR; rw [if_pos ⟨reg_of k hk, h⟩, nat_of]
theorem sums_may {L : List Int} (h : mayR L = true) : sumsR L = (limitR L, usedR L) := by unfold sumsR; rw [if_pos h]
theorem set_set54 (L : List Int) (h : L.length = 54) (n : Nat) (hn : n < 54) (m : Nat) (hm : m < 54) (hne : ¬ m = n) (v : Int) : (L.set n v).getD m 0 = L.getD m 0 := by
  rw [getD_set _ _ _ _ (by omega), if_neg hne]
/-- of one region: so much. -/
def dI (i x : Int) (z : Int) : Int := if z = i then x else 0
theorem moveR_goes {L A : List Int} {i j x : Int} (h : L.length = 54) (hm : mayR L = true) (he : moveR L i j x = (A, 0)) :
    Goes L A 0 ∧ (∀ z, 1 ≤ z → z ≤ 6 → localR A z = localR L z + dI j x z - dI i x z) ∧ usedR A = usedR L ∧ (1 ≤ x ∧ x ≤ 1125899906842624) ∧ ¬ i = j ∧ 1 ≤ i ∧ i ≤ 6 ∧ 1 ≤ j ∧ j ≤ 6 := by
  have h2 : (guardR L x [i, j] (moveE L (i - 1).toNat (j - 1).toNat x)).2 = 0 := by
    show (moveR L i j x).2 = 0; rw [he]
  obtain ⟨⟨_, hx1, hx2, hreg⟩, hE, hg⟩ := guard_yes h2
  obtain ⟨r1, r2⟩ := all_two hreg
  obtain ⟨k, hk, rfl, hk1⟩ := reg_nat r1
  obtain ⟨q, hq, rfl, hq1⟩ := reg_nat r2
  have hA : moveE L k q x = (A, 0) := by
    rw [← he]; show _ = guardR L x _ _; rw [hg, hk1, hq1]
  unfold moveE at hA
  by_cases e1 : k = q
  · rw [if_pos e1] at hA; injection hA with _ h3; cases h3
  rw [if_neg e1] at hA
  by_cases e2 : x ≤ leftR L k
  · rw [if_pos e2] at hA
    by_cases e3 : rR L k q + x ≤ 1125899906842624
    · rw [if_pos e3] at hA
      injection hA with hA _
      obtain ⟨g1, g2, g3⟩ := move_goes h hm hk hx1 hq e1 e2 e3
      rw [hA] at g1 g2 g3
      refine ⟨g1, fun z h1 h2 => ?_, g3, ⟨hx1, hx2⟩, by omega, by omega, by omega, by omega, by omega⟩
      obtain ⟨m, hm6, rfl⟩ : ∃ m : Nat, m < 6 ∧ z = (m : Int) + 1 := ⟨(z - 1).toNat, by omega, by omega⟩
      rw [local_may g1.may m hm6, local_may hm m hm6, g2 m hm6]
      have d1 : dI ((q : Int) + 1) x ((m : Int) + 1) = dl q x m := by
        unfold dI dl
        by_cases e : m = q
        · rw [if_pos e, if_pos (by omega)]
        · rw [if_neg e, if_neg (by omega)]
      have d2 : dI ((k : Int) + 1) x ((m : Int) + 1) = dl k x m := by
        unfold dI dl
        by_cases e : m = k
        · rw [if_pos e, if_pos (by omega)]
        · rw [if_neg e, if_neg (by omega)]
      rw [d1, d2]
    · rw [if_neg e3] at hA; injection hA with _ h3; cases h3
  · rw [if_neg e2] at hA; injection hA with _ h3; cases h3
theorem moveR_no {L A : List Int} {i j x e : Int} (he : moveR L i j x = (A, e)) (hne : ¬ e = 0) : A = Z54 := by
  have h2 : ¬ (guardR L x [i, j] (moveE L (i - 1).toNat (j - 1).toNat x)).2 = 0 := by
    show ¬ (moveR L i j x).2 = 0; rw [he]; exact hne
  have h3 := guard_no h2
  show A = _
  rw [← h3]
  show A = (moveR L i j x).1
  rw [he]
theorem moveR_len {L A : List Int} {i j x e : Int} (h : L.length = 54) (he : moveR L i j x = (A, e)) : A.length = 54 := by
  have h3 : (moveR L i j x).1.length = 54 := guardLen ((enLen _ _ h).2.2.2 _)
  rw [he] at h3; exact h3
theorem local_bd {L : List Int} (hm : mayR L = true) (z : Int) (h1 : 1 ≤ z) (h2 : z ≤ 6) : 0 ≤ localR L z ∧ localR L z ≤ 9007199254740992 := by
  obtain ⟨m, hm6, rfl⟩ : ∃ m : Nat, m < 6 ∧ z = (m : Int) + 1 := ⟨(z - 1).toNat, by omega, by omega⟩
  rw [local_may hm m hm6]
  exact ⟨may_left hm m hm6, (left_bd (amt_may hm) m hm6 6 (by omega)).2⟩
end Go.Proofs.Ytmddbpkojboogaa
