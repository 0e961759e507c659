import Derived.Test.YtdliklkfhakmhaaVecU
namespace Go.Proofs.Ytdliklkfhakmhaa
open Go.RowKit
/-! what joins and meets of many are. -/
theorem less_join_two {A B C : List Nat} (hA : A.length = 6) (hB : B.length = 6) (hC : C.length = 6) : lessV (joinV [A, B]) C = (lessV A C && lessV B C) := by
  obtain ⟨a, b, c, d, e, f, rfl⟩ := six hA
  obtain ⟨a', b', c', d', e', f', rfl⟩ := six hB
  obtain ⟨a'', b'', c'', d'', e'', f'', rfl⟩ := six hC
  rw [Bool.eq_iff_iff]
  simp [joinV_two, lessV, lessN, show List.range 6 = [0, 1, 2, 3, 4, 5] from rfl]; omega
theorem less_meet_two {A B C : List Nat} (hA : A.length = 6) (hB : B.length = 6) (hC : C.length = 6) : lessV C (meetV [A, B]) = (lessV C A && lessV C B) := by
  obtain ⟨a, b, c, d, e, f, rfl⟩ := six hA
  obtain ⟨a', b', c', d', e', f', rfl⟩ := six hB
  obtain ⟨a'', b'', c'', d'', e'', f'', rfl⟩ := six hC
  rw [Bool.eq_iff_iff]
  simp [meetV_two, lessV, lessN, show List.range 6 = [0, 1, 2, 3, 4, 5] from rfl]; omega
theorem less_zero {C : List Nat} (hC : C.length = 6) : lessV Z6 C = true := by
  obtain ⟨a'', b'', c'', d'', e'', f'', rfl⟩ := six hC
  simp [lessV, lessN, Z6, show List.range 6 = [0, 1, 2, 3, 4, 5] from rfl]
theorem less_refl (A : List Nat) : lessV A A = true := by
  unfold lessV; rw [List.all_eq_true]; intro k _; unfold lessN; simp
theorem less_trans {A B C : List Nat} (h1 : lessV A B = true) (h2 : lessV B C = true) : lessV A C = true := by
  unfold lessV at *
  rw [List.all_eq_true] at *
  intro k hk
  have a := h1 k hk
  have b := h2 k hk
  unfold lessN at *
  simp only [decide_eq_true_eq] at *
  omega
theorem less_antisymm {A B : List Nat} (hA : A.length = 6) (hB : B.length = 6) (h1 : lessV A B = true) (h2 : lessV B A = true) : A = B := by
  obtain ⟨a, b, c, d, e, f, rfl⟩ := six hA
  obtain ⟨a', b', c', d', e', f', rfl⟩ := six hB
  simp [lessV, lessN, show List.range 6 = [0, 1, 2, 3, 4, 5] from rfl] at h1 h2
  simp; omega
theorem less_fold {C : List Nat} (hC : C.length = 6) : ∀ (l : List (List Nat)) (a : List Nat), a.length = 6 → (∀ v ∈ l, v.length = 6) → lessV (l.foldl (fun o v => joinV [o, v]) a) C = (lessV a C && l.all fun v => lessV v C)
  | [], a, _, _ => by simp
  | n :: l, a, ha, hl => by
    have hn := hl n (by simp)
    rw [List.foldl_cons, less_fold hC l _ (jlen ha hn) (fun v hv => hl v (by simp [hv])), less_join_two ha hn hC, List.all_cons, Bool.and_assoc]
/-- the Join is at most what all are. -/
theorem less_joinV {C : List Nat} (hC : C.length = 6) (l : List (List Nat)) (hl : ∀ v ∈ l, v.length = 6) : lessV (joinV l) C = l.all fun v => lessV v C := by
  rw [← allTo_eq l hl]
  unfold allTo
  rw [less_fold hC l Z6 rfl hl, less_zero hC, Bool.true_and]
theorem join_ge (l : List (List Nat)) (hl : ∀ v ∈ l, v.length = 6) {v : List Nat} (hv : v ∈ l) : lessV v (joinV l) = true := by
  have h := less_joinV (joinV_len hl) l hl
  rw [less_refl] at h
  exact (List.all_eq_true.1 h.symm) v hv
theorem meet_fold_ge {C : List Nat} (hC : C.length = 6) : ∀ (l : List (List Nat)) (a : List Nat), a.length = 6 → (∀ v ∈ l, v.length = 6) → lessV C (l.foldl (fun o v => meetV [o, v]) a) = (lessV C a && l.all fun v => lessV C v)
  | [], a, _, _ => by simp
  | n :: l, a, ha, hl => by
    have hn := hl n (by simp)
    rw [List.foldl_cons, meet_fold_ge hC l _ (mlen ha hn) (fun v hv => hl v (by simp [hv])), less_meet_two ha hn hC, List.all_cons, Bool.and_assoc]
theorem meet_ge (l : List (List Nat)) (hl : ∀ v ∈ l, v.length = 6) {v : List Nat} (hv : v ∈ l) : lessV (meetV l) v = true := by
  cases l with
  | nil => cases hv
  | cons a l =>
    have ha := hl a (by simp)
    have h := meet_fold_ge (C := meetV (a :: l)) (meetV_len hl) l a ha (fun v hv => hl v (by simp [hv]))
    rw [show l.foldl (fun o v => meetV [o, v]) a = meetV (a :: l) from rfl, less_refl] at h
    have h2 := h.symm
    rw [Bool.and_eq_true] at h2
    rcases List.mem_cons.1 hv with rfl | hv
    · exact h2.1
    · exact (List.all_eq_true.1 h2.2) v hv
theorem join_same {l m : List (List Nat)} (hl : ∀ v ∈ l, v.length = 6) (hm : ∀ v ∈ m, v ∈ l) (hlm : ∀ v ∈ l, v ∈ m) : joinV m = joinV l := by
  have hm6 : ∀ v ∈ m, v.length = 6 := fun v hv => hl v (hm v hv)
  refine less_antisymm (joinV_len hm6) (joinV_len hl) ?_ ?_
  · rw [less_joinV (joinV_len hl) m hm6, List.all_eq_true]
    exact fun v hv => join_ge l hl (hm v hv)
  · rw [less_joinV (joinV_len hm6) l hl, List.all_eq_true]
    exact fun v hv => join_ge m hm6 (hlm v hv)
theorem join_self {J : List Nat} (hJ : J.length = 6) : joinV [J, J] = J := by
  refine less_antisymm (jlen hJ hJ) hJ ?_ (join_ge [J, J] (by simp [hJ]) (by simp))
  rw [less_join_two hJ hJ hJ, less_refl]; rfl
theorem join_meet (l : List (List Nat)) (hl : ∀ v ∈ l, v.length = 6) : joinV [joinV l, meetV l] = joinV l := by
  have hJ := joinV_len hl
  have hM := meetV_len hl
  refine less_antisymm (jlen hJ hM) hJ ?_ (join_ge [joinV l, meetV l] (by simp [hJ, hM]) (by simp))
  rw [less_join_two hJ hM hJ, less_refl, Bool.true_and]
  cases l with
  | nil => rfl
  | cons a l => exact less_trans (meet_ge (a :: l) hl (List.mem_cons_self ..)) (join_ge (a :: l) hl (List.mem_cons_self ..))
theorem has_mono {A B : List Nat} (h : lessV A B = true) (z : Int) (s : Nat) (hh : hasZ A z s = true) : hasZ B z s = true := by
  unfold hasZ at *
  split at hh
  · rename_i hz
    rw [if_pos hz]
    unfold lessV at h
    rw [List.all_eq_true] at h
    have := h (z - 1).toNat (by simp; omega)
    unfold lessN at this
    unfold hasV at *
    simp only [Bool.and_eq_true, decide_eq_true_eq] at *
    omega
  · cases hh
theorem lack_none {A B : List Nat} (h : lessV B A = true) : lackV A B = 0 := by
  have hk : ∀ k, k ≤ 6 → lackS A B k = 0 := by
    intro k
    induction k with
    | zero => intro _; rfl
    | succ k ih =>
      intro hk
      unfold lessV at h
      rw [List.all_eq_true] at h
      have := h k (by simp; omega)
      unfold lessN at this
      simp only [decide_eq_true_eq] at this
      simp only [lackS, ih (by omega), lackN]
      omega
  unfold lackV; rw [hk 6 (Nat.le_refl _)]
end Go.Proofs.Ytdliklkfhakmhaa
