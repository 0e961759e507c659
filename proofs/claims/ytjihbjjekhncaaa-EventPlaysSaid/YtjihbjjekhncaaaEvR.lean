import Derived.Test.YtjihbjjekhncaaaEvS
namespace Go.Proofs.Ytjihbjjekhncaaa
open Go.RowKit
/-! events one behind the other, cut. -/
theorem flat_len : ∀ (l : List Ev), (∀ e ∈ l, e.ok) → (l.flatMap evB).length = 91 * l.length
  | [], _ => rfl
  | e :: l, h => by
    rw [List.flatMap_cons, List.length_append, evB_len (h e (by simp)).d6, flat_len l (fun x hx => h x (by simp [hx])), List.length_cons]; omega
theorem flat_take : ∀ (l : List Ev) (q : Nat), (∀ e ∈ l, e.ok) → (l.flatMap evB).take (91 * q) = (l.take q).flatMap evB
  | [], q, _ => by simp
  | e :: l, 0, _ => by simp
  | e :: l, q + 1, h => by
    have hl := evB_len (h e (by simp)).d6
    rw [List.flatMap_cons, List.take_succ_cons, List.flatMap_cons, show 91 * (q + 1) = (evB e).length + 91 * q by omega, List.take_length_add_append, flat_take l q (fun x hx => h x (by simp [hx]))]
theorem allE_cut : ∀ (l : List Ev), (∀ e ∈ l, e.ok ∧ mayE e = true) → ∀ k, k ≤ 91 * l.length → ¬ k % 91 = 0 → allE ((l.flatMap evB).take k) = none
  | [], _, k, hk, h9 => by simp at hk; subst hk; exact absurd rfl h9
  | e :: l, h, k, hk, h9 => by
    obtain ⟨h1, h2⟩ := h e (by simp)
    have hl := evB_len h1.d6
    have hfl := flat_len l (fun x hx => (h x (by simp [hx])).1)
    have hlen : (((e :: l).flatMap evB).take k).length = k := by
      rw [List.length_take, flat_len _ (fun x hx => (h x hx).1)]; omega
    by_cases hs : k < 91
    · exact allE_short (by rw [hlen]; intro h0; subst h0; exact h9 rfl) (by rw [hlen]; exact hs)
    · obtain ⟨j, rfl⟩ : ∃ j, k = 91 + j := ⟨k - 91, by omega⟩
      have ht : (((e :: l).flatMap evB).take (91 + j)) = evB e ++ (l.flatMap evB).take j := by
        rw [List.flatMap_cons, show 91 + j = (evB e).length + j by omega, List.take_length_add_append]
      have ht2 : (evB e ++ (l.flatMap evB).take j).take 91 = evB e := take_app _ _ 91 hl
      have hd2 : (evB e ++ (l.flatMap evB).take j).drop 91 = (l.flatMap evB).take j := drop_app _ _ 91 hl
      rw [ht, allE_yes (by rw [List.length_append, hl]; omega) (by rw [ht2, ofB_evB h1 h2]; exact h2), hd2, allE_cut l (fun x hx => h x (by simp [hx])) j (by rw [List.length_cons] at hk; omega) (by omega)]
      rfl
theorem evs_take {w : World} {B : Nat} {A : Option Addr} {l : List Ev} (h : Evs w B A l) (q : Nat) : Evs w B A (l.take q) := fun h0 => by
  obtain ⟨b, off, hA, hB, hr⟩ := h (by simp at h0; omega)
  refine ⟨b, off, hA, hB, fun i e hi => hr i e ?_⟩
  rw [List.getElem?_take] at hi
  split at hi
  · exact hi
  · cases hi
end Go.Proofs.Ytjihbjjekhncaaa
