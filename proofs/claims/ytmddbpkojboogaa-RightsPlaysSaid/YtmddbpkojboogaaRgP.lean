import Derived.Test.YtmddbpkojboogaaRgN
namespace Go.Proofs.Ytmddbpkojboogaa
open Go.RowKit
/-! rights: what calls that go make of rights that may be. -/
theorem ext54 {L M : List Int} (h : L.length = 54) (h' : M.length = 54) (he : ∀ n, n < 54 → L.getD n 0 = M.getD n 0) : L = M := by
  refine List.ext_getElem (by omega) fun n h1 h2 => ?_
  have := he n (by omega)
  simpa [List.getD_eq_getElem?_getD, h1, h2] using this
theorem cell_cases {L : List Int} {P : Int → Prop} (hg : ∀ k, k < 6 → P (gR L k)) (hc : ∀ k, k < 6 → P (cR L k)) (hf : ∀ k, k < 6 → P (fR L k)) (hr : ∀ i j, i < 6 → j < 6 → P (rR L i j)) : ∀ n, n < 54 → P (L.getD n 0) := by
  intro n hn
  by_cases h1 : n < 6
  · exact hg n h1
  by_cases h2 : n < 12
  · have := hc (n - 6) (by omega)
    unfold cR at this; rwa [show 6 + (n - 6) = n by omega] at this
  by_cases h3 : n < 18
  · have := hf (n - 12) (by omega)
    unfold fR at this; rwa [show 12 + (n - 12) = n by omega] at this
  · have := hr ((n - 18) / 6) ((n - 18) % 6) (by omega) (by omega)
    unfold rR at this; rwa [show 18 + (n - 18) / 6 * 6 + (n - 18) % 6 = n by omega] at this
theorem wf_may {L : List Int} (h : L.length = 54) (ha : Amt L) : WfR L := by
  intro x hx
  obtain ⟨n, hn, rfl⟩ := List.mem_iff_getElem.1 hx
  have := cell_cases (L := L) (P := fun x => 0 ≤ x ∧ x ≤ 1125899906842624) ha.g ha.c ha.f ha.r n (by omega)
  rw [show L.getD n 0 = L[n] by simp [hn]] at this
  exact wf_amt this
theorem join_up {L : List Int} (h : L.length = 54) (n : Nat) (hn : n < 54) (v : Int) (hv : L.getD n 0 ≤ v) : joinR L (L.set n v) = L.set n v := by
  have h' : (L.set n v).length = 54 := by rw [List.length_set, h]
  refine ext54 (joinR_len h h') h' fun m hm => ?_
  rw [joinR_at h h' m hm, getD_set _ _ _ _ (by omega)]
  by_cases e : m = n
  · subst e
    rw [if_pos rfl]
    split <;> omega
  · rw [if_neg e, if_neg (by omega)]
theorem zr0 (m : Nat) : sumTo (fun t => dr0 t m - dr0 m t) 6 = 0 := sum_zero _ 6 (fun _ _ => rfl)
theorem zd0 : sumTo d0 6 = 0 := sum_zero _ 6 (fun _ _ => rfl)
theorem zd1 : sumTo (fun k => d0 k - d0 k) 6 = 0 := sum_zero _ 6 (fun _ _ => rfl)
/-- what a call that goes makes of rights that may be. -/
structure Goes (L A : List Int) (dlim : Int) : Prop where
  len : A.length = 54
  may : mayR A = true
  up : joinR L A = A
  lim : limitR A = limitR L + dlim
section
variable {L : List Int} {k q : Nat} {x : Int} (h : L.length = 54) (hm : mayR L = true) (hk : k < 6) (hx : 1 ≤ x)
include h hm hk hx
theorem give_goes (h1 : limitR L + x ≤ 1125899906842624) : Goes L (L.set k (gR L k + x)) x ∧ (∀ m, m < 6 → leftR (L.set k (gR L k + x)) m = leftR L m + dl k x m) ∧ usedR (L.set k (gR L k + x)) = usedR L := by
  have u := upd_g (x := x) h hk
  have am := amt_may hm
  have hl : ∀ m, m < 6 → leftR (L.set k (gR L k + x)) m = leftR L m + dl k x m := fun m hm' => by
    have := u.leftTo m hm' 6 (by omega)
    rw [zr0] at this
    show leftTo _ m 6 = leftTo L m 6 + _
    rw [this]; simp [d0]
  have hlim : limitR (L.set k (gR L k + x)) = limitR L + x := by rw [u.limit, sum_dl, if_pos hk]
  refine ⟨⟨by rw [List.length_set, h], ?_, join_up h k (by omega) _ (by show gR L k ≤ _; omega), hlim⟩, hl, ?_⟩
  · refine may_of ⟨fun m hm' => ?_, fun m hm' => ?_, fun m hm' => ?_, fun i j hi hj => ?_, fun m hm' => ?_, fun m hm' => ?_⟩ (fun m hm' => ?_) (by rw [hlim]; exact h1)
    · have a := am.g m hm'; have b := sum_ge am k hk; rw [u.g m hm']; unfold dl; split <;> simp_all <;> omega
    · rw [u.c m hm']; simpa [d0] using am.c m hm'
    · rw [u.f m hm']; simpa [d0] using am.f m hm'
    · rw [u.r i j hi hj]; simpa [dr0] using am.r i j hi hj
    · rw [u.f m hm', u.c m hm']; simpa [d0] using am.fc m hm'
    · rw [u.r m m hm' hm']; simpa [dr0] using am.rd m hm'
    · rw [hl m hm']; have := may_left hm m hm'; unfold dl; split <;> omega
  · rw [u.used, zd1]; omega
theorem take_goes (h1 : x ≤ leftR L k) (h2 : cR L k + x ≤ 1125899906842624) : Goes L (L.set (6 + k) (cR L k + x)) 0 ∧ (∀ m, m < 6 → leftR (L.set (6 + k) (cR L k + x)) m = leftR L m - dl k x m) ∧ usedR (L.set (6 + k) (cR L k + x)) = usedR L + x := by
  have u := upd_c (x := x) h hk
  have am := amt_may hm
  have hl : ∀ m, m < 6 → leftR (L.set (6 + k) (cR L k + x)) m = leftR L m - dl k x m := fun m hm' => by
    have := u.leftTo m hm' 6 (by omega)
    rw [zr0] at this
    show leftTo _ m 6 = leftTo L m 6 - _
    rw [this]; simp [d0]; omega
  have hlim : limitR (L.set (6 + k) (cR L k + x)) = limitR L + 0 := by rw [u.limit, zd0]
  refine ⟨⟨by rw [List.length_set, h], ?_, join_up h (6 + k) (by omega) _ (by show cR L k ≤ _; omega), hlim⟩, hl, ?_⟩
  · refine may_of ⟨fun m hm' => ?_, fun m hm' => ?_, fun m hm' => ?_, fun i j hi hj => ?_, fun m hm' => ?_, fun m hm' => ?_⟩ (fun m hm' => ?_) (by rw [hlim]; have := may_limit hm; omega)
    · rw [u.g m hm']; simpa [d0] using am.g m hm'
    · have a := am.c m hm'; rw [u.c m hm']; unfold dl; split <;> simp_all <;> omega
    · rw [u.f m hm']; simpa [d0] using am.f m hm'
    · rw [u.r i j hi hj]; simpa [dr0] using am.r i j hi hj
    · have a := am.fc m hm'; rw [u.f m hm', u.c m hm']; unfold dl d0; split <;> omega
    · rw [u.r m m hm' hm']; simpa [dr0] using am.rd m hm'
    · rw [hl m hm']; have := may_left hm m hm'; unfold dl; split
      · rename_i e; subst e; omega
      · omega
  · rw [u.used, sum_eq (f := dl k x) 6 (fun m _ => by simp [d0]), sum_dl, if_pos hk]
theorem free_goes (h1 : x ≤ cR L k - fR L k) : Goes L (L.set (12 + k) (fR L k + x)) 0 ∧ (∀ m, m < 6 → leftR (L.set (12 + k) (fR L k + x)) m = leftR L m + dl k x m) ∧ usedR (L.set (12 + k) (fR L k + x)) = usedR L - x := by
  have u := upd_f (x := x) h hk
  have am := amt_may hm
  have hl : ∀ m, m < 6 → leftR (L.set (12 + k) (fR L k + x)) m = leftR L m + dl k x m := fun m hm' => by
    have := u.leftTo m hm' 6 (by omega)
    rw [zr0] at this
    show leftTo _ m 6 = leftTo L m 6 + _
    rw [this]; simp [d0]
  have hlim : limitR (L.set (12 + k) (fR L k + x)) = limitR L + 0 := by rw [u.limit, zd0]
  refine ⟨⟨by rw [List.length_set, h], ?_, join_up h (12 + k) (by omega) _ (by show fR L k ≤ _; omega), hlim⟩, hl, ?_⟩
  · refine may_of ⟨fun m hm' => ?_, fun m hm' => ?_, fun m hm' => ?_, fun i j hi hj => ?_, fun m hm' => ?_, fun m hm' => ?_⟩ (fun m hm' => ?_) (by rw [hlim]; have := may_limit hm; omega)
    · rw [u.g m hm']; simpa [d0] using am.g m hm'
    · rw [u.c m hm']; simpa [d0] using am.c m hm'
    · have a := am.f m hm'; have b := am.c m hm'; rw [u.f m hm']; unfold dl; split
      · rename_i e; subst e; omega
      · omega
    · rw [u.r i j hi hj]; simpa [dr0] using am.r i j hi hj
    · have a := am.fc m hm'; rw [u.f m hm', u.c m hm']; unfold dl d0; split
      · rename_i e; subst e; omega
      · omega
    · rw [u.r m m hm' hm']; simpa [dr0] using am.rd m hm'
    · rw [hl m hm']; have := may_left hm m hm'; unfold dl; split <;> omega
  · rw [u.used, sum_eq (f := dl k (-x)) 6 (fun m _ => by unfold d0 dl; split <;> omega), sum_dl, if_pos hk]; omega
theorem move_goes (hq : q < 6) (hne : ¬ k = q) (h1 : x ≤ leftR L k) (h2 : rR L k q + x ≤ 1125899906842624) :
    Goes L (L.set (18 + k * 6 + q) (rR L k q + x)) 0 ∧ (∀ m, m < 6 → leftR (L.set (18 + k * 6 + q) (rR L k q + x)) m = leftR L m + dl q x m - dl k x m) ∧ usedR (L.set (18 + k * 6 + q) (rR L k q + x)) = usedR L := by
  have u := upd_r (x := x) h hk hq
  have am := amt_may hm
  have hl : ∀ m, m < 6 → leftR (L.set (18 + k * 6 + q) (rR L k q + x)) m = leftR L m + dl q x m - dl k x m := fun m hm' => by
    have := u.leftTo m hm' 6 (by omega)
    have s1 : sumTo (fun t => dr2 k q x t m) 6 = dl q x m := by
      by_cases e : m = q
      · rw [sum_eq (f := dl k x) 6 (fun t _ => by unfold dr2 dl; simp [e]), sum_dl, if_pos hk]; unfold dl; rw [if_pos e]
      · rw [sum_zero _ 6 (fun t _ => by unfold dr2; rw [if_neg (fun h => e h.2)])]; unfold dl; rw [if_neg e]
    have s2 : sumTo (fun t => dr2 k q x m t) 6 = dl k x m := by
      by_cases e : m = k
      · rw [sum_eq (f := dl q x) 6 (fun t _ => by unfold dr2 dl; simp [e]), sum_dl, if_pos hq]; unfold dl; rw [if_pos e]
      · rw [sum_zero _ 6 (fun t _ => by unfold dr2; rw [if_neg (fun h => e h.1)])]; unfold dl; rw [if_neg e]
    rw [sum_sub, s1, s2] at this
    show leftTo _ m 6 = leftTo L m 6 + _ - _
    rw [this]; simp [d0]; omega
  have hlim : limitR (L.set (18 + k * 6 + q) (rR L k q + x)) = limitR L + 0 := by rw [u.limit, zd0]
  refine ⟨⟨by rw [List.length_set, h], ?_, join_up h (18 + k * 6 + q) (by omega) _ (by show rR L k q ≤ _; omega), hlim⟩, hl, ?_⟩
  · refine may_of ⟨fun m hm' => ?_, fun m hm' => ?_, fun m hm' => ?_, fun i j hi hj => ?_, fun m hm' => ?_, fun m hm' => ?_⟩ (fun m hm' => ?_) (by rw [hlim]; have := may_limit hm; omega)
    · rw [u.g m hm']; simpa [d0] using am.g m hm'
    · rw [u.c m hm']; simpa [d0] using am.c m hm'
    · rw [u.f m hm']; simpa [d0] using am.f m hm'
    · have a := am.r i j hi hj; rw [u.r i j hi hj]; unfold dr2; split
      · rename_i e; obtain ⟨rfl, rfl⟩ := e; omega
      · omega
    · rw [u.f m hm', u.c m hm']; simpa [d0] using am.fc m hm'
    · have a := am.rd m hm'; rw [u.r m m hm' hm']; unfold dr2; rw [if_neg (fun e => hne (e.1.symm.trans e.2))]; omega
    · rw [hl m hm']; have := may_left hm m hm'; unfold dl; split <;> split
      · rename_i e1 e2; exact absurd (e2.symm.trans e1) hne
      · omega
      · rename_i e; subst e; omega
      · omega
  · rw [u.used, zd1]; omega
end
end Go.Proofs.Ytmddbpkojboogaa
