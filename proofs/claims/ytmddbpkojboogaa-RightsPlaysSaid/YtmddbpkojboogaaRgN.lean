import Derived.Test.YtmddbpkojboogaaRgO
namespace Go.Proofs.Ytmddbpkojboogaa
open Go.RowKit
/-! rights: what calls make of the numbers. -/
theorem may_of {L : List Int} (h : Amt L) (hl : ∀ k, k < 6 → 0 ≤ leftR L k) (hs : limitR L ≤ 1125899906842624) : mayR L = true := by
  have h1 : ∀ n, n ≤ 6 → allTo (rowOK L) n = true := by
    intro n hn
    induction n with
    | zero => rfl
    | succ n ih =>
      have hg := h.g n (by omega); have hc := h.c n (by omega); have hf := h.f n (by omega); have hd := h.rd n (by omega); have hfc := h.fc n (by omega)
      have r0 := h.r n 0 (by omega) (by omega); have r1 := h.r n 1 (by omega) (by omega); have r2 := h.r n 2 (by omega) (by omega)
      have r3 := h.r n 3 (by omega) (by omega); have r4 := h.r n 4 (by omega) (by omega); have r5 := h.r n 5 (by omega) (by omega)
      rw [allTo, ih (by omega), Bool.true_and]
      unfold rowOK rowR
      simp only [List.all_cons, List.all_nil, Bool.and_true, Bool.and_eq_true, amtB_iff, decide_eq_true_eq]
      exact ⟨⟨hg, hc, hf⟩, ⟨r0, r1, r2, r3, r4, r5⟩, hd, hfc⟩
  have h2 : ∀ n, n ≤ 6 → allTo (fun k => decide (0 ≤ leftR L k)) n = true := by
    intro n hn
    induction n with
    | zero => rfl
    | succ n ih => rw [allTo, ih (by omega), decide_eq_true (hl n (by omega))]; rfl
  unfold mayR
  rw [h1 6 (by omega), h2 6 (by omega), decide_eq_true hs]; rfl
theorem getD_set (L : List Int) (n m : Nat) (v : Int) (h : n < L.length) : (L.set n v).getD m 0 = if m = n then v else L.getD m 0 := by
  simp only [List.getD_eq_getElem?_getD, List.getElem?_set]
  by_cases hm : n = m
  · subst hm; simp [h]
  · rw [if_neg hm, if_neg (Ne.symm hm)]
/-- one number more by x: which. -/
structure Upd (L L' : List Int) (dg dc df : Nat → Int) (dr : Nat → Nat → Int) : Prop where
  g : ∀ k, k < 6 → gR L' k = gR L k + dg k
  c : ∀ k, k < 6 → cR L' k = cR L k + dc k
  f : ∀ k, k < 6 → fR L' k = fR L k + df k
  r : ∀ i j, i < 6 → j < 6 → rR L' i j = rR L i j + dr i j
def dl (k : Nat) (x : Int) : Nat → Int := fun m => if m = k then x else 0
def d0 : Nat → Int := fun _ => 0
def dr0 : Nat → Nat → Int := fun _ _ => 0
def dr2 (k q : Nat) (x : Int) : Nat → Nat → Int := fun i j => if i = k ∧ j = q then x else 0
section
variable {L : List Int} {k q : Nat} {x : Int}
theorem upd_g (h : L.length = 54) (hk : k < 6) : Upd L (L.set k (gR L k + x)) (dl k x) d0 d0 dr0 := by
  refine ⟨fun m hm => ?_, fun m hm => ?_, fun m hm => ?_, fun i j hi hj => ?_⟩
  · unfold gR dl; rw [getD_set _ _ _ _ (by omega)]; split <;> simp_all
  · unfold cR d0; rw [getD_set _ _ _ _ (by omega), if_neg (by omega)]; simp
  · unfold fR d0; rw [getD_set _ _ _ _ (by omega), if_neg (by omega)]; simp
  · unfold rR dr0; rw [getD_set _ _ _ _ (by omega), if_neg (by omega)]; simp
theorem upd_c (h : L.length = 54) (hk : k < 6) : Upd L (L.set (6 + k) (cR L k + x)) d0 (dl k x) d0 dr0 := by
  refine ⟨fun m hm => ?_, fun m hm => ?_, fun m hm => ?_, fun i j hi hj => ?_⟩
  · unfold gR d0; rw [getD_set _ _ _ _ (by omega), if_neg (by omega)]; simp
  · unfold cR dl; rw [getD_set _ _ _ _ (by omega)]
    by_cases hm' : m = k
    · subst hm'; rw [if_pos rfl, if_pos rfl]
    · rw [if_neg (by omega), if_neg hm']; simp
  · unfold fR d0; rw [getD_set _ _ _ _ (by omega), if_neg (by omega)]; simp
  · unfold rR dr0; rw [getD_set _ _ _ _ (by omega), if_neg (by omega)]; simp
theorem upd_f (h : L.length = 54) (hk : k < 6) : Upd L (L.set (12 + k) (fR L k + x)) d0 d0 (dl k x) dr0 := by
  refine ⟨fun m hm => ?_, fun m hm => ?_, fun m hm => ?_, fun i j hi hj => ?_⟩
  · unfold gR d0; rw [getD_set _ _ _ _ (by omega), if_neg (by omega)]; simp
  · unfold cR d0; rw [getD_set _ _ _ _ (by omega), if_neg (by omega)]; simp
  · unfold fR dl; rw [getD_set _ _ _ _ (by omega)]
    by_cases hm' : m = k
    · subst hm'; rw [if_pos rfl, if_pos rfl]
    · rw [if_neg (by omega), if_neg hm']; simp
  · unfold rR dr0; rw [getD_set _ _ _ _ (by omega), if_neg (by omega)]; simp
theorem upd_r (h : L.length = 54) (hk : k < 6) (hq : q < 6) : Upd L (L.set (18 + k * 6 + q) (rR L k q + x)) d0 d0 d0 (dr2 k q x) := by
  refine ⟨fun m hm => ?_, fun m hm => ?_, fun m hm => ?_, fun i j hi hj => ?_⟩
  · unfold gR d0; rw [getD_set _ _ _ _ (by omega), if_neg (by omega)]; simp
  · unfold cR d0; rw [getD_set _ _ _ _ (by omega), if_neg (by omega)]; simp
  · unfold fR d0; rw [getD_set _ _ _ _ (by omega), if_neg (by omega)]; simp
  · unfold rR dr2; rw [getD_set _ _ _ _ (by omega)]
    by_cases hm' : i = k ∧ j = q
    · obtain ⟨rfl, rfl⟩ := hm'; rw [if_pos rfl, if_pos ⟨rfl, rfl⟩]
    · rw [if_neg (by omega), if_neg hm']; simp
end
section
variable {L L' : List Int} {dg dc df : Nat → Int} {dr : Nat → Nat → Int}
theorem Upd.leftTo (u : Upd L L' dg dc df dr) (m : Nat) (hm : m < 6) : ∀ j, j ≤ 6 → leftTo L' m j = leftTo L m j + (dg m - dc m + df m) + sumTo (fun t => dr t m - dr m t) j
  | 0, _ => by
    have h1 := u.g m hm; have h2 := u.c m hm; have h3 := u.f m hm
    simp only [Go.Proofs.Ytmddbpkojboogaa.leftTo, sumTo]; omega
  | j + 1, hj => by
    have ih := u.leftTo m hm j (by omega)
    have h1 := u.r j m (by omega) hm; have h2 := u.r m j hm (by omega)
    simp only [Go.Proofs.Ytmddbpkojboogaa.leftTo, sumTo]; omega
theorem sum_add (f f' d : Nat → Int) : ∀ n, (∀ k, k < n → f' k = f k + d k) → sumTo f' n = sumTo f n + sumTo d n
  | 0, _ => rfl
  | n + 1, h => by
    have ih := sum_add f f' d n (fun k hk => h k (by omega))
    have h1 := h n (by omega)
    simp only [sumTo]; omega
theorem sum_dl (k : Nat) (x : Int) : ∀ n, sumTo (dl k x) n = if k < n then x else 0
  | 0 => by simp [sumTo]
  | n + 1 => by
    rw [sumTo, sum_dl k x n]
    unfold dl
    by_cases h : n = k
    · rw [if_neg (by omega), if_pos h, if_pos (by omega)]; simp
    · rw [if_neg h]
      by_cases h2 : k < n
      · rw [if_pos h2, if_pos (by omega)]; simp
      · rw [if_neg h2, if_neg (by omega)]; simp
theorem sum_zero (f : Nat → Int) : ∀ n, (∀ k, k < n → f k = 0) → sumTo f n = 0
  | 0, _ => rfl
  | n + 1, h => by rw [sumTo, sum_zero f n (fun k hk => h k (by omega)), h n (by omega)]; rfl
theorem sum_eq {f f' : Nat → Int} (n : Nat) (h : ∀ k, k < n → f' k = f k) : sumTo f' n = sumTo f n := by
  rw [sum_add f f' (fun _ => 0) n (fun k hk => by rw [h k hk]; omega), sum_zero _ n (fun _ _ => rfl)]; omega
theorem sum_sub (f g : Nat → Int) : ∀ n, sumTo (fun t => f t - g t) n = sumTo f n - sumTo g n
  | 0 => rfl
  | n + 1 => by
    have ih := sum_sub f g n
    simp only [sumTo]; omega
theorem Upd.limit (u : Upd L L' dg dc df dr) : limitR L' = limitR L + sumTo dg 6 := sum_add _ _ _ 6 u.g
theorem Upd.used (u : Upd L L' dg dc df dr) : usedR L' = usedR L + sumTo (fun k => dc k - df k) 6 := by
  refine sum_add _ _ _ 6 fun k hk => ?_
  have h2 := u.c k hk; have h3 := u.f k hk
  show cR L' k - fR L' k = cR L k - fR L k + (dc k - df k)
  omega
end
/-- all regions' rights and what is used are the limit. -/
theorem whole (L : List Int) : usedR L + sumTo (leftR L) 6 = limitR L := by
  simp only [usedR, limitR, sumTo, leftR, leftTo]
  omega
end Go.Proofs.Ytmddbpkojboogaa
