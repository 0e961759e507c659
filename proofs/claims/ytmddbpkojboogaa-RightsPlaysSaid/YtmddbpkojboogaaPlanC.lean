import Derived.Test.YtmddbpkojboogaaPlanB
namespace Go.Proofs.Ytmddbpkojboogaa
/-! a region that draws its order, operation by operation; what is told of the world may say which operations have been. -/
variable {P : Program} {ops : Array Oper} {Q : Exit → Act → World → Prop}
structure PlanCy (ops : Array Oper) (S : (Nat → Bool) → Array Value → World → Prop) (Φ : List (Value → World → Prop)) (a0 : Act) (listed : Array Bool) (a : Act) (w : World) : Prop where
  size : a.tmps.size = a0.tmps.size
  defs : a.defers = a0.defers
  s : S (told listed) a.tmps w
  far : ∀ s, (∀ k, dstAt ops k = some s → listed.getD k false = false) → a.tmps.getD s undef = a0.tmps.getD s undef
  closed : ∀ k o, listed.getD k false = true → ops[k]? = some o → ∀ e ∈ o.after, Region.binds .any e = true → listed.getD e.on false = true
  told : ∀ i d, listed.getD i false = true → dstAt ops i = some d → (Φ.getD i fun _ _ => True) (a.tmps.getD d undef) w
/-- what is to be shown of one operation. -/
def StepCy (P : Program) (ops : Array Oper) (Q : Exit → Act → World → Prop) (S : (Nat → Bool) → Array Value → World → Prop) (R : World → World → Prop) (Φ : List (Value → World → Prop)) (E : List (Nat × Value)) (n : Nat) (i : Nat) (o : Oper) : Prop :=
  ∀ (a : Act) (w : World) (l : Nat → Bool), a.tmps.size = n → l i = false → (∀ c, reach ops ops.size c i = true → l c = false) → S l a.tmps w → ExtFor ops i a E →
    (∀ j d, needs ops o j d = true → l j = true) → (∀ j d, needs ops o j d = true → (Φ.getD j fun _ _ => True) (a.tmps.getD d undef) w) →
    if Region.wanted o (yielded ops a.tmps) = true then
      o.wp P a w (fun a' w' => ∃ v, a' = a.put o.dst v ∧ S (upd l i) (a.put o.dst v).tmps w' ∧ R w w' ∧ (Φ.getD i fun _ _ => True) v w') Q
    else S (upd l i) (a.put o.dst undef).tmps w ∧ (Φ.getD i fun _ _ => True) undef w
def StepsCy (P : Program) (ops : Array Oper) (Q : Exit → Act → World → Prop) (S : (Nat → Bool) → Array Value → World → Prop) (R : World → World → Prop) (Φ : List (Value → World → Prop)) (E : List (Nat × Value)) (z : Nat) : Nat → List Oper → Prop
  | _, [] => True
  | i, o :: r => StepCy P ops Q S R Φ E z i o ∧ StepsCy P ops Q S R Φ E z (i + 1) r
theorem StepsCy.nth {z : Nat} {S : (Nat → Bool) → Array Value → World → Prop} {R : World → World → Prop} {Φ : List (Value → World → Prop)} {E : List (Nat × Value)} : ∀ (l : List Oper) (n : Nat), StepsCy P ops Q S R Φ E z n l → ∀ (i : Nat) (o : Oper), l[i]? = some o → StepCy P ops Q S R Φ E z (n + i) o
  | [], _, _, i, o, hi => by simp at hi
  | x :: l, n, h, 0, o, hi => by
    injection hi with hi; subst hi; exact h.1
  | x :: l, n, h, i + 1, o, hi => by
    have := StepsCy.nth l (n + 1) h.2 i o (by simpa using hi)
    rwa [show n + (i + 1) = n + 1 + i by omega]
theorem plan_cy {S : (Nat → Bool) → Array Value → World → Prop} {R : World → World → Prop} {Φ : List (Value → World → Prop)} {a0 : Act} {n : Nat} {E : List (Nat × Value)} (hE : ExtAll a0 E) (hn : a0.tmps.size = n) (hok : planOK ops n = true) (hRr : ∀ w, R w w)
    (hR : ∀ j v w w', R w w' → (Φ.getD j fun _ _ => True) v w → (Φ.getD j fun _ _ => True) v w') (hsteps : StepsCy P ops Q S R Φ E n 0 ops.toList)
    (hend : ∀ (f : Nat → Value) w (l : Nat → Bool), (∀ i, i < ops.size → l i = true) → S l (setAll f a0.tmps ops.toList) w → Ends Φ f w 0 ops.toList → Q .normal ⟨setAll f a0.tmps ops.toList, a0.defers⟩ w) :
    ∀ (fuel : Nat) (listed : Array Bool) (a : Act) (w : World), listed.size = ops.size → ((List.range ops.size).filter fun i => !listed.getD i true).length ≤ fuel →
      PlanCy ops S Φ a0 listed a w → wpAny P .any ops Q fuel listed a w := by
  have hdone : ∀ (listed : Array Bool) (a : Act) (w : World), listed.size = ops.size → Region.ready .any ops listed = [] → PlanCy ops S Φ a0 listed a w → Q .normal a w := by
    intro listed a w hls hr hp
    have hall : ∀ k, ∀ i, i < k → i < ops.size → listed.getD i true = true := by
      intro k
      induction k with
      | zero => intro i hi; omega
      | succ k ih =>
        intro i hi hil
        by_cases hik : i < k
        · exact ih i hik hil
        · obtain rfl : i = k := by omega
          cases hli : listed.getD i true with
          | true => rfl
          | false =>
            have hoi : ops[i]? = some ops[i] := Array.getElem?_eq_getElem hil
            have : i ∈ Region.ready .any ops listed := mem_ready.2 ⟨hli, ops[i], hoi, fun e he hb => by
              have h1 := (planOK_spec hok hoi).1 e he hb
              have h2 := ih e.on h1 (by omega)
              have h3 : e.on < listed.size := by omega
              simpa [h3] using h2⟩
            rw [hr] at this; cases this
    have hl : ∀ i, i < ops.size → listed.getD i false = true := fun i hi => by
      have := hall (i + 1) i (by omega) hi
      have h3 : i < listed.size := by omega
      simpa [h3] using this
    have hps := hp.s
    have he := fun hs => hend (fun d => a.tmps.getD d undef) w (told listed) hl hs (ends_of _ 0 (fun i o d hi hd => by
      have hi' : ops[i]? = some o := by simpa using hi
      rw [Nat.zero_add]
      exact hp.told i d (hl i (Array.getElem?_eq_some_iff.1 hi').1) (by simp [dstAt, hi', hd])))
    have ha : a = ⟨setAll (fun d => a.tmps.getD d undef) a0.tmps ops.toList, a0.defers⟩ := by
      have hd := hp.defs
      obtain ⟨t, df⟩ := a
      simp only at hd
      subst hd
      congr 1
      refine Array.ext (by rw [setAll_size]; exact hp.size) fun s h1 h2 => ?_
      have e1 : t[s] = t.getD s undef := by simp [h1]
      have e2 : (setAll (fun d => t.getD d undef) a0.tmps ops.toList)[s] = (setAll (fun d => t.getD d undef) a0.tmps ops.toList).getD s undef := by rw [Array.getD_eq_getD_getElem?, Array.getElem?_eq_getElem h2]; rfl
      rw [e1, e2]
      by_cases hs : ∃ o ∈ ops.toList, o.dst = some s
      · rw [setAll_at _ s _ _ (by rw [← hp.size]; exact h1) hs]
      · rw [setAll_far _ s _ _ (fun o ho e => hs ⟨o, ho, e⟩)]
        refine hp.far s fun k hk => ?_
        exfalso
        unfold dstAt at hk
        cases hok : ops[k]? with
        | none => simp [hok] at hk
        | some o => exact hs ⟨o, by simpa using Array.mem_of_getElem? hok, by simpa [hok] using hk⟩
    have htm : a.tmps = setAll (fun d => a.tmps.getD d undef) a0.tmps ops.toList := congrArg Act.tmps ha
    rw [ha]
    exact he (htm ▸ hps)
  intro fuel
  induction fuel with
  | zero =>
    intro listed a w hls hf hp
    have hr : Region.ready .any ops listed = [] := by
      cases hr : Region.ready .any ops listed with
      | nil => rfl
      | cons i r =>
        have hm : i ∈ Region.ready .any ops listed := by rw [hr]; simp
        obtain ⟨h1, o, ho, _⟩ := mem_ready.1 hm
        have : i ∈ (List.range ops.size).filter fun i => !listed.getD i true := List.mem_filter.2 ⟨List.mem_range.2 (Array.getElem?_eq_some_iff.1 ho).1, by rw [h1]; rfl⟩
        have := List.length_pos_of_mem this
        omega
    exact ⟨hr, hdone listed a w hls hr hp⟩
  | succ fuel ih =>
    intro listed a w hls hf hp
    refine ⟨fun hr => hdone listed a w hls hr hp, fun i hi => ?_⟩
    obtain ⟨h1, o, ho, hall⟩ := mem_ready.1 hi
    have hil : i < ops.size := (Array.getElem?_eq_some_iff.1 ho).1
    have hst := StepsCy.nth _ _ hsteps i o (by simpa using ho)
    rw [Nat.zero_add] at hst
    have hneeds : ∀ j d, needs ops o j d = true → (Φ.getD j fun _ _ => True) (a.tmps.getD d undef) w := by
      intro j d hj
      unfold needs at hj
      rw [Bool.and_eq_true, List.any_eq_true] at hj
      obtain ⟨⟨e, he, heq⟩, hd⟩ := hj
      rw [Bool.and_eq_true] at heq
      have hej : e.on = j := by simpa using heq.2
      exact hp.told j d (by rw [← hej]; exact hall e (by simpa using he) heq.1) (by simpa using hd)
    have hfilter : ((List.range ops.size).filter fun k => !(listed.setIfInBounds i true).getD k true).length ≤ fuel := by
      have hlt : ((List.range ops.size).filter fun k => !(listed.setIfInBounds i true).getD k true).length < ((List.range ops.size).filter fun k => !listed.getD k true).length := by
        have e : ((List.range ops.size).filter fun k => !(listed.setIfInBounds i true).getD k true) = ((List.range ops.size).filter fun k => !listed.getD k true).filter fun k => k != i := by
          rw [List.filter_filter]
          refine List.filter_congr fun k hk => ?_
          by_cases hki : k = i
          · subst hki
            have : k < listed.size := by omega
            simp [this]
          · rw [getD_set_ne true (Ne.symm hki)]
            simp [hki]
        rw [e]
        refine List.length_filter_lt_length_iff_exists.2 ⟨i, List.mem_filter.2 ⟨List.mem_range.2 hil, by rw [h1]; rfl⟩, by simp⟩
      omega
    have hnext : ∀ v w', S (upd (told listed) i) (a.put o.dst v).tmps w' → R w w' → (Φ.getD i fun _ _ => True) v w' → PlanCy ops S Φ a0 (listed.setIfInBounds i true) (a.put o.dst v) w' := by
      intro v w' hS hRw hv
      refine ⟨by rw [put_size]; exact hp.size, by rw [put_defs]; exact hp.defs, by rw [told_set (by omega)]; exact hS, fun s hs => ?_, fun k ok hk hok e he hb => ?_, fun j d hj hd => ?_⟩
      · have hil2 : i < listed.size := by omega
        have hne : o.dst ≠ some s := fun e => by
          have := hs i (by simp [dstAt, ho, e])
          simp [hil2] at this
        rw [put_getD_far hne]
        refine hp.far s fun k hk => ?_
        have hki : k ≠ i := fun e => hne (by rw [e] at hk; simpa [dstAt, ho] using hk)
        have := hs k hk
        rwa [getD_set_ne false (Ne.symm hki)] at this
      · refine getD_set_true ?_
        by_cases hki : k = i
        · subst hki
          rw [ho] at hok
          injection hok with hok
          subst hok
          exact hall e he hb
        · rw [getD_set_ne false (Ne.symm hki)] at hk
          exact hp.closed k ok hk hok e he hb
      · by_cases hji : j = i
        · subst hji
          have hd' : o.dst = some d := by simpa [dstAt, ho] using hd
          rw [hd', put_getD_at (by rw [hp.size, hn]; exact (planOK_spec hok ho).2.1 d hd')]
          exact hv
        · rw [getD_set_ne false (Ne.symm hji)] at hj
          have hne : o.dst ≠ some d := fun e => hji ((planOK_spec hok ho).2.2 j d e hd)
          rw [put_getD_far hne]
          exact hR j _ _ _ hRw (hp.told j d hj hd)
    have hfree : ∀ s, freeFor ops i s = true → a.tmps.getD s undef = a0.tmps.getD s undef := fun s hs => hp.far s fun k hk => by
      cases hlk : listed.getD k false with
      | false => rfl
      | true =>
        exfalso
        have hkl : ∃ ok, ops[k]? = some ok ∧ ok.dst = some s := by
          unfold dstAt at hk
          cases hok : ops[k]? with
          | none => simp [hok] at hk
          | some ok => exact ⟨ok, rfl, by simpa [hok] using hk⟩
        obtain ⟨ok, hok, hdk⟩ := hkl
        obtain ⟨e, he, hb, heq⟩ := freeFor_spec hs hok hdk
        have := hp.closed k ok hlk hok e he hb
        rw [heq] at this
        have hil2 : i < listed.size := by omega
        simp [hil2] at h1 this
        rw [h1] at this; cases this
    have hli : told listed i = false := by
      have hil2 : i < listed.size := by omega
      unfold told
      simpa [hil2] using h1
    have hneedl : ∀ j d, needs ops o j d = true → told listed j = true := by
      intro j d hj
      unfold needs at hj
      rw [Bool.and_eq_true, List.any_eq_true] at hj
      obtain ⟨⟨e, he, heq⟩, hd⟩ := hj
      rw [Bool.and_eq_true] at heq
      have hej : e.on = j := by simpa using heq.2
      have := hall e (by simpa using he) heq.1
      rw [hej] at this
      exact this
    have hbe : ∀ c, reach ops ops.size c i = true → told listed c = false := by
      intro c hc
      cases hx : told listed c with
      | false => rfl
      | true =>
        have := reach_closed (l := told listed) hp.closed i ops.size c hc hx
        rw [hli] at this; cases this
    have hstep := hst a w (told listed) (hp.size.trans hn) hli hbe hp.s (ExtFor.of E hE hfree) hneedl hneeds
    unfold wpOp
    simp only [ho]
    have hlsz : (listed.setIfInBounds i true).size = ops.size := by simp [hls]
    split
    · rename_i hw
      rw [if_pos hw] at hstep
      refine .inl (Oper.wp_mono (fun a' w' h => ?_) hstep)
      obtain ⟨v, rfl, hS, hRw, hv⟩ := h
      exact ih _ _ _ hlsz hfilter (hnext v w' hS hRw hv)
    · rename_i hw
      rw [if_neg hw] at hstep
      exact ih _ _ _ hlsz hfilter (hnext undef w hstep.1 (hRr w) hstep.2)
/-- **a region that draws its order**: whatever order is drawn. -/
theorem wp_region_cy {id n : Nat} (S : (Nat → Bool) → Array Value → World → Prop) (R : World → World → Prop) (Φ : List (Value → World → Prop)) (E : List (Nat × Value)) {a0 : Act} {w : World} (hE : ExtAll a0 E) (hm : P.follows .mixedOrders = true) (hn : a0.tmps.size = n) (hok : planOK ops n = true)
    (hS : S (fun _ => false) a0.tmps w.drew) (hRr : ∀ w, R w w)
    (hR : ∀ j v w w', R w w' → (Φ.getD j fun _ _ => True) v w → (Φ.getD j fun _ _ => True) v w') (hsteps : StepsCy P ops Q S R Φ E n 0 ops.toList)
    (hend : ∀ (f : Nat → Value) w (l : Nat → Bool), (∀ i, i < ops.size → l i = true) → S l (setAll f a0.tmps ops.toList) w → Ends Φ f w 0 ops.toList → Q .normal ⟨setAll f a0.tmps ops.toList, a0.defers⟩ w) : (Code.region id ops true).wp P Q a0 w := by
  refine wp_region_any hm (plan_cy hE hn hok hRr hR hsteps hend ops.size _ a0 w.drew (by simp) ?_ ⟨rfl, rfl, by rw [show told (Array.replicate ops.size false) = fun _ => false by funext j; unfold told; by_cases h : j < ops.size <;> simp [h]]; exact hS, fun _ _ => rfl, fun k o hk => ?_, fun i d hi => ?_⟩)
  · have := List.length_filter_le (fun i => !(Array.replicate ops.size false).getD i true) (List.range ops.size)
    rwa [List.length_range] at this
  · exfalso
    by_cases h : k < ops.size
    · simp [h] at hk
    · simp [h] at hk
  · exfalso
    by_cases h : i < ops.size
    · simp [h] at hi
    · simp [h] at hi
theorem plan_unit {o : Oper} {a : Act} {w w' : World} {K : Act → World → Prop} (h : (execOp a.eval o).run P w = .ok .skip w') (hk : K (a.put o.dst undef) w') : o.wp P a w K Q := by
  unfold Oper.wp; rw [h]; exact hk
end Go.Proofs.Ytmddbpkojboogaa
