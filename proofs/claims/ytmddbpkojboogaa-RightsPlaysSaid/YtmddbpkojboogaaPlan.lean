import Derived.Test.YtmddbpkojboogaaRows
import Derived.WalkKit
import Derived.OrdersHeld
namespace Go.Proofs.Ytmddbpkojboogaa
/-! a region that draws its order, operation by operation: whatever comes first, each tells what it is said to tell. -/
def dstAt (ops : Array Oper) (i : Nat) : Option Tmp := (ops[i]?).bind (·.dst)
/-- operation o stands behind operation j, whose slot is d. -/
def needs (ops : Array Oper) (o : Oper) (j d : Nat) : Bool := (o.after.toList.any fun e => Region.binds .any e && e.on == j) && dstAt ops j == some d
/-- no operation writes the slot ahead of operation i. -/
def freeFor (ops : Array Oper) (i s : Nat) : Bool := (List.range ops.size).all fun k => dstAt ops k != some s || (match ops[k]? with | some o => o.after.toList.any fun e => Region.binds .any e && e.on == i | none => false)
def planOK (ops : Array Oper) (n : Nat) : Bool :=
  (List.range ops.size).all fun i =>
    (match ops[i]? with
      | some o => (o.after.all fun e => !Region.binds .any e || decide (e.on < i)) && (match o.dst with | some d => decide (d < n) | none => true)
      | none => true) &&
    (List.range ops.size).all fun j => i == j || dstAt ops i == none || dstAt ops i != dstAt ops j
variable {P : Program} {ops : Array Oper} {Q : Exit → Act → World → Prop}
structure PlanAt (ops : Array Oper) (S : World → Prop) (Φ : List (Value → World → Prop)) (a0 : Act) (listed : Array Bool) (a : Act) (w : World) : Prop where
  size : a.tmps.size = a0.tmps.size
  defs : a.defers = a0.defers
  s : S w
  far : ∀ s, (∀ k, dstAt ops k = some s → listed.getD k false = false) → a.tmps.getD s undef = a0.tmps.getD s undef
  closed : ∀ k o, listed.getD k false = true → ops[k]? = some o → ∀ e ∈ o.after, Region.binds .any e = true → listed.getD e.on false = true
  told : ∀ i d, listed.getD i false = true → dstAt ops i = some d → (Φ.getD i fun _ _ => True) (a.tmps.getD d undef) w
/-- what stands in slots that the region does not write. -/
def ExtAll (a : Act) : List (Nat × Value) → Prop
  | [] => True
  | p :: r => a.tmps.getD p.1 undef = p.2 ∧ ExtAll a r
/-- what stands in slots that the region has not written when operation i comes up. -/
def ExtFor (ops : Array Oper) (i : Nat) (a : Act) : List (Nat × Value) → Prop
  | [] => True
  | p :: r => (freeFor ops i p.1 = true → a.tmps.getD p.1 undef = p.2) ∧ ExtFor ops i a r
/-- what is to be shown of one operation. -/
def StepOK (P : Program) (ops : Array Oper) (Q : Exit → Act → World → Prop) (S : World → Prop) (R : World → World → Prop) (Φ : List (Value → World → Prop)) (E : List (Nat × Value)) (i : Nat) (o : Oper) : Prop :=
  ∀ (a : Act) (w : World), S w → ExtFor ops i a E →
    (∀ j d, needs ops o j d = true → (Φ.getD j fun _ _ => True) (a.tmps.getD d undef) w) →
    if Region.wanted o (yielded ops a.tmps) = true then
      o.wp P a w (fun a' w' => ∃ v, a' = a.put o.dst v ∧ S w' ∧ R w w' ∧ (Φ.getD i fun _ _ => True) v w') Q
    else (Φ.getD i fun _ _ => True) undef w
def StepsAll (P : Program) (ops : Array Oper) (Q : Exit → Act → World → Prop) (S : World → Prop) (R : World → World → Prop) (Φ : List (Value → World → Prop)) (E : List (Nat × Value)) : Nat → List Oper → Prop
  | _, [] => True
  | i, o :: r => StepOK P ops Q S R Φ E i o ∧ StepsAll P ops Q S R Φ E (i + 1) r
theorem StepsAll.nth {S : World → Prop} {R : World → World → Prop} {Φ : List (Value → World → Prop)} {E : List (Nat × Value)} : ∀ (l : List Oper) (n : Nat), StepsAll P ops Q S R Φ E n l → ∀ (i : Nat) (o : Oper), l[i]? = some o → StepOK P ops Q S R Φ E (n + i) o
  | [], _, _, i, o, hi => by simp at hi
  | x :: l, n, h, 0, o, hi => by
    injection hi with hi; subst hi; exact h.1
  | x :: l, n, h, i + 1, o, hi => by
    have := StepsAll.nth l (n + 1) h.2 i o (by simpa using hi)
    rwa [show n + (i + 1) = n + 1 + i by omega]
def Ends (Φ : List (Value → World → Prop)) (f : Nat → Value) (w : World) : Nat → List Oper → Prop
  | _, [] => True
  | i, o :: r => (∀ d, o.dst = some d → (Φ.getD i fun _ _ => True) (f d) w) ∧ Ends Φ f w (i + 1) r
theorem ends_of {Φ : List (Value → World → Prop)} {f : Nat → Value} {w : World} : ∀ (l : List Oper) (n : Nat), (∀ i o d, l[i]? = some o → o.dst = some d → (Φ.getD (n + i) fun _ _ => True) (f d) w) → Ends Φ f w n l
  | [], _, _ => trivial
  | x :: l, n, h => ⟨fun d hd => h 0 x d rfl hd, ends_of l (n + 1) (fun i o d hi hd => by
      have := h (i + 1) o d (by simpa using hi) hd
      rwa [show n + (i + 1) = n + 1 + i by omega] at this)⟩
/-- the slots that a region has written. -/
def setAll (f : Nat → Value) (t : Array Value) : List Oper → Array Value
  | [] => t
  | o :: r => setAll f (match o.dst with | some d => t.setIfInBounds d (f d) | none => t) r
theorem setAll_size (f : Nat → Value) : ∀ (l : List Oper) (t : Array Value), (setAll f t l).size = t.size
  | [], _ => rfl
  | o :: r, t => by
    rw [setAll, setAll_size f r]
    cases o.dst <;> simp
theorem setAll_far (f : Nat → Value) (s : Nat) : ∀ (l : List Oper) (t : Array Value), (∀ o ∈ l, o.dst ≠ some s) → (setAll f t l).getD s undef = t.getD s undef
  | [], _, _ => rfl
  | o :: r, t, h => by
    rw [setAll, setAll_far f s r _ (fun o ho => h o (by simp [ho]))]
    have := h o (by simp)
    cases ho : o.dst with
    | none => rfl
    | some d =>
      have hne : d ≠ s := fun e => this (by rw [ho, e])
      simp [Array.getElem?_setIfInBounds, hne]
theorem setAll_at (f : Nat → Value) (s : Nat) : ∀ (l : List Oper) (t : Array Value), s < t.size → (∃ o ∈ l, o.dst = some s) → (setAll f t l).getD s undef = f s
  | [], _, _, h => by obtain ⟨o, ho, _⟩ := h; cases ho
  | o :: r, t, hs, h => by
    rw [setAll]
    by_cases hr : ∃ o' ∈ r, o'.dst = some s
    · exact setAll_at f s r _ (by cases o.dst <;> simpa using hs) hr
    · rw [setAll_far f s r _ (fun o' ho' e => hr ⟨o', ho', e⟩)]
      obtain ⟨o', ho', e⟩ := h
      rcases List.mem_cons.1 ho' with rfl | ho'
      · rw [e]; simp [hs]
      · exact absurd ⟨o', ho', e⟩ hr
theorem planOK_spec {n : Nat} (h : planOK ops n = true) {i : Nat} {o : Oper} (hi : ops[i]? = some o) :
    (∀ e ∈ o.after, Region.binds .any e = true → e.on < i) ∧ (∀ d, o.dst = some d → d < n) ∧ ∀ j d, o.dst = some d → dstAt ops j = some d → j = i := by
  unfold planOK at h
  rw [List.all_eq_true] at h
  have hlt : i < ops.size := (Array.getElem?_eq_some_iff.1 hi).1
  have h1 := h i (List.mem_range.2 hlt)
  rw [hi] at h1
  simp only [Bool.and_eq_true, Array.all_eq_true_iff_forall_mem, Bool.or_eq_true, Bool.not_eq_true', decide_eq_true_eq, List.all_eq_true, List.mem_range] at h1
  obtain ⟨⟨h2, h3⟩, h4⟩ := h1
  refine ⟨fun e he hb => (h2 e he).resolve_left (by simp [hb]), fun d hd => by simpa [hd] using h3, fun j d hd hj => ?_⟩
  have hjl : j < ops.size := by
    rcases Nat.lt_or_ge j ops.size with h | h
    · exact h
    · simp [dstAt, Array.getElem?_eq_none h] at hj
  have hdi : dstAt ops i = some d := by simp [dstAt, hi, hd]
  have h5 := h4 j hjl
  rw [hdi, hj] at h5
  simp at h5
  exact h5.symm
theorem freeFor_spec {i s : Nat} (h : freeFor ops i s = true) {k : Nat} {o : Oper} (hk : ops[k]? = some o) (hd : o.dst = some s) : ∃ e ∈ o.after, Region.binds .any e = true ∧ e.on = i := by
  unfold freeFor at h
  rw [List.all_eq_true] at h
  have h1 := h k (List.mem_range.2 (Array.getElem?_eq_some_iff.1 hk).1)
  have h2 : dstAt ops k = some s := by simp [dstAt, hk, hd]
  rw [h2, hk] at h1
  simp only [bne_self_eq_false, Bool.false_or, List.any_eq_true, Bool.and_eq_true, beq_iff_eq] at h1
  obtain ⟨e, he, hb, ho⟩ := h1
  exact ⟨e, by simpa using he, hb, ho⟩
theorem put_getD_far {a : Act} {dst : Option Tmp} {v : Value} {s : Nat} (h : dst ≠ some s) : (a.put dst v).tmps.getD s undef = a.tmps.getD s undef := by
  cases dst with
  | none => rfl
  | some d =>
    have hne : d ≠ s := fun e => h (by rw [e])
    simp [Act.put, Array.getElem?_setIfInBounds, hne]
theorem put_getD_at {a : Act} {d : Nat} {v : Value} (h : d < a.tmps.size) : (a.put (some d) v).tmps.getD d undef = v := by simp [Act.put, h]
theorem put_size (a : Act) (dst : Option Tmp) (v : Value) : (a.put dst v).tmps.size = a.tmps.size := by cases dst <;> simp [Act.put]
theorem put_defs (a : Act) (dst : Option Tmp) (v : Value) : (a.put dst v).defers = a.defers := by cases dst <;> rfl
theorem ExtFor.of {ops : Array Oper} {a0 a : Act} {i : Nat} : ∀ (E : List (Nat × Value)), ExtAll a0 E → (∀ s, freeFor ops i s = true → a.tmps.getD s undef = a0.tmps.getD s undef) → ExtFor ops i a E
  | [], _, _ => trivial
  | p :: r, h, hfar => ⟨fun hf => (hfar p.1 hf).trans h.1, ExtFor.of r h.2 hfar⟩
theorem plan_any {S : World → Prop} {R : World → World → Prop} {Φ : List (Value → World → Prop)} {a0 : Act} {n : Nat} {E : List (Nat × Value)} (hE : ExtAll a0 E) (hn : a0.tmps.size = n) (hok : planOK ops n = true) (hRr : ∀ w, R w w)
    (hR : ∀ j v w w', S w → S w' → R w w' → (Φ.getD j fun _ _ => True) v w → (Φ.getD j fun _ _ => True) v w') (hsteps : StepsAll P ops Q S R Φ E 0 ops.toList)
    (hend : ∀ (f : Nat → Value) w, S w → Ends Φ f w 0 ops.toList → Q .normal ⟨setAll f a0.tmps ops.toList, a0.defers⟩ w) :
    ∀ (fuel : Nat) (listed : Array Bool) (a : Act) (w : World), listed.size = ops.size → ((List.range ops.size).filter fun i => !listed.getD i true).length ≤ fuel →
      PlanAt ops S Φ a0 listed a w → wpAny P .any ops Q fuel listed a w := by
  have hdone : ∀ (listed : Array Bool) (a : Act) (w : World), listed.size = ops.size → Region.ready .any ops listed = [] → PlanAt ops S Φ a0 listed a w → Q .normal a w := by
    intro listed a w hls hr hp
    have hall : ∀ k, ∀ i, i < k → i < ops.size → listed.getD i true = true := by
      intro k
      induction k with
      | zero => intro i hi; omega
      | succ k ih =>
        intro i hi hil
        by_cases hik : i < k
        · exact ih i hik hil
        · obtain rfl : i = k := by omega
          cases hli : listed.getD i true with
          | true => rfl
          | false =>
            have hoi : ops[i]? = some ops[i] := Array.getElem?_eq_getElem hil
            have : i ∈ Region.ready .any ops listed := mem_ready.2 ⟨hli, ops[i], hoi, fun e he hb => by
              have h1 := (planOK_spec hok hoi).1 e he hb
              have h2 := ih e.on h1 (by omega)
              have h3 : e.on < listed.size := by omega
              simpa [h3] using h2⟩
            rw [hr] at this; cases this
    have hl : ∀ i, i < ops.size → listed.getD i false = true := fun i hi => by
      have := hall (i + 1) i (by omega) hi
      have h3 : i < listed.size := by omega
      simpa [h3] using this
    have he := hend (fun d => a.tmps.getD d undef) w hp.s (ends_of _ 0 (fun i o d hi hd => by
      have hi' : ops[i]? = some o := by simpa using hi
      rw [Nat.zero_add]
      exact hp.told i d (hl i (Array.getElem?_eq_some_iff.1 hi').1) (by simp [dstAt, hi', hd])))
    have ha : a = ⟨setAll (fun d => a.tmps.getD d undef) a0.tmps ops.toList, a0.defers⟩ := by
      have hd := hp.defs
      obtain ⟨t, df⟩ := a
      simp only at hd
      subst hd
      congr 1
      refine Array.ext (by rw [setAll_size]; exact hp.size) fun s h1 h2 => ?_
      have e1 : t[s] = t.getD s undef := by simp [h1]
      have e2 : (setAll (fun d => t.getD d undef) a0.tmps ops.toList)[s] = (setAll (fun d => t.getD d undef) a0.tmps ops.toList).getD s undef := by rw [Array.getD_eq_getD_getElem?, Array.getElem?_eq_getElem h2]; rfl
      rw [e1, e2]
      by_cases hs : ∃ o ∈ ops.toList, o.dst = some s
      · rw [setAll_at _ s _ _ (by rw [← hp.size]; exact h1) hs]
      · rw [setAll_far _ s _ _ (fun o ho e => hs ⟨o, ho, e⟩)]
        refine hp.far s fun k hk => ?_
        exfalso
        unfold dstAt at hk
        cases hok : ops[k]? with
        | none => simp [hok] at hk
        | some o => exact hs ⟨o, by simpa using Array.mem_of_getElem? hok, by simpa [hok] using hk⟩
    rw [ha]
    exact he
  intro fuel
  induction fuel with
  | zero =>
    intro listed a w hls hf hp
    have hr : Region.ready .any ops listed = [] := by
      cases hr : Region.ready .any ops listed with
      | nil => rfl
      | cons i r =>
        have hm : i ∈ Region.ready .any ops listed := by rw [hr]; simp
        obtain ⟨h1, o, ho, _⟩ := mem_ready.1 hm
        have : i ∈ (List.range ops.size).filter fun i => !listed.getD i true := List.mem_filter.2 ⟨List.mem_range.2 (Array.getElem?_eq_some_iff.1 ho).1, by rw [h1]; rfl⟩
        have := List.length_pos_of_mem this
        omega
    exact ⟨hr, hdone listed a w hls hr hp⟩
  | succ fuel ih =>
    intro listed a w hls hf hp
    refine ⟨fun hr => hdone listed a w hls hr hp, fun i hi => ?_⟩
    obtain ⟨h1, o, ho, hall⟩ := mem_ready.1 hi
    have hil : i < ops.size := (Array.getElem?_eq_some_iff.1 ho).1
    have hst := StepsAll.nth _ _ hsteps i o (by simpa using ho)
    rw [Nat.zero_add] at hst
    have hneeds : ∀ j d, needs ops o j d = true → (Φ.getD j fun _ _ => True) (a.tmps.getD d undef) w := by
      intro j d hj
      unfold needs at hj
      rw [Bool.and_eq_true, List.any_eq_true] at hj
      obtain ⟨⟨e, he, heq⟩, hd⟩ := hj
      rw [Bool.and_eq_true] at heq
      have hej : e.on = j := by simpa using heq.2
      exact hp.told j d (by rw [← hej]; exact hall e (by simpa using he) heq.1) (by simpa using hd)
    have hfilter : ((List.range ops.size).filter fun k => !(listed.setIfInBounds i true).getD k true).length ≤ fuel := by
      have hlt : ((List.range ops.size).filter fun k => !(listed.setIfInBounds i true).getD k true).length < ((List.range ops.size).filter fun k => !listed.getD k true).length := by
        have e : ((List.range ops.size).filter fun k => !(listed.setIfInBounds i true).getD k true) = ((List.range ops.size).filter fun k => !listed.getD k true).filter fun k => k != i := by
          rw [List.filter_filter]
          refine List.filter_congr fun k hk => ?_
          by_cases hki : k = i
          · subst hki
            have : k < listed.size := by omega
            simp [this]
          · rw [getD_set_ne true (Ne.symm hki)]
            simp [hki]
        rw [e]
        refine List.length_filter_lt_length_iff_exists.2 ⟨i, List.mem_filter.2 ⟨List.mem_range.2 hil, by rw [h1]; rfl⟩, by simp⟩
      omega
    have hnext : ∀ v w', S w' → R w w' → (Φ.getD i fun _ _ => True) v w' → PlanAt ops S Φ a0 (listed.setIfInBounds i true) (a.put o.dst v) w' := by
      intro v w' hS hRw hv
      refine ⟨by rw [put_size]; exact hp.size, by rw [put_defs]; exact hp.defs, hS, fun s hs => ?_, fun k ok hk hok e he hb => ?_, fun j d hj hd => ?_⟩
      · have hil2 : i < listed.size := by omega
        have hne : o.dst ≠ some s := fun e => by
          have := hs i (by simp [dstAt, ho, e])
          simp [hil2] at this
        rw [put_getD_far hne]
        refine hp.far s fun k hk => ?_
        have hki : k ≠ i := fun e => hne (by rw [e] at hk; simpa [dstAt, ho] using hk)
        have := hs k hk
        rwa [getD_set_ne false (Ne.symm hki)] at this
      · refine getD_set_true ?_
        by_cases hki : k = i
        · subst hki
          rw [ho] at hok
          injection hok with hok
          subst hok
          exact hall e he hb
        · rw [getD_set_ne false (Ne.symm hki)] at hk
          exact hp.closed k ok hk hok e he hb
      · by_cases hji : j = i
        · subst hji
          have hd' : o.dst = some d := by simpa [dstAt, ho] using hd
          rw [hd', put_getD_at (by rw [hp.size, hn]; exact (planOK_spec hok ho).2.1 d hd')]
          exact hv
        · rw [getD_set_ne false (Ne.symm hji)] at hj
          have hne : o.dst ≠ some d := fun e => hji ((planOK_spec hok ho).2.2 j d e hd)
          rw [put_getD_far hne]
          exact hR j _ _ _ hp.s hS hRw (hp.told j d hj hd)
    have hfree : ∀ s, freeFor ops i s = true → a.tmps.getD s undef = a0.tmps.getD s undef := fun s hs => hp.far s fun k hk => by
      cases hlk : listed.getD k false with
      | false => rfl
      | true =>
        exfalso
        have hkl : ∃ ok, ops[k]? = some ok ∧ ok.dst = some s := by
          unfold dstAt at hk
          cases hok : ops[k]? with
          | none => simp [hok] at hk
          | some ok => exact ⟨ok, rfl, by simpa [hok] using hk⟩
        obtain ⟨ok, hok, hdk⟩ := hkl
        obtain ⟨e, he, hb, heq⟩ := freeFor_spec hs hok hdk
        have := hp.closed k ok hlk hok e he hb
        rw [heq] at this
        have hil2 : i < listed.size := by omega
        simp [hil2] at h1 this
        rw [h1] at this; cases this
    have hstep := hst a w hp.s (ExtFor.of E hE hfree) hneeds
    unfold wpOp
    simp only [ho]
    have hlsz : (listed.setIfInBounds i true).size = ops.size := by simp [hls]
    split
    · rename_i hw
      rw [if_pos hw] at hstep
      refine .inl (Oper.wp_mono (fun a' w' h => ?_) hstep)
      obtain ⟨v, rfl, hS, hRw, hv⟩ := h
      exact ih _ _ _ hlsz hfilter (hnext v w' hS hRw hv)
    · rename_i hw
      rw [if_neg hw] at hstep
      exact ih _ _ _ hlsz hfilter (hnext undef w hp.s (hRr w) hstep)
/-- **a region that draws its order**: whatever order is drawn. -/
theorem wp_region_plan {id n : Nat} (S : World → Prop) (R : World → World → Prop) (Φ : List (Value → World → Prop)) (E : List (Nat × Value)) {a0 : Act} {w : World} (hE : ExtAll a0 E) (hm : P.follows .mixedOrders = true) (hn : a0.tmps.size = n) (hok : planOK ops n = true)
    (hS : S w.drew) (hRr : ∀ w, R w w)
    (hR : ∀ j v w w', S w → S w' → R w w' → (Φ.getD j fun _ _ => True) v w → (Φ.getD j fun _ _ => True) v w') (hsteps : StepsAll P ops Q S R Φ E 0 ops.toList)
    (hend : ∀ (f : Nat → Value) w, S w → Ends Φ f w 0 ops.toList → Q .normal ⟨setAll f a0.tmps ops.toList, a0.defers⟩ w) : (Code.region id ops true).wp P Q a0 w := by
  refine wp_region_any hm (plan_any hE hn hok hRr hR hsteps hend ops.size _ a0 w.drew (by simp) ?_ ⟨rfl, rfl, hS, fun _ _ => rfl, fun k o hk => ?_, fun i d hi => ?_⟩)
  · have := List.length_filter_le (fun i => !(Array.replicate ops.size false).getD i true) (List.range ops.size)
    rwa [List.length_range] at this
  · exfalso
    by_cases h : k < ops.size
    · simp [h] at hk
    · simp [h] at hk
  · exfalso
    by_cases h : i < ops.size
    · simp [h] at hi
    · simp [h] at hi
theorem Ends.get {Φ : List (Value → World → Prop)} {f : Nat → Value} {w : World} : ∀ {l : List Oper} {n : Nat}, Ends Φ f w n l → ∀ (i : Nat) (o : Oper), l[i]? = some o → ∀ d, o.dst = some d → (Φ.getD (n + i) fun _ _ => True) (f d) w
  | [], _, _, i, o, hi, _, _ => by simp at hi
  | x :: l, n, h, 0, o, hi, d, hd => by
    injection hi with hi; subst hi; exact h.1 d hd
  | x :: l, n, h, i + 1, o, hi, d, hd => by
    have := Ends.get h.2 i o (by simpa using hi) d hd
    rwa [show n + (i + 1) = n + 1 + i by omega]
/-- what is told of a value does not fall. -/
def StabAll (S : World → Prop) (R : World → World → Prop) : List (Value → World → Prop) → Prop
  | [] => True
  | φ :: r => (∀ v w w', S w → S w' → R w w' → φ v w → φ v w') ∧ StabAll S R r
theorem StabAll.get {S : World → Prop} {R : World → World → Prop} : ∀ {Φ : List (Value → World → Prop)}, StabAll S R Φ → ∀ j v w w', S w → S w' → R w w' → (Φ.getD j fun _ _ => True) v w → (Φ.getD j fun _ _ => True) v w'
  | [], _, j, v, w, w', _, _, _, h => by simp
  | φ :: r, hs, 0, v, w, w', h1, h2, h3, h => hs.1 v w w' h1 h2 h3 h
  | φ :: r, hs, j + 1, v, w, w', h1, h2, h3, h => StabAll.get hs.2 j v w w' h1 h2 h3 h
def IsV (c : Value) : Value → World → Prop := fun v _ => v = c
theorem isv {c : Value} {w : World} : IsV c c w := rfl
theorem yielded_of {ops : Array Oper} {a : Act} {j d : Nat} {b : Bool} (hd : dstAt ops j = some d) (h : a.tmps.getD d undef = .bool b) : yielded ops a.tmps j = some b := by
  unfold yielded
  unfold dstAt at hd
  rw [hd]
  have h2 : a.tmps[d]? = some (.bool b) := by
    rcases Nat.lt_or_ge d a.tmps.size with hl | hl
    · simp [hl] at h ⊢; exact h
    · simp [Array.getElem?_eq_none hl] at h; cases h
  simp [h2]
theorem plan_free {o : Oper} {y : Nat → Option Bool} {A B : Prop} (hg : o.guard = none) (h : A) : if Region.wanted o y = true then A else B := by
  rw [if_pos (by unfold Region.wanted; rw [hg])]; exact h
theorem plan_want {o : Oper} {ops : Array Oper} {a : Act} {j d : Nat} {b : Bool} {A B : Prop} (hg : o.guard = some (j, b)) (hd : dstAt ops j = some d) (hv : a.tmps.getD d undef = .bool b) (h : A) :
    if Region.wanted o (yielded ops a.tmps) = true then A else B := by
  have e : Region.wanted o (yielded ops a.tmps) = (yielded ops a.tmps j == some b) := by unfold Region.wanted; rw [hg]
  rw [if_pos (by rw [e, yielded_of hd hv]; simp)]; exact h
theorem plan_skip {o : Oper} {ops : Array Oper} {a : Act} {j d : Nat} {b c : Bool} {A B : Prop} (hg : o.guard = some (j, b)) (hd : dstAt ops j = some d) (hv : a.tmps.getD d undef = .bool c) (hne : (c == b) = false) (h : B) :
    if Region.wanted o (yielded ops a.tmps) = true then A else B := by
  have e : Region.wanted o (yielded ops a.tmps) = (yielded ops a.tmps j == some b) := by unfold Region.wanted; rw [hg]
  rw [if_neg (by rw [e, yielded_of hd hv]; simpa using hne)]; exact h
theorem plan_value {o : Oper} {a : Act} {w w' : World} {K : Act → World → Prop} {v : Value} (h : (execOp a.eval o).run P w = .ok (.value v) w') (hk : K (a.put o.dst v) w') : o.wp P a w K Q := by
  unfold Oper.wp; rw [h]; exact hk
theorem plan_call {o : Oper} {a : Act} {w : World} {K : Act → World → Prop} {f : FuncId} {args : Array Value} (h : (execOp a.eval o).run P w = .ok (.enter f args) w)
    (hc : Calls P f args w fun e w'' => ∃ v, e = .returned v ∧ K (a.put o.dst v) w'') : o.wp P a w K Q := by
  unfold Oper.wp; rw [h]
  refine hc.mono fun e w'' he => ?_
  obtain ⟨v, rfl, hk⟩ := he
  exact hk
end Go.Proofs.Ytmddbpkojboogaa
