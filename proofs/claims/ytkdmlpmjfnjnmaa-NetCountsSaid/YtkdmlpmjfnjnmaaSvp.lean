import Derived.Test.YtkdmlpmjfnjnmaaSvo
/-! a region that draws its order: what the look at it says. -/
namespace Go.Proofs.Ytkdmlpmjfnjnmaa.Sv
open Go Go.RowKit
set_option linter.unusedVariables false
set_option linter.unusedSimpArgs false
variable {P : Program} {ρ : Ctx} {ops : Array Oper}

/-- operation j stands ahead of operation i. -/
inductive Anc (ops : Array Oper) : Nat → Nat → Prop
  | direct (i : Nat) (o : Oper) (e : Edge) (ho : ops[i]? = some o) (he : e ∈ o.after) (hb : Region.binds .any e = true) : Anc ops e.on i
  | trans (j k i : Nat) (h : Anc ops j k) (h' : Anc ops k i) : Anc ops j i
def Closed (ops : Array Oper) (S : Nat → Prop) : Prop := ∀ i o, S i → ops[i]? = some o → ∀ e ∈ o.after, Region.binds .any e = true → S e.on
theorem Closed.anc {S : Nat → Prop} (h : Closed ops S) {j i : Nat} (ha : Anc ops j i) : S i → S j := by
  induction ha with
  | direct i o e ho he hb => exact fun hi => h i o hi ho e he hb
  | trans j k i _ _ ih1 ih2 => exact fun hi => ih1 (ih2 hi)

theorem bit_or (a b j : Nat) : bit (a ||| b) j = (bit a j || bit b j) := Nat.testBit_or ..
theorem bit_pow (i j : Nat) : bit (2 ^ i) j = decide (i = j) := by
  unfold bit
  by_cases h : i = j
  · subst h; simp
  · rw [Nat.testBit_two_pow_of_ne h]; simp [h]
theorem bit_add {dn i j : Nat} : bit (dn ||| 2 ^ i) j = true ↔ bit dn j = true ∨ j = i := by
  rw [bit_or, bit_pow, Bool.or_eq_true, decide_eq_true_eq]
  exact ⟨fun h => h.imp id Eq.symm, fun h => h.imp id Eq.symm⟩
theorem foldl_bits : ∀ (l : List Edge) (s j : Nat), bit (l.foldl (fun s e => cond (Region.binds .any e) (s ||| 2 ^ e.on) s) s) j = true ↔ bit s j = true ∨ ∃ e ∈ l, Region.binds .any e = true ∧ e.on = j
  | [], s, j => by simp
  | e :: l, s, j => by
    rw [List.foldl_cons, foldl_bits l]
    cases hb : Region.binds .any e with
    | true =>
      simp only [cond_true, bit_add]
      constructor
      · rintro ((h | h) | ⟨e', he, h⟩)
        · exact .inl h
        · exact .inr ⟨e, by simp, hb, h.symm⟩
        · exact .inr ⟨e', by simp [he], h⟩
      · rintro (h | ⟨e', he, h1, h2⟩)
        · exact .inl (.inl h)
        · rcases List.mem_cons.1 he with rfl | he
          · exact .inl (.inr h2.symm)
          · exact .inr ⟨e', he, h1, h2⟩
    | false =>
      simp only [cond_false]
      constructor
      · rintro (h | ⟨e', he, h⟩)
        · exact .inl h
        · exact .inr ⟨e', by simp [he], h⟩
      · rintro (h | ⟨e', he, h1, h2⟩)
        · exact .inl h
        · rcases List.mem_cons.1 he with rfl | he
          · rw [hb] at h1; cases h1
          · exact .inr ⟨e', he, h1, h2⟩
theorem direct_bit (o : Oper) (j : Nat) : bit (direct o) j = true ↔ ∃ e ∈ o.after, Region.binds .any e = true ∧ e.on = j := by
  unfold direct
  rw [foldl_bits]
  have : bit 0 j = false := Nat.zero_testBit j
  rw [this]
  simp
theorem ready_iff (o : Oper) (dn : Nat) : Nat.beq (direct o &&& dn) (direct o) = true ↔ ∀ e ∈ o.after, Region.binds .any e = true → bit dn e.on = true := by
  rw [beq_iff']
  constructor
  · intro h e he hb
    have h1 : bit (direct o) e.on = true := (direct_bit o e.on).2 ⟨e, he, hb, rfl⟩
    rw [← h] at h1
    unfold bit at h1 ⊢
    rw [Nat.testBit_and, Bool.and_eq_true] at h1
    exact h1.2
  · intro h
    apply Nat.eq_of_testBit_eq
    intro j
    rw [Nat.testBit_and]
    cases hj : (direct o).testBit j with
    | false => rfl
    | true =>
      obtain ⟨e, he, hb, rfl⟩ := (direct_bit o j).1 hj
      have := h e he hb
      unfold bit at this
      rw [this]; rfl
theorem foldl_close (acc : List Nat) : ∀ (l : List Edge) (s j : Nat), bit (l.foldl (fun s e => cond (Region.binds .any e) (s ||| 2 ^ e.on ||| acc.getD e.on 0) s) s) j = true → bit s j = true ∨ ∃ e ∈ l, Region.binds .any e = true ∧ (e.on = j ∨ bit (acc.getD e.on 0) j = true)
  | [], s, j, h => .inl h
  | e :: l, s, j, h => by
    rw [List.foldl_cons] at h
    rcases foldl_close acc l _ j h with h | ⟨e', he, h1, h2⟩
    · cases hb : Region.binds .any e with
      | true =>
        rw [hb, cond_true, bit_or, Bool.or_eq_true, bit_add] at h
        rcases h with (h | h) | h
        · exact .inl h
        · exact .inr ⟨e, by simp, hb, .inl h.symm⟩
        · exact .inr ⟨e, by simp, hb, .inr h⟩
      | false =>
        rw [hb, cond_false] at h
        exact .inl h
    · exact .inr ⟨e', by simp [he], h1, h2⟩
theorem closures_anc : ∀ (l : List Oper) (acc : List Nat), l = ops.toList.drop acc.length → (∀ k j, bit (acc.getD k 0) j = true → Anc ops j k) → ∀ k j, bit ((closures l acc).getD k 0) j = true → Anc ops j k
  | [], acc, _, h => h
  | o :: l, acc, hl, h => by
    unfold closures
    have ho : ops[acc.length]? = some o := by
      have : (ops.toList.drop acc.length).head? = some o := by rw [← hl]; rfl
      rw [List.head?_drop] at this
      simpa using this
    refine closures_anc l _ ?_ ?_
    · have : ops.toList.drop (acc.length + 1) = l := by rw [← List.drop_drop, ← hl]; rfl
      simp [this]
    · intro k j hb
      by_cases hk : k < acc.length
      · have : (acc ++ [closeM acc o]).getD k 0 = acc.getD k 0 := by simp [List.getElem?_append_left hk]
        rw [this] at hb
        exact h k j hb
      · by_cases hk2 : k = acc.length
        · subst hk2
          have : (acc ++ [closeM acc o]).getD acc.length 0 = closeM acc o := by simp
          rw [this] at hb
          unfold closeM at hb
          rcases foldl_close acc _ 0 j hb with hb | ⟨e, he, h1, h2⟩
          · have : bit 0 j = false := Nat.zero_testBit j
            rw [this] at hb; cases hb
          · have hd := Anc.direct acc.length o e ho (by simpa using he) h1
            rcases h2 with rfl | h2
            · exact hd
            · exact .trans _ _ _ (h _ _ h2) hd
        · have : (acc ++ [closeM acc o]).getD k 0 = 0 := by
            have : (acc ++ [closeM acc o]).length ≤ k := by simp; omega
            simp [List.getElem?_eq_none this]
          rw [this] at hb
          have h0 : bit 0 j = false := Nat.zero_testBit j
          rw [h0] at hb; cases hb
theorem idxs_mem {α : Type} : ∀ (l : List α) (k i : Nat) (a : α), (i, a) ∈ idxs l k ↔ k ≤ i ∧ l[i - k]? = some a
  | [], k, i, a => by simp [idxs]
  | b :: l, k, i, a => by
    unfold idxs
    rw [List.mem_cons, idxs_mem l (k + 1) i a]
    constructor
    · rintro (h | ⟨h1, h2⟩)
      · cases h; simp
      · refine ⟨by omega, ?_⟩
        rw [show i - k = (i - (k + 1)) + 1 by omega]
        simpa using h2
    · rintro ⟨h1, h2⟩
      by_cases hik : i = k
      · subst hik
        simp at h2
        exact .inl (by rw [h2])
      · refine .inr ⟨by omega, ?_⟩
        rw [show i - k = (i - (k + 1)) + 1 by omega] at h2
        simpa using h2
theorem io_mem {i : Nat} {o : Oper} : (i, o) ∈ idxs ops.toList 0 ↔ ops[i]? = some o := by
  rw [idxs_mem]; simp

/-- what the look at a region says. -/
structure Clear (ops : Array Oper) (cl : List Nat) : Prop where
  lt : ∀ (i : Nat) (o : Oper) (e : Edge), ops[i]? = some o → e ∈ o.after → Region.binds .any e = true → e.on < i
  cl : ∀ k j, bit (cl.getD k 0) j = true → Anc ops j k
  guard : ∀ (i : Nat) (o : Oper) (j : Nat) (want : Bool), ops[i]? = some o → o.guard = some (j, want) → Anc ops j i
  one : ∀ (i : Nat) (o : Oper) (k : Nat) (q : Oper) (d : Nat), ops[i]? = some o → ops[k]? = some q → o.dst = some d → q.dst = some d → k = i
  seen : ∀ (i : Nat) (o : Oper) (k : Nat) (q : Oper) (d : Nat), ops[i]? = some o → ops[k]? = some q → q.dst = some d → d ∈ tmpsOf ops.toList o → Anc ops k i ∨ Anc ops i k
theorem has_mem {l : List Nat} {n : Nat} : has l n = true ↔ n ∈ l := by
  rw [has_eq]; simp
theorem clear_of (h : drawOK ops.toList = true) : Clear ops (closures ops.toList []) := by
  have hcl : ∀ k j, bit ((closures ops.toList []).getD k 0) j = true → Anc ops j k := closures_anc ops.toList [] (by simp) (fun k j hb => by
    have h0 : bit (([] : List Nat).getD k 0) j = false := Nat.zero_testBit j
    rw [h0] at hb; cases hb)
  unfold drawOK at h
  have hall := fun i o (ho : ops[i]? = some o) => allB_mem h (i, o) (io_mem.2 ho)
  simp only [Bool.and_eq_true] at hall
  have h3 : ∀ (i : Nat) (o : Oper) (k : Nat) (q : Oper) (d : Nat), ops[i]? = some o → ops[k]? = some q → q.dst = some d → k = i ∨ (o.dst ≠ some d ∧ (d ∉ tmpsOf ops.toList o ∨ Anc ops k i ∨ Anc ops i k)) := by
    intro i o k q d ho hq hd
    have h1 := allB_mem (hall i o ho).1.2 (k, q) (io_mem.2 hq)
    simp only [hd, Bool.or_eq_true, Bool.and_eq_true, Bool.not_eq_true'] at h1
    rcases h1 with h1 | ⟨h1, h2⟩
    · exact .inl (beq_iff'.1 h1)
    · refine .inr ⟨?_, ?_⟩
      · intro he
        rw [he] at h1
        simp at h1
      · rcases h2 with (h2 | h2) | h2
        · left
          intro hm
          rw [has_mem.2 hm] at h2; cases h2
        · exact .inr (.inl (hcl _ _ h2))
        · exact .inr (.inr (hcl _ _ h2))
  refine ⟨fun i o e ho he hb => ?_, hcl, fun i o j want ho hg => ?_, fun i o k q d ho hq hd hd' => ?_, fun i o k q d ho hq hd hm => ?_⟩
  · have h1 := allB_mem (hall i o ho).1.1.1 e (by simpa using he)
    rw [hb] at h1
    exact blt' (by simpa using h1)
  · have h1 := (hall i o ho).1.1.2
    rw [hg] at h1
    exact hcl _ _ h1
  · rcases h3 i o k q d ho hq hd' with h | ⟨h, _⟩
    · exact h
    · exact absurd hd h
  · rcases h3 i o k q d ho hq hd with h | ⟨_, h⟩
    · subst h
      rw [ho] at hq; cases hq
      have h4 := (hall k o ho).2
      rw [hd] at h4
      simp only [Bool.not_eq_true'] at h4
      rw [has_mem.2 hm] at h4; cases h4
    · rcases h with h | h
      · exact absurd hm h
      · exact h

theorem pickV_some {dn : Nat} {tmps : List AV} : ∀ {l : List (Nat × Oper)} {i : Nat} {o : Oper} {b : Bool}, pickV P ops dn tmps l = some (i, o, b) →
    (i, o) ∈ l ∧ bit dn i = false ∧ (∀ e ∈ o.after, Region.binds .any e = true → bit dn e.on = true) ∧ wantedA ops tmps o = some b ∧ (b = true → kind P o = 0)
  | [], i, o, b, h => by cases h
  | (k, q) :: r, i, o, b, h => by
    unfold pickV at h
    have hrec : pickV P ops dn tmps r = some (i, o, b) → (i, o) ∈ (k, q) :: r ∧ bit dn i = false ∧ (∀ e ∈ o.after, Region.binds .any e = true → bit dn e.on = true) ∧ wantedA ops tmps o = some b ∧ (b = true → kind P o = 0) := fun h => by
      obtain ⟨h1, h2⟩ := pickV_some h
      exact ⟨by simp [h1], h2⟩
    rcases cond_split (p := fun z => z = some (i, o, b)) h with ⟨_, h⟩ | ⟨hb, h⟩
    · exact hrec h
    · rcases cond_split (p := fun z => z = some (i, o, b)) h with ⟨hr, h⟩ | ⟨_, h⟩
      · have hr := (ready_iff q dn).1 hr
        split at h
        · rename_i hw
          simp at h
          obtain ⟨rfl, rfl, rfl⟩ := h
          exact ⟨by simp, hb, hr, hw, fun h => by cases h⟩
        · rename_i hw
          split at h
          · rename_i hk
            simp at h
            obtain ⟨rfl, rfl, rfl⟩ := h
            exact ⟨by simp, hb, hr, hw, fun _ => hk⟩
          · exact hrec h
        · exact hrec h
      · exact hrec h
theorem pickE_some {dn : Nat} : ∀ {l : List (Nat × Oper)} {i : Nat} {o : Oper}, pickE dn l = some (i, o) → (i, o) ∈ l ∧ bit dn i = false ∧ (∀ e ∈ o.after, Region.binds .any e = true → bit dn e.on = true)
  | [], i, o, h => by cases h
  | (k, q) :: r, i, o, h => by
    unfold pickE at h
    have hrec : pickE dn r = some (i, o) → (i, o) ∈ (k, q) :: r ∧ bit dn i = false ∧ (∀ e ∈ o.after, Region.binds .any e = true → bit dn e.on = true) := fun h => by
      obtain ⟨h1, h2⟩ := pickE_some h
      exact ⟨by simp [h1], h2⟩
    rcases cond_split (p := fun z => z = some (i, o)) h with ⟨_, h⟩ | ⟨hb, h⟩
    · exact hrec h
    · rcases cond_split (p := fun z => z = some (i, o)) h with ⟨hr, h⟩ | ⟨_, h⟩
      · simp at h
        obtain ⟨rfl, rfl⟩ := h
        exact ⟨by simp, hb, (ready_iff _ dn).1 hr⟩
      · exact hrec h
theorem pickE_none {dn : Nat} : ∀ {l : List (Nat × Oper)}, pickE dn l = none → ∀ i o, (i, o) ∈ l → bit dn i = false → ¬ ∀ e ∈ o.after, Region.binds .any e = true → bit dn e.on = true
  | [], _, i, o, h => by cases h
  | (k, q) :: r, h, i, o, hm => by
    unfold pickE at h
    intro hb hr
    rcases cond_split (p := fun z => z = none) h with ⟨hd, h⟩ | ⟨_, h⟩
    · rcases List.mem_cons.1 hm with he | hm
      · cases he; rw [hd] at hb; cases hb
      · exact pickE_none h i o hm hb hr
    · rcases cond_split (p := fun z => z = none) h with ⟨_, h⟩ | ⟨hn, h⟩
      · cases h
      · rcases List.mem_cons.1 hm with he | hm
        · cases he
          rw [(ready_iff _ dn).2 hr] at hn; cases hn
        · exact pickE_none h i o hm hb hr
theorem again_mem {H : AH} {anc : Nat} : ∀ {rs : List Rec} {K : Bool}, again P H anc rs K = true → K = true ∧ ∀ q ∈ rs, bit anc q.i = false → (evR P H q.tmps q.o fun x => x.beq q.res) = true
  | [], K, h => ⟨h, fun q hq => by cases hq⟩
  | r :: rs, K, h => by
    unfold again at h
    rcases cond_split (p := fun z => z = true) h with ⟨ha, h⟩ | ⟨_, h⟩
    · obtain ⟨h1, h2⟩ := again_mem h
      refine ⟨h1, fun q hq hb => ?_⟩
      rcases List.mem_cons.1 hq with rfl | hq
      · rw [ha] at hb; cases hb
      · exact h2 q hq hb
    · obtain ⟨x, hx, hpl, hdet⟩ := t1_evR _ h
      obtain ⟨e, h⟩ := resK_sound hx
      obtain ⟨h1, h2⟩ := again_mem h
      refine ⟨h1, fun q hq hb => ?_⟩
      rcases List.mem_cons.1 hq with rfl | hq
      · subst e
        exact hdet (fun x => x.beq _) (res_self hpl)
      · exact h2 q hq hb
theorem aget_nil (n : Nat) : aget [] n = .tuple [] := by rw [aget_eq]; rfl
theorem aget_zero (a : AV) (r : List AV) : aget (a :: r) 0 = a := by rw [aget_eq]; rfl
theorem aget_succ (a : AV) (r : List AV) (n : Nat) : aget (a :: r) (n + 1) = aget r n := by rw [aget_eq, aget_eq]; rfl
theorem aget_set (l : List AV) (n m : Nat) (v : AV) : aget (l.set n v) m = if m = n then (if n < l.length then v else .tuple []) else aget l m := by
  induction l generalizing n m with
  | nil => cases n <;> cases m <;> simp [aget_nil]
  | cons a r ih =>
    cases n with
    | zero => cases m <;> simp [aget_zero, aget_succ]
    | succ n =>
      cases m with
      | zero => simp [aget_zero]
      | succ m =>
        simp only [List.set_cons_succ, aget_succ, ih, List.length_cons]
        by_cases h : m = n <;> simp [h]
end Go.Proofs.Ytkdmlpmjfnjnmaa.Sv
