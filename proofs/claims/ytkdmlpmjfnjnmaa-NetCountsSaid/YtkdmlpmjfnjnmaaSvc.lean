import Derived.Test.YtkdmlpmjfnjnmaaSvb
/-! how abstract memory stands to memory: the relation, and what is made and written. -/
namespace Go.Proofs.Ytkdmlpmjfnjnmaa.Sv
open Go Go.RowKit

def stOf : LoopState → Nat
  | .ready => 0
  | .busy => 1
  | .done => 2
  | .exhausted => 3
section
variable (ρ : Ctx) (E : Env)
inductive ERs : List Ent → List MapEntry → Prop
  | nil : ERs [] []
  | cons (e : Ent) (m : MapEntry) (l : List Ent) (r : List MapEntry) (hk : VR ρ E e.key m.key) (hv : VR ρ E e.val m.val) (hb : e.born = m.born) (t : ERs l r) : ERs (e :: l) (m :: r)
/-- a block, as it is. -/
def BR (r : RB) : Blk → Option Obj → Prop
  | .cells _ g cs, o => ∃ (c : Array Value) (elem : TypeId) (fr : Nat × Nat), o = some (.cells c elem fr) ∧ c.size = r.size ∧ (fr = (0, 0) ∨ fr = (c.size, c.size + 1)) ∧ cs.length ≤ c.size ∧ VRs ρ E cs (c.toList.take cs.length) ∧
      (∀ z, g = some z → r.esz = z)
  | .map _ es clock, o => ∃ entries : Array MapEntry, o = some (.map entries clock) ∧ ERs ρ E es entries.toList
  | .iter _ m since seen st, o => ∃ m' : Option Nat, o = some (.mapIter m' since seen.toArray st) ∧ (m = none → m' = none) ∧ ∀ b, m = some b → ∃ r, E b = some r ∧ m' = some r.blk
  | .loop _ st pend tmps ps as bd, o => ∃ l : Loop, o = some (.loop l) ∧ stOf l.state = st ∧ l.pending = pend ∧ VRs ρ E tmps l.tmps.toList ∧ l.params.toList = ps ∧ l.assign = as ∧ l.body = bd
  | .dead, _ => True
  | .seq _ z n f, o => ∃ (c : Array Value) (elem : TypeId) (fr : Nat × Nat), o = some (.cells c elem fr) ∧ c.size = r.size ∧ (fr = (0, 0) ∨ fr = (c.size, c.size + 1)) ∧ n * z ≤ c.size ∧ r.esz = z ∧ 0 < z ∧ (∀ i, i < n → (f i).length = z) ∧
      ∀ i, i < n → VRs ρ E (f i) ((c.toList.drop (i * z)).take z)
structure Rel (H : AH) (w : World) : Prop where
  dom : ∀ b r, E b = some r → b < H.next
  blk : ∀ b r, E b = some r → r.blk < w.heap.size ∧ ∃ k, H.tr.get b = some k ∧ BR ρ E r k w.heap[r.blk]?
  inj : ∀ b b' r r' c c', E b = some r → E b' = some r' → r.blk = r'.blk → H.clsOf b = some c → H.clsOf b' = some c' → c = c'
  mem : ∀ b r c, E b = some r → H.clsOf b = some c → (E c).isSome = true ∧ ∃ l, H.mem.get c = some l ∧ b ∈ l ∧ ∀ j ∈ l, (E j).isSome = true
  dat : ∀ i o, (E.all ρ).dat i = some o → w.heap[i]? = some o ∧ ∀ b r c, E b = some r → H.clsOf b = some c → r.blk ≠ i
end
theorem Rel.dat_lt {ρ : Ctx} {E : Env} {H : AH} {w : World} (h : Rel ρ E H w) {i : Nat} {o : Obj} (hd : (E.all ρ).dat i = some o) : i < w.heap.size := (Array.getElem?_eq_some_iff.1 (h.dat i o hd).1).1
/-- memory behind some steps. -/
structure Ext (E : Env) (H : AH) (w : World) (E' : Env) (H' : AH) (w' : World) : Prop where
  le : E.le E'
  ice : ∀ i q, E'.fro i = some q → E.fro i = some q ∨ w.heap.size ≤ i ∨ ∃ b r, E b = some r ∧ r.blk = i
  os : w'.os = w.os
  tape : w'.tape = w.tape
  output : w'.output = w.output
  size : w.heap.size ≤ w'.heap.size
  old : ∀ i, i < w.heap.size → (∀ b r, E b = some r → r.blk ≠ i) → w'.heap[i]? = w.heap[i]?
  fresh : ∀ b r, E' b = some r → E b = none → H.next ≤ b ∧ (w.heap.size ≤ r.blk ∨ ∃ b0 r0, E b0 = some r0 ∧ r0.blk = r.blk)
  next : H.next ≤ H'.next
  ghost : ∀ b, b < H.next → E b = none → (∀ c z n f, H.tr.get b ≠ some (.seq c z n f)) → H'.tr.get b = H.tr.get b ∧ H'.mem.get b = H.mem.get b
variable {ρ : Ctx} {E E' E'' : Env} {H H' H'' : AH} {w w' w'' : World}
theorem Ext.refl : Ext E H w E H w := ⟨.rfl', fun _ _ h => .inl h, rfl, rfl, rfl, Nat.le_refl _, fun _ _ _ => rfl, fun b r h h' => by rw [h'] at h; (cases h), Nat.le_refl _, fun _ _ _ _ => ⟨rfl, rfl⟩⟩
theorem Ext.trans (h : Ext E H w E' H' w') (k : Ext E' H' w' E'' H'' w'') : Ext E H w E'' H'' w'' where
  le := h.le.trans' k.le
  ice i q h2 := by
    rcases k.ice i q h2 with h' | h' | ⟨b, r, hb, e⟩
    · exact h.ice i q h'
    · exact .inr (.inl (Nat.le_trans h.size h'))
    · cases he : E b with
      | some r0 =>
        have := h.le _ _ he
        rw [hb] at this; cases this
        exact .inr (.inr ⟨b, r, he, e⟩)
      | none =>
        rcases (h.fresh b r hb he).2 with hx | ⟨b0, r0, h0, e0⟩
        · exact .inr (.inl (by omega))
        · exact .inr (.inr ⟨b0, r0, h0, e0.trans e⟩)
  os := k.os.trans h.os
  tape := k.tape.trans h.tape
  output := k.output.trans h.output
  size := Nat.le_trans h.size k.size
  old i hi hb := by
    rw [k.old i (by have := h.size; omega) fun b r hr => ?_, h.old i hi hb]
    cases he : E b with
    | some r0 =>
      have := h.le _ _ he
      rw [hr] at this; cases this
      exact hb b r he
    | none =>
      rcases (h.fresh b r hr he).2 with hx | ⟨b0, r0, h0, e⟩
      · omega
      · rw [← e]; exact hb b0 r0 h0
  fresh b r hr he := by
    cases he' : E' b with
    | some r0 =>
      have := k.le _ _ he'
      rw [hr] at this; cases this
      exact h.fresh b r he' he
    | none =>
      obtain ⟨hn, hx⟩ := k.fresh b r hr he'
      refine ⟨Nat.le_trans h.next hn, ?_⟩
      rcases hx with hx | ⟨b0, r0, h0, e⟩
      · exact .inl (Nat.le_trans h.size hx)
      · cases he0 : E b0 with
        | some r1 =>
          have := h.le _ _ he0
          rw [h0] at this; cases this
          exact .inr ⟨b0, r0, he0, e⟩
        | none =>
          rw [← e]
          exact (h.fresh b0 r0 h0 he0).2
  next := Nat.le_trans h.next k.next
  ghost b hb he hs := by
    have h1 := h.ghost b hb he hs
    have he' : E' b = none := by
      cases he' : E' b with
      | none => rfl
      | some r => have := (h.fresh b r he' he).1; omega
    have h2 := k.ghost b (Nat.lt_of_lt_of_le hb h.next) he' (by rw [h1.1]; exact hs)
    exact ⟨h2.1.trans h1.1, h2.2.trans h1.2⟩

theorem ERs.mono (hE : E.le E') {l : List Ent} {m : List MapEntry} (h : ERs ρ E l m) : ERs ρ E' l m := by
  induction h with
  | nil => exact .nil
  | cons e m l r hk hv hb t ih => exact .cons _ _ _ _ (hk.mono hE) (hv.mono hE) hb ih
theorem BR.mono (hE : E.le E') {r : RB} {k : Blk} {o : Option Obj} (h : BR ρ E r k o) : BR ρ E' r k o := by
  cases k with
  | cells c g cs =>
    obtain ⟨c', elem, fr, h1, h2, h3, h4, h5, h6⟩ := h
    exact ⟨c', elem, fr, h1, h2, h3, h4, h5.mono hE, h6⟩
  | map c es ck =>
    obtain ⟨en, h1, h2⟩ := h
    exact ⟨en, h1, h2.mono hE⟩
  | iter c m s l st =>
    obtain ⟨m', h1, h2, h3⟩ := h
    exact ⟨m', h1, h2, fun b hb => by obtain ⟨r, hr, e⟩ := h3 b hb; exact ⟨r, hE _ _ hr, e⟩⟩
  | loop c st pd t ps as bd =>
    obtain ⟨l, h1, h2, h3, h4, h5⟩ := h
    exact ⟨l, h1, h2, h3, h4.mono hE, h5⟩
  | dead => trivial
  | seq c z n f =>
    obtain ⟨c', elem, fr, h1, h2, h3, h4, h5, h6, h7, h9⟩ := h
    exact ⟨c', elem, fr, h1, h2, h3, h4, h5, h6, h7, fun i hi => (h9 i hi).mono hE⟩

/-- behind 'own' no other block that may be looked at shares b's memory. -/
def Alone (E : Env) (H : AH) (b : Nat) : Prop := ∀ r, E b = some r → ∀ b' r', E b' = some r' → r'.blk = r.blk → b' ≠ b → H.clsOf b' = none
theorem Rel.own (h : Rel ρ E H w) {b : Nat} {r : RB} (hb : E b = some r) {K : AH → Bool} (hK : H.own b K = true) :
    ∃ H', K H' = true ∧ Rel ρ E H' w ∧ Ext E H w E H' w ∧ Alone E H' b ∧ (∃ c, H'.clsOf b = some c) ∧ H'.tr.get b = H.tr.get b ∧ H'.next = H.next := by
  obtain ⟨H', c, l, hK, hn, hc, hl, hm, hs, hdd⟩ := own_spec hK
  obtain ⟨hEc, l0, hl0, hbl, hall⟩ := h.mem b r c hb hc
  rw [hl] at hl0; cases hl0
  obtain ⟨hdead, l', hl', hbl', hsub⟩ := hdd hbl
  have hgb : H'.tr.get b = H.tr.get b := hs b fun _ => rfl
  have hcases : ∀ j, H'.tr.get j = H.tr.get j ∨ (j ∈ l ∧ H'.tr.get j = some .dead) := fun j => by
    by_cases hj : j ∈ l
    · by_cases hjb : j = b
      · exact .inl (hs j fun _ => hjb)
      · exact .inr ⟨hj, hdead j hj hjb⟩
    · exact .inl (hs j fun h => absurd h hj)
  have hcls : ∀ j d, H'.clsOf j = some d → H.clsOf j = some d := fun j d hj => by
    rcases hcases j with e | ⟨_, e⟩
    · simpa [AH.clsOf, e] using hj
    · simp [AH.clsOf, e, Blk.cls] at hj
  refine ⟨H', hK, ⟨fun j r hj => by rw [hn]; exact h.dom j r hj, fun j rj hj => ?_, fun j j' rj rj' d d' hj hj' e hd hd' => h.inj j j' rj rj' d d' hj hj' e (hcls _ _ hd) (hcls _ _ hd'), fun j rj d hj hd => ?_, fun i o hi => ⟨(h.dat i o hi).1, fun j rj d hj hd => (h.dat i o hi).2 j rj d hj (hcls _ _ hd)⟩⟩, ⟨.rfl', fun _ _ h => .inl h, rfl, rfl, rfl, Nat.le_refl _, fun _ _ _ => rfl, fun b r h h' => by rw [h'] at h; (cases h), by omega, fun j hj he _ => ?_⟩, ?_, ⟨c, by rw [AH.clsOf, hgb]; exact hc⟩, hgb, hn⟩
  · obtain ⟨h1, k, hk, hB⟩ := h.blk j rj hj
    rcases hcases j with e | ⟨_, e⟩
    · exact ⟨h1, k, e.trans hk, hB⟩
    · exact ⟨h1, .dead, e, trivial⟩
  · obtain ⟨hEd, l1, hl1, hj1, hall1⟩ := h.mem j rj d hj (hcls _ _ hd)
    refine ⟨hEd, ?_⟩
    by_cases hdc : d = c
    · subst hdc
      rw [hl] at hl1; cases hl1
      refine ⟨l', hl', ?_, fun x hx => hall x (hsub x hx)⟩
      by_cases hjb : j = b
      · subst hjb; exact hbl'
      · have := hdead j hj1 hjb
        simp [AH.clsOf, this, Blk.cls] at hd
    · exact ⟨l1, by rw [hm d hdc]; exact hl1, hj1, hall1⟩
  · refine ⟨hs j fun hj' => ?_, ?_⟩
    · have := hall j hj'
      rw [he] at this; cases this
    · by_cases hjc : j = c
      · subst hjc; rw [he] at hEc; cases hEc
      · exact hm j hjc
  · intro r1 hr1 b' r' hb' e hne
    rw [hb] at hr1; cases hr1
    cases hc' : H'.clsOf b' with
    | none => rfl
    | some d =>
      exfalso
      have hd := hcls _ _ hc'
      have := h.inj b' b r' r d c hb' hb e hd hc
      subst this
      obtain ⟨_, l1, hl1, hj1, _⟩ := h.mem b' r' d hb' hd
      rw [hl] at hl1; cases hl1
      have := hdead b' hj1 hne
      simp [AH.clsOf, this, Blk.cls] at hc'

/-- one block of memory is another one now. -/
structure Turned (w w' : World) (i : Nat) (o : Obj) : Prop where
  os : w'.os = w.os
  tape : w'.tape = w.tape
  output : w'.output = w.output
  size : w'.heap.size = w.heap.size
  at_ : w'.heap[i]? = some o
  old : ∀ j, j ≠ i → w'.heap[j]? = w.heap[j]?
theorem Rel.turn (h : Rel ρ E H w) {b : Nat} {r : RB} (hb : E b = some r) (ha : Alone E H b) {k : Blk} {c : Nat} (hc : H.clsOf b = some c) (hk : k.cls = some c)
    (hn : H'.next = H.next) (hm : H'.mem = H.mem) (hg : ∀ j, H'.tr.get j = if j = b then some k else H.tr.get j) {o : Obj} (ht : Turned w w' r.blk o) (hB : BR ρ E r k (some o)) :
    Rel ρ E H' w' ∧ Ext E H w E H' w' := by
  have hcls : ∀ j, H'.clsOf j = H.clsOf j := fun j => by
    by_cases hj : j = b
    · subst hj; rw [hc, AH.clsOf, hg, if_pos rfl]; exact hk
    · rw [AH.clsOf, hg, if_neg hj]; rfl
  refine ⟨⟨fun j r hj => by rw [hn]; exact h.dom j r hj, fun j rj hj => ?_, fun j j' rj rj' d d' hj hj' e hd hd' => h.inj j j' rj rj' d d' hj hj' e (by rw [← hcls]; exact hd) (by rw [← hcls]; exact hd'), fun j rj d hj hd => ?_, fun i o hi => ⟨by rw [ht.old i fun e => (h.dat i o hi).2 b r c hb hc e.symm]; exact (h.dat i o hi).1, fun j rj d hj hd => (h.dat i o hi).2 j rj d hj (by rw [← hcls]; exact hd)⟩⟩, ⟨.rfl', fun _ _ h => .inl h, ht.os, ht.tape, ht.output, by rw [ht.size]; omega, fun i hi hx => ht.old i fun e => hx b r hb e.symm, fun b r h h' => by rw [h'] at h; (cases h), by omega, fun j hj he _ => ?_⟩⟩
  · obtain ⟨h1, k0, hk0, hB0⟩ := h.blk j rj hj
    refine ⟨by rw [ht.size]; exact h1, ?_⟩
    by_cases hjb : j = b
    · subst hjb
      rw [hb] at hj; cases hj
      exact ⟨k, by rw [hg, if_pos rfl], by rw [ht.at_]; exact hB⟩
    · refine ⟨k0, by rw [hg, if_neg hjb]; exact hk0, ?_⟩
      by_cases he : rj.blk = r.blk
      · have := ha r hb j rj hj he hjb
        rw [AH.clsOf, hk0] at this
        cases k0 <;> simp [Blk.cls] at this
        trivial
      · rw [ht.old _ he]; exact hB0
  · obtain ⟨h1, h2⟩ := h.mem j rj d hj (by rw [← hcls]; exact hd)
    exact ⟨h1, by rw [hm]; exact h2⟩
  · refine ⟨?_, by rw [hm]⟩
    rw [hg, if_neg]
    rintro rfl
    rw [he] at hb; cases hb

/-- a name for a block that is yet to be made. -/
theorem Rel.ghost (h : Rel ρ E H w) {n : NewB} {K : AH → Bool} (hK : H.alloc n K = true) :
    ∃ H', K H' = true ∧ Rel ρ E H' w ∧ Ext E H w E H' w ∧ H'.next = H.next + 1 ∧ H'.tr.get H.next = some (n.blk H.next) ∧ H'.mem.get H.next = some [H.next] ∧ (∀ j, j < H.next → H'.tr.get j = H.tr.get j ∧ H'.mem.get j = H.mem.get j) := by
  have hK : (H.tr.set 60 H.next (n.blk H.next) fun tr => H.mem.set 60 H.next [H.next] fun mem => fNat (H.next + 1) fun next => K { tr, mem, next }) = true := hK
  obtain ⟨t, h1, hg⟩ := Tr.set_spec _ _ _ _ _ hK
  obtain ⟨m, h2, hm⟩ := Tr.set_spec _ _ _ _ _ h1
  rw [fNat_eq] at h2
  have hcls : ∀ j, j < H.next → (AH.mk t m (H.next + 1)).clsOf j = H.clsOf j := fun j hj => by
    simp only [AH.clsOf]
    rw [hg, if_neg (by omega)]
  have hold : ∀ j, j < H.next → t.get j = H.tr.get j ∧ m.get j = H.mem.get j := fun j hj => ⟨by rw [hg, if_neg (by omega)], by rw [hm, if_neg (by omega)]⟩
  refine ⟨_, h2, ⟨fun j r hj => Nat.lt_succ_of_lt (h.dom j r hj), fun j rj hj => ?_, fun j j' rj rj' d d' hj hj' e hd hd' => h.inj j j' rj rj' d d' hj hj' e (by rw [← hcls j (h.dom _ _ hj)]; exact hd) (by rw [← hcls j' (h.dom _ _ hj')]; exact hd'), fun j rj d hj hd => ?_, fun i o hi => ⟨(h.dat i o hi).1, fun j rj d hj hd => (h.dat i o hi).2 j rj d hj (by rw [← hcls j (h.dom _ _ hj)]; exact hd)⟩⟩, ⟨.rfl', fun _ _ h => .inl h, rfl, rfl, rfl, Nat.le_refl _, fun _ _ _ => rfl, fun b r h h' => by rw [h'] at h; (cases h), Nat.le_succ _, fun j hj _ _ => hold j hj⟩, rfl, ?_, ?_, hold⟩
  · obtain ⟨a, k, hk, hB⟩ := h.blk j rj hj
    exact ⟨a, k, by rw [← hk]; exact (hold j (h.dom _ _ hj)).1, hB⟩
  · obtain ⟨h1, l, hl, h3⟩ := h.mem j rj d hj (by rw [← hcls j (h.dom _ _ hj)]; exact hd)
    refine ⟨h1, l, ?_, h3⟩
    rw [← hl]
    obtain ⟨rd, hrd⟩ := Option.isSome_iff_exists.1 h1
    exact (hold d (h.dom _ _ hrd)).2
  · show t.get H.next = _
    rw [hg, if_pos rfl]
  · show m.get H.next = _
    rw [hm, if_pos rfl]

/-- a new block, behind all that there are. -/
structure Pushed (w w' : World) (o : Obj) : Prop where
  os : w'.os = w.os
  tape : w'.tape = w.tape
  output : w'.output = w.output
  size : w'.heap.size = w.heap.size + 1
  at_ : w'.heap[w.heap.size]? = some o
  old : ∀ j, j < w.heap.size → w'.heap[j]? = w.heap[j]?
def Env.with (E : Env) (b : Nat) (r : RB) : Env := ⟨fun j => if j = b then some r else E j, E.fro⟩
theorem with_at {b : Nat} {r : RB} {j : Nat} : E.with b r j = if j = b then some r else E j := rfl
theorem Env.with_le {b : Nat} {r : RB} (h : E b = none) : E.le (E.with b r) := ⟨fun j r' hj => by
  rw [with_at, if_neg]
  · exact hj
  · rintro rfl; rw [h] at hj; (cases hj), fun _ _ h => h⟩
/-- the block that a name stands for is made. -/
theorem Rel.born (h : Rel ρ E H w) {b : Nat} (hb : E b = none) (hlt : b < H.next) {k : Blk} (hk : H.tr.get b = some k) (hc : k.cls = some b) (hm : H.mem.get b = some [b]) {r : RB} (hr : r.blk = w.heap.size) {o : Obj} (hp : Pushed w w' o) (hB : BR ρ (E.with b r) r k (some o)) :
    Rel ρ (E.with b r) H w' := by
  have hle : E.le (E.with b r) := Env.with_le hb
  have hw : ∀ j rj, E.with b r j = some rj → (j = b ∧ rj = r) ∨ (j ≠ b ∧ E j = some rj) := fun j rj hj => by
    rw [with_at] at hj
    split at hj
    · rename_i e; simp at hj; exact .inl ⟨e, hj.symm⟩
    · rename_i e; exact .inr ⟨e, hj⟩
  have hself : E.with b r b = some r := by simp [Env.with]
  refine ⟨fun j rj hj => ?_, fun j rj hj => ?_, fun j j' rj rj' d d' hj hj' e hd hd' => ?_, fun j rj d hj hd => ?_, fun i o hi => ⟨by rw [hp.old i (h.dat_lt hi)]; exact (h.dat i o hi).1, fun j rj d hj hd => ?_⟩⟩
  rotate_right
  · rcases hw j rj hj with ⟨rfl, rfl⟩ | ⟨_, hj⟩
    · have := h.dat_lt hi; omega
    · exact (h.dat i o hi).2 j rj d hj hd
  · rcases hw j rj hj with ⟨rfl, _⟩ | ⟨_, hj⟩
    · exact hlt
    · exact h.dom j rj hj
  · rcases hw j rj hj with ⟨rfl, rfl⟩ | ⟨_, hj⟩
    · exact ⟨by rw [hp.size]; omega, k, hk, by rw [hr, hp.at_]; exact hB⟩
    · obtain ⟨a, k0, hk0, hB0⟩ := h.blk j rj hj
      exact ⟨by rw [hp.size]; omega, k0, hk0, by rw [hp.old _ a]; exact hB0.mono hle⟩
  · have hcb : H.clsOf b = some b := by rw [AH.clsOf, hk]; exact hc
    rcases hw j rj hj with ⟨e1, e2⟩ | ⟨_, hj1⟩ <;> rcases hw j' rj' hj' with ⟨e3, e4⟩ | ⟨_, hj1'⟩
    · subst e1; subst e3
      rw [hd] at hd'; cases hd'; rfl
    · exfalso
      subst e2
      have := (h.blk j' rj' hj1').1
      omega
    · exfalso
      subst e4
      have := (h.blk j rj hj1).1
      omega
    · exact h.inj j j' rj rj' d d' hj1 hj1' e hd hd'
  · rcases hw j rj hj with ⟨rfl, rfl⟩ | ⟨_, hj⟩
    · have hcb : H.clsOf j = some j := by rw [AH.clsOf, hk]; exact hc
      rw [hd] at hcb
      obtain rfl : d = j := by simpa using hcb
      exact ⟨by rw [hself]; rfl, [d], hm, by simp, fun x hx => by simp at hx; subst hx; rw [hself]; rfl⟩
    · obtain ⟨h1, l, hl, h3, h4⟩ := h.mem j rj d hj hd
      obtain ⟨rd, hrd⟩ := Option.isSome_iff_exists.1 h1
      exact ⟨by rw [hle _ _ hrd]; rfl, l, hl, h3, fun x hx => by obtain ⟨rx, hrx⟩ := Option.isSome_iff_exists.1 (h4 x hx); rw [hle _ _ hrx]; rfl⟩
theorem Pushed.ext (hp : ∃ o, Pushed w w' o) {b : Nat} (hb : E b = none) (hlt : H.next ≤ b) {r : RB} (hr : r.blk = w.heap.size) (h : Ext E H w E H' w) : Ext E H w (E.with b r) H' w' := by
  obtain ⟨o, hp⟩ := hp
  refine ⟨Env.with_le hb, fun _ _ h => .inl h, hp.os, hp.tape, hp.output, by rw [hp.size]; omega, fun i hi _ => hp.old i hi, fun j rj hj he => ?_, h.next, h.ghost⟩
  rw [with_at] at hj
  split at hj
  · rename_i e
    simp at hj
    subst e hj
    exact ⟨hlt, .inl (by omega)⟩
  · rw [he] at hj; cases hj
end Go.Proofs.Ytkdmlpmjfnjnmaa.Sv
