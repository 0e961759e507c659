import Derived.Test.YtkdmlpmjfnjnmaaSvp
/-! a region that draws its order: whatever order is drawn. -/
namespace Go.Proofs.Ytkdmlpmjfnjnmaa.Sv
open Go Go.RowKit
set_option linter.unusedVariables false
set_option linter.unusedSimpArgs false
variable {P : Program} {ρ : Ctx} {ops : Array Oper} {cl : List Nat}

/-- what is known of an operation that has been looked at, and is yet to come. -/
def RecOK (P : Program) (ops : Array Oper) (tmps0 : List AV) (n0 : Nat) (E : Env) (H : AH) (dn : Nat) (tmps : List AV) (rs : List Rec) (i : Nat) (o : Oper) : Prop :=
  (wantedA ops tmps o = some false ∧ ∀ d, o.dst = some d → aget tmps d = .tuple []) ∨
  ∃ q ∈ rs, q.i = i ∧ q.o = o ∧ wantedA ops tmps o = some true ∧ (evR P H q.tmps o fun x => x.beq q.res) = true ∧
    (∀ t, t ∈ tmpsOf ops.toList o → (∀ k q', ops[k]? = some q' → q'.dst = some t → Anc ops k i) → aget q.tmps t = aget tmps t) ∧
    (∀ t, t ∈ tmpsOf ops.toList o → (∀ k q', ops[k]? = some q' → q'.dst = some t → ¬ Anc ops k i) → aget q.tmps t = aget tmps0 t) ∧
    match q.res with
    | .val x => ∀ d, o.dst = some d → aget tmps d = if d < tmps.length then x else .tuple []
    | .new nb s => (∀ d, o.dst = some d → aget tmps d = if d < tmps.length then s.av q.id else .tuple []) ∧ E q.id = none ∧ n0 ≤ q.id ∧ q.id < H.next ∧ H.tr.get q.id = some (nb.blk q.id) ∧ H.mem.get q.id = some [q.id] ∧ (Res.new nb s).plain = true

structure Inv (P : Program) (ρ : Ctx) (ops : Array Oper) (tmps0 : List AV) (a0 : Act) (E0 : Env) (H0 : AH) (w0 : World) (E : Env) (H : AH) (w : World) (act : Act) (listed : Array Bool) (dn : Nat) (tmps : List AV) (rs : List Rec) : Prop where
  lsz : listed.size = ops.size
  lcl : Closed ops fun i => listed.getD i false = true
  dcl : Closed ops fun i => bit dn i = true
  sub : ∀ i, listed.getD i false = true → bit dn i = true
  rel : Rel ρ E H w
  ext : Ext E0 H0 w0 E H w
  len : tmps.length = act.tmps.size
  len0 : act.tmps.size = a0.tmps.size
  defs : act.defers = a0.defers
  t1 : ∀ t, (∀ k q, ops[k]? = some q → q.dst = some t → listed.getD k false = true) → VR ρ E (aget tmps t) (act.tmps.getD t undef)
  t2 : ∀ t, (∀ k q, ops[k]? = some q → q.dst = some t → listed.getD k false = false) → act.tmps.getD t undef = a0.tmps.getD t undef
  t3 : ∀ t, (∀ k q, ops[k]? = some q → q.dst = some t → bit dn k = false) → aget tmps t = aget tmps0 t
  recs : ∀ i o, bit dn i = true → listed.getD i false = false → ops[i]? = some o → RecOK P ops tmps0 H0.next E H dn tmps rs i o
  ids : ∀ q ∈ rs, ∀ q' ∈ rs, isVal q.res = false → isVal q'.res = false → q.id = q'.id → q.i = q'.i
  idlt : ∀ q ∈ rs, isVal q.res = false → q.id < H.next

section
variable {tmps0 : List AV} {a0 : Act} {E0 : Env} {H0 : AH} {w0 : World} {E : Env} {H : AH} {w : World} {act : Act} {listed : Array Bool} {dn : Nat} {tmps : List AV} {rs : List Rec}

theorem guard_tmp {i : Nat} {o : Oper} {j : Nat} {want : Bool} {q : Oper} {d : Nat} (hg : o.guard = some (j, want)) (hq : ops[j]? = some q) (hd : q.dst = some d) : d ∈ tmpsOf ops.toList o := by
  unfold tmpsOf
  rw [hg]
  have : ops.toList.drop j = q :: ops.toList.drop (j + 1) := by
    have hj := (Array.getElem?_eq_some_iff.1 hq)
    have hlt : j < ops.toList.length := by simpa using hj.1
    rw [List.drop_eq_getElem_cons hlt]
    congr 1
    simpa using hj.2
  simp [this, hd]
theorem opd_tmp {o : Oper} {t : Nat} (h : Operand.tmp t ∈ o.op.operands) : t ∈ tmpsOf ops.toList o := by
  unfold tmpsOf
  refine List.mem_append_left _ ?_
  rw [List.mem_filterMap]
  exact ⟨.tmp t, by simpa using h, rfl⟩
/-- of the operations that write a slot which o sees all, or none, stand ahead of it. -/
theorem writers (hC : Clear ops cl) {i : Nat} {o : Oper} (ho : ops[i]? = some o) {t : Nat} (ht : t ∈ tmpsOf ops.toList o) :
    (∀ k q, ops[k]? = some q → q.dst = some t → Anc ops k i) ∨ ((∃ (k : Nat) (q : Oper), ops[k]? = some q ∧ q.dst = some t) ∧ ∀ k q, ops[k]? = some q → q.dst = some t → Anc ops i k ∧ ¬ Anc ops k i ∨ (Anc ops i k ∧ Anc ops k i)) := by
  by_cases h : ∀ k q, ops[k]? = some q → q.dst = some t → Anc ops k i
  · exact .inl h
  · refine .inr ?_
    have h2 : ∃ (k : Nat) (q : Oper), ops[k]? = some q ∧ q.dst = some t ∧ ¬ Anc ops k i := Classical.byContradiction fun hx => h fun k q h1 h2 => Classical.byContradiction fun h3 => hx ⟨k, q, h1, h2, h3⟩
    obtain ⟨k, q, h1, h2, h3⟩ := h2
    refine ⟨⟨k, q, h1, h2⟩, fun k' q' h1' h2' => ?_⟩
    have hkk := hC.one k q k' q' t h1 h1' h2 h2'
    subst hkk
    rcases hC.seen i o k' q t ho h1 h2 ht with h4 | h4
    · exact absurd h4 h3
    · exact .inl ⟨h4, h3⟩

/-- the slots that an operation whose time has come sees are what the abstract ones are. -/
theorem Inv.sees (hI : Inv P ρ ops tmps0 a0 E0 H0 w0 E H w act listed dn tmps rs) (hC : Clear ops cl) (h0 : VRs ρ E0 tmps0 a0.tmps.toList) {i : Nat} {o : Oper} (ho : ops[i]? = some o) (hl : listed.getD i false = false)
    (hr : ∀ e ∈ o.after, Region.binds .any e = true → listed.getD e.on false = true) {t : Nat} (ht : t ∈ tmpsOf ops.toList o) {src : List AV}
    (s1 : (∀ k q', ops[k]? = some q' → q'.dst = some t → Anc ops k i) → aget src t = aget tmps t) (s2 : (∀ k q', ops[k]? = some q' → q'.dst = some t → ¬ Anc ops k i) → aget src t = aget tmps0 t) :
    VR ρ E (aget src t) (act.tmps.getD t undef) := by
  have hanc : ∀ k, Anc ops k i → listed.getD k false = true := by
    intro k hk
    have key : ∀ {k m}, Anc ops k m → m = i → listed.getD k false = true := by
      intro k m hk
      induction hk with
      | direct m o' e ho' he hb =>
        rintro rfl
        rw [ho] at ho'; cases ho'
        exact hr e he hb
      | trans j k m h1 h2 ih1 ih2 =>
        intro hm
        exact hI.lcl.anc h1 (ih2 hm)
    exact key hk rfl
  rcases writers hC ho ht with h | ⟨⟨k0, q0, hk0, hd0⟩, h⟩
  · rw [s1 h]
    exact hI.t1 t fun k q h1 h2 => hanc k (h k q h1 h2)
  · have hno : ∀ k q', ops[k]? = some q' → q'.dst = some t → ¬ Anc ops k i := fun k q h1 h2 hk => by
      rcases h k q h1 h2 with ⟨_, h3⟩ | ⟨h3, _⟩
      · exact h3 hk
      · have := hI.lcl.anc h3 (hanc k hk)
        rw [hl] at this; cases this
    rw [s2 hno, hI.t2 t fun k q h1 h2 => ?_]
    · have := (h0.get t).mono hI.ext.le
      simpa using this
    · cases hk : listed.getD k false with
      | false => rfl
      | true =>
        rcases h k q h1 h2 with ⟨h3, _⟩ | ⟨h3, _⟩ <;>
        · have := hI.lcl.anc h3 hk
          rw [hl] at this; cases this
/-- the same of the slots of now. -/
theorem Inv.now (hI : Inv P ρ ops tmps0 a0 E0 H0 w0 E H w act listed dn tmps rs) (hC : Clear ops cl) (h0 : VRs ρ E0 tmps0 a0.tmps.toList) {i : Nat} {o : Oper} (ho : ops[i]? = some o) (hl : bit dn i = false)
    (hr : ∀ e ∈ o.after, Region.binds .any e = true → listed.getD e.on false = true) {t : Nat} (ht : t ∈ tmpsOf ops.toList o) : VR ρ E (aget tmps t) (act.tmps.getD t undef) := by
  have hll : listed.getD i false = false := by
    cases h : listed.getD i false with
    | false => rfl
    | true => rw [hI.sub i h] at hl; cases hl
  refine hI.sees hC h0 ho hll hr ht (fun _ => rfl) fun hno => hI.t3 t fun k q h1 h2 => ?_
  cases hk : bit dn k with
  | false => rfl
  | true =>
    rcases hC.seen i o k q t ho h1 h2 ht with h3 | h3
    · exact absurd h3 (hno k q h1 h2)
    · have := hI.dcl.anc h3 hk
      rw [hl] at this; cases this
theorem Inv.wanted (hI : Inv P ρ ops tmps0 a0 E0 H0 w0 E H w act listed dn tmps rs) (hC : Clear ops cl) {i : Nat} {o : Oper} (ho : ops[i]? = some o)
    (hr : ∀ e ∈ o.after, Region.binds .any e = true → listed.getD e.on false = true) {b : Bool} (hw : wantedA ops tmps o = some b) : Region.wanted o (yielded ops act.tmps) = b := by
  refine wanted_sound (ρ := ρ) (E := E) hw fun j want q d hg hq hd => hI.t1 d fun k q' h1 h2 => ?_
  have hkj := hC.one j q k q' d hq h1 hd h2
  subst hkj
  have hanc := hC.guard i o k want ho hg
  have key : ∀ {k m}, Anc ops k m → m = i → listed.getD k false = true := by
    intro k m hk
    induction hk with
    | direct m o' e ho' he hb =>
      rintro rfl
      rw [ho] at ho'; cases ho'
      exact hr e he hb
    | trans j k m h1 h2 ih1 ih2 =>
      intro hm
      exact hI.lcl.anc h1 (ih2 hm)
  exact key hanc rfl

theorem wantedA_same {tmps' : List AV} {o : Oper} (h : ∀ j want q d, o.guard = some (j, want) → ops[j]? = some q → q.dst = some d → aget tmps' d = aget tmps d) : wantedA ops tmps' o = wantedA ops tmps o := by
  unfold wantedA
  cases hg : o.guard with
  | none => rfl
  | some p =>
    obtain ⟨j, want⟩ := p
    simp only
    cases hj : ops.toList.drop j with
    | nil => rfl
    | cons q r =>
      simp only
      have hqj : ops[j]? = some q := by
        have : (ops.toList.drop j).head? = some q := by rw [hj]; rfl
        rw [List.head?_drop] at this
        simpa using this
      cases hd : q.dst with
      | none => rfl
      | some d => simp only [h j want q d hg hqj hd]

/-- an operation that has been looked at is carried out. -/
theorem Inv.exec (hI : Inv P ρ ops tmps0 a0 E0 H0 w0 E H w act listed dn tmps rs) {i : Nat} {o : Oper} (ho : ops[i]? = some o) (hd : bit dn i = true)
    (hr : ∀ e ∈ o.after, Region.binds .any e = true → listed.getD e.on false = true) {E' : Env} {w' : World} {x : AV} {v : Value} (hx : ∀ d, o.dst = some d → aget tmps d = if d < tmps.length then x else .tuple []) (hv : VR ρ E' x v) (hle : E.le E')
    (hR : Rel ρ E' H w') (hX : Ext E0 H0 w0 E' H w') (hrec : ∀ j o', j ≠ i → bit dn j = true → listed.getD j false = false → ops[j]? = some o' → RecOK P ops tmps0 H0.next E' H dn tmps rs j o') :
    Inv P ρ ops tmps0 a0 E0 H0 w0 E' H w' (act.put o.dst v) (listed.setIfInBounds i true) dn tmps rs := by
  have hil : i < listed.size := by rw [hI.lsz]; exact (Array.getElem?_eq_some_iff.1 ho).1
  have hself : (listed.setIfInBounds i true).getD i false = true := by simp [hil]
  have hne : ∀ j, j ≠ i → (listed.setIfInBounds i true).getD j false = listed.getD j false := fun j hj => getD_set_ne false (Ne.symm hj)
  have hup : ∀ j, listed.getD j false = true → (listed.setIfInBounds i true).getD j false = true := fun j hj => getD_set_true hj
  have hsz : (act.put o.dst v).tmps.size = act.tmps.size := by cases o.dst <;> simp [Act.put]
  refine ⟨by simpa using hI.lsz, fun j oj hj hoj e he hb => ?_, hI.dcl, fun j hj => ?_, hR, hX, by rw [hsz]; exact hI.len, by rw [hsz]; exact hI.len0, ?_, fun t ht => ?_, fun t ht => ?_, hI.t3, fun j oj hj hlj hoj => ?_, hI.ids, hI.idlt⟩
  · show (listed.setIfInBounds i true).getD e.on false = true
    replace hj : (listed.setIfInBounds i true).getD j false = true := hj
    by_cases hji : j = i
    · subst hji
      rw [ho] at hoj; cases hoj
      exact hup _ (hr e he hb)
    · rw [hne j hji] at hj
      exact hup _ (hI.lcl j oj hj hoj e he hb)
  · by_cases hji : j = i
    · subst hji; exact hd
    · rw [hne j hji] at hj; exact hI.sub j hj
  · have : (act.put o.dst v).defers = act.defers := by cases o.dst <;> rfl
    rw [this]; exact hI.defs
  · cases hdst : o.dst with
    | none =>
      refine (hI.t1 t fun k q h1 h2 => ?_).mono hle
      have hki : k ≠ i := fun e => by subst e; rw [ho] at h1; cases h1; rw [hdst] at h2; cases h2
      have := ht k q h1 h2
      rwa [hne k hki] at this
    | some d =>
      by_cases htd : t = d
      · subst htd
        rw [hx t hdst, hI.len]
        simp only [Act.put]
        by_cases hlt : t < act.tmps.size
        · simp [hlt, hv]
        · rw [if_neg hlt]
          simp [hlt]
          exact VR.undef
      · have : (act.put (some d) v).tmps.getD t undef = act.tmps.getD t undef := by
          simp [Act.put, Array.getElem?_setIfInBounds, Ne.symm htd]
        rw [this]
        refine (hI.t1 t fun k q h1 h2 => ?_).mono hle
        have hki : k ≠ i := fun e => by subst e; rw [ho] at h1; cases h1; rw [hdst] at h2; cases h2; exact htd rfl
        have := ht k q h1 h2
        rwa [hne k hki] at this
  · have htd : o.dst ≠ some t := fun e => by
      have := ht i o ho e
      rw [hself] at this; cases this
    have : (act.put o.dst v).tmps.getD t undef = act.tmps.getD t undef := by
      cases hdst : o.dst with
      | none => rfl
      | some d =>
        have : d ≠ t := fun e => htd (by rw [hdst, e])
        simp [Act.put, Array.getElem?_setIfInBounds, this]
    rw [this]
    refine hI.t2 t fun k q h1 h2 => ?_
    have h3 := ht k q h1 h2
    by_cases hki : k = i
    · subst hki; rw [hself] at h3; cases h3
    · rwa [hne k hki] at h3
  · have hji : j ≠ i := fun e => by subst e; rw [hself] at hlj; cases hlj
    rw [hne j hji] at hlj
    exact hrec j oj hji hj hlj hoj

/-- an operation is looked at. -/
theorem Inv.look (hI : Inv P ρ ops tmps0 a0 E0 H0 w0 E H w act listed dn tmps rs) (hC : Clear ops cl) {i : Nat} {o : Oper} (ho : ops[i]? = some o) (hd : bit dn i = false) (hr : ∀ e ∈ o.after, Region.binds .any e = true → bit dn e.on = true)
    {tmps' : List AV} (hlen : tmps'.length = tmps.length) (hset : ∀ t, o.dst ≠ some t → aget tmps' t = aget tmps t) {H' : AH} (hR : Rel ρ E H' w) (hX : Ext E0 H0 w0 E H' w) {rs' : List Rec} (hsub : ∀ q ∈ rs, q ∈ rs')
    (hev : ∀ q ∈ rs, (evR P H q.tmps q.o fun x => x.beq q.res) = true → (evR P H' q.tmps q.o fun x => x.beq q.res) = true)
    (hgh : ∀ b, b < H.next → H'.tr.get b = H.tr.get b ∧ H'.mem.get b = H.mem.get b) (hnx : H.next ≤ H'.next)
    (hids : ∀ q ∈ rs', ∀ q' ∈ rs', isVal q.res = false → isVal q'.res = false → q.id = q'.id → q.i = q'.i) (hidlt : ∀ q ∈ rs', isVal q.res = false → q.id < H'.next)
    (hnew : listed.getD i false = false → RecOK P ops tmps0 H0.next E H' (dn ||| 2 ^ i) tmps' rs' i o) :
    Inv P ρ ops tmps0 a0 E0 H0 w0 E H' w act listed (dn ||| 2 ^ i) tmps' rs' := by
  have hli : listed.getD i false = false := by
    cases h : listed.getD i false with
    | false => rfl
    | true => rw [hI.sub i h] at hd; cases hd
  -- what is done keeps its slots
  have hkeep : ∀ k q t, ops[k]? = some q → q.dst = some t → bit dn k = true → aget tmps' t = aget tmps t := fun k q t h1 h2 h3 => by
    refine hset t fun e => ?_
    have := hC.one k q i o t h1 ho h2 e
    subst this
    rw [hd] at h3; cases h3
  refine ⟨hI.lsz, hI.lcl, fun j oj hj hoj e he hb => ?_, fun j hj => bit_add.2 (.inl (hI.sub j hj)), hR, hX, hlen.trans hI.len, hI.len0, hI.defs, fun t ht => ?_, hI.t2, fun t ht => ?_, fun j oj hj hlj hoj => ?_, hids, hidlt⟩
  · show bit (dn ||| 2 ^ i) e.on = true
    replace hj : bit (dn ||| 2 ^ i) j = true := hj
    rw [bit_add] at hj ⊢
    rcases hj with hj | rfl
    · exact .inl (hI.dcl j oj hj hoj e he hb)
    · rw [ho] at hoj; cases hoj
      exact .inl (hr e he hb)
  · have : o.dst ≠ some t := fun e => by
      have := ht i o ho e
      rw [hli] at this; cases this
    rw [hset t this]
    exact hI.t1 t ht
  · have : o.dst ≠ some t := fun e => by
      have h1 := ht i o ho e
      have h2 : bit (dn ||| 2 ^ i) i = true := bit_add.2 (.inr rfl)
      rw [h2] at h1; cases h1
    rw [hset t this]
    refine hI.t3 t fun k q h1 h2 => ?_
    have h3 := ht k q h1 h2
    cases hk : bit dn k with
    | false => rfl
    | true => rw [bit_add.2 (.inl hk)] at h3; cases h3
  · rw [bit_add] at hj
    by_cases hji : j = i
    · subst hji
      rw [ho] at hoj; cases hoj
      exact hnew hli
    · have hj' := hj.resolve_right hji
      have hwsame : wantedA ops tmps' oj = wantedA ops tmps oj := wantedA_same fun k want q d hg hq hqd => by
        exact hkeep k q d hq hqd (hI.dcl.anc (hC.guard j oj k want hoj hg) hj')
      have hdsame : ∀ d, oj.dst = some d → aget tmps' d = aget tmps d := fun d hjd => hkeep j oj d hoj hjd hj'
      rcases hI.recs j oj hj' hlj hoj with ⟨h1, h2⟩ | ⟨q, hq, h1, h2, h3, h4, h5, h6, h7⟩
      · exact .inl ⟨hwsame.trans h1, fun d hjd => (hdsame d hjd).trans (h2 d hjd)⟩
      · refine .inr ⟨q, hsub q hq, h1, h2, hwsame.trans h3, ?_, fun t ht hw => ?_, h6, ?_⟩
        · have := hev q hq (by rw [h2]; exact h4)
          rwa [h2] at this
        · rw [h5 t ht hw]
          symm
          by_cases hex : ∃ (k : Nat) (q' : Oper), ops[k]? = some q' ∧ q'.dst = some t
          · obtain ⟨k, q', h8, h9⟩ := hex
            exact hkeep k q' t h8 h9 (hI.dcl.anc (hw k q' h8 h9) hj')
          · exact hset t fun e => hex ⟨i, o, ho, e⟩
        · cases hres : q.res with
          | val x =>
            rw [hres] at h7
            intro d hjd
            rw [hdsame d hjd, hlen]
            exact h7 d hjd
          | new nb s =>
            rw [hres] at h7
            obtain ⟨g1, g2, g3, g4, g5, g6⟩ := h7
            refine ⟨fun d hjd => ?_, g2, g3, by omega, (hgh _ g4).1.trans g5, (hgh _ g4).2.trans g6.1, g6.2⟩
            rw [hdsame d hjd, hlen]
            exact g1 d hjd
end
end Go.Proofs.Ytkdmlpmjfnjnmaa.Sv
