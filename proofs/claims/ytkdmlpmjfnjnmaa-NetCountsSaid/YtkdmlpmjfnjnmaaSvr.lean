import Derived.Test.YtkdmlpmjfnjnmaaSvq
/-! a region that draws its order: it does what is said of it. -/
namespace Go.Proofs.Ytkdmlpmjfnjnmaa.Sv
open Go Go.RowKit
set_option linter.unusedVariables false
set_option linter.unusedSimpArgs false
variable {P : Program} {ρ : Ctx} {ops : Array Oper} {cl : List Nat}

theorem put_abs {tmps : List AV} {d : Option Nat} {a : AV} {K : List AV → Bool} (h : put tmps d a K = true) :
    ∃ tmps', K tmps' = true ∧ tmps'.length = tmps.length ∧ (∀ t, d ≠ some t → aget tmps' t = aget tmps t) ∧ ∀ t, d = some t → aget tmps' t = if t < tmps.length then a else .tuple [] := by
  cases d with
  | none => exact ⟨tmps, h, rfl, fun _ _ => rfl, fun t h => by cases h⟩
  | some d =>
    unfold put at h
    simp only [fd_eq] at h
    refine ⟨tmps.set d a, aset_spec _ _ _ _ h, by simp, fun t ht => ?_, fun t ht => ?_⟩
    · rw [aget_set, if_neg]
      rintro rfl
      exact ht rfl
    · cases ht
      rw [aget_set, if_pos rfl]
theorem VRs.of_get {E : Env} : ∀ {l : List AV} {m : List Value}, l.length = m.length → (∀ t, VR ρ E (aget l t) (m.getD t undef)) → VRs ρ E l m
  | [], [], _, _ => .nil
  | [], _ :: _, h, _ => by cases h
  | _ :: _, [], h, _ => by cases h
  | a :: l, v :: m, h, ht => .cons _ _ _ _ (by have h1 := ht 0; rw [aget_zero] at h1; exact h1) (VRs.of_get (by simpa using h) fun t => by have h1 := ht (t + 1); rw [aget_succ] at h1; exact h1)
theorem ext_born {E0 E : Env} {H0 H : AH} {w0 w w' : World} {o : Obj} (h : Ext E0 H0 w0 E H w) (hp : Pushed w w' o) {b : Nat} (hb : E b = none) (hlt : H0.next ≤ b) {r : RB} (hr : r.blk = w.heap.size) : Ext E0 H0 w0 (E.with b r) H w' := by
  have hle := Env.with_le (r := r) hb
  refine ⟨h.le.trans' hle, h.ice, hp.os.trans h.os, hp.tape.trans h.tape, hp.output.trans h.output, by rw [hp.size]; have := h.size; omega, fun i hi hx => ?_, fun j rj hj he => ?_, h.next, h.ghost⟩
  · rw [hp.old i (by have := h.size; omega)]
    exact h.old i hi hx
  · rw [with_at] at hj
    split at hj
    · rename_i e
      simp at hj
      subst e hj
      exact ⟨hlt, .inl (by rw [hr]; exact h.size)⟩
    · exact h.fresh j rj hj he
theorem cls_new (n : NewB) (b : Nat) : (n.blk b).cls = some b := by cases n <;> rfl

section
variable {tmps0 : List AV} {a0 : Act} {E0 : Env} {H0 : AH} {w0 : World} {E : Env} {H : AH} {w : World} {act : Act} {listed : Array Bool} {dn : Nat} {tmps : List AV} {rs : List Rec}

/-- an operation that writes or calls is carried out. -/
theorem Inv.effect (hI : Inv P ρ ops tmps0 a0 E0 H0 w0 E H w act listed dn tmps rs) (hC : Clear ops cl) {i : Nat} {o : Oper} (ho : ops[i]? = some o) (hd : bit dn i = false)
    (hr : ∀ e ∈ o.after, Region.binds .any e = true → listed.getD e.on false = true) {tmps' : List AV} {x : AV} (hlen : tmps'.length = tmps.length) (hset : ∀ t, o.dst ≠ some t → aget tmps' t = aget tmps t) (hx : ∀ t, o.dst = some t → aget tmps' t = if t < tmps.length then x else .tuple [])
    {E' : Env} {H' : AH} {w' : World} {v : Value} (hv : VR ρ E' x v) (hR : Rel ρ E' H' w') (hX : Ext E H w E' H' w')
    (hag : ∀ q ∈ rs, bit (cl.getD i 0) q.i = false → (evR P H' q.tmps q.o fun x => x.beq q.res) = true) :
    Inv P ρ ops tmps0 a0 E0 H0 w0 E' H' w' (act.put o.dst v) (listed.setIfInBounds i true) (dn ||| 2 ^ i) tmps' rs := by
  have hil : i < listed.size := by rw [hI.lsz]; exact (Array.getElem?_eq_some_iff.1 ho).1
  have hself : (listed.setIfInBounds i true).getD i false = true := by simp [hil]
  have hne : ∀ j, j ≠ i → (listed.setIfInBounds i true).getD j false = listed.getD j false := fun j hj => getD_set_ne false (Ne.symm hj)
  have hup : ∀ j, listed.getD j false = true → (listed.setIfInBounds i true).getD j false = true := fun j hj => getD_set_true hj
  have hsz : (act.put o.dst v).tmps.size = act.tmps.size := by cases o.dst <;> simp [Act.put]
  have hkeep : ∀ k q t, ops[k]? = some q → q.dst = some t → bit dn k = true → aget tmps' t = aget tmps t := fun k q t h1 h2 h3 => by
    refine hset t fun e => ?_
    have := hC.one k q i o t h1 ho h2 e
    subst this
    rw [hd] at h3; cases h3
  have hsame : ∀ t, o.dst ≠ some t → (act.put o.dst v).tmps.getD t undef = act.tmps.getD t undef := fun t htd => by
    cases hdst : o.dst with
    | none => rfl
    | some d =>
      have : d ≠ t := fun e => htd (by rw [hdst, e])
      simp [Act.put, Array.getElem?_setIfInBounds, this]
  refine ⟨by simpa using hI.lsz, fun j oj hj hoj e he hb => ?_, fun j oj hj hoj e he hb => ?_, fun j hj => ?_, hR, hI.ext.trans hX, by rw [hsz]; exact hlen.trans hI.len, by rw [hsz]; exact hI.len0, ?_, fun t ht => ?_, fun t ht => ?_, fun t ht => ?_, fun j oj hj hlj hoj => ?_, hI.ids, fun q hq h => Nat.lt_of_lt_of_le (hI.idlt q hq h) hX.next⟩
  · show (listed.setIfInBounds i true).getD e.on false = true
    replace hj : (listed.setIfInBounds i true).getD j false = true := hj
    by_cases hji : j = i
    · subst hji
      rw [ho] at hoj; cases hoj
      exact hup _ (hr e he hb)
    · rw [hne j hji] at hj
      exact hup _ (hI.lcl j oj hj hoj e he hb)
  · show bit (dn ||| 2 ^ i) e.on = true
    replace hj : bit (dn ||| 2 ^ i) j = true := hj
    rw [bit_add] at hj ⊢
    rcases hj with hj | rfl
    · exact .inl (hI.dcl j oj hj hoj e he hb)
    · rw [ho] at hoj; cases hoj
      exact .inl (hI.sub _ (hr e he hb))
  · rw [bit_add]
    by_cases hji : j = i
    · exact .inr hji
    · rw [hne j hji] at hj; exact .inl (hI.sub j hj)
  · have : (act.put o.dst v).defers = act.defers := by cases o.dst <;> rfl
    rw [this]; exact hI.defs
  · by_cases htd : o.dst = some t
    · rw [hx t htd, hI.len, htd]
      simp only [Act.put]
      by_cases hlt : t < act.tmps.size
      · simp [hlt, hv]
      · rw [if_neg hlt]
        simp [hlt]
        exact VR.undef
    · rw [hset t htd, hsame t htd]
      refine (hI.t1 t fun k q h1 h2 => ?_).mono hX.le
      have hki : k ≠ i := fun e => by subst e; rw [ho] at h1; cases h1; exact htd h2
      have := ht k q h1 h2
      rwa [hne k hki] at this
  · have htd : o.dst ≠ some t := fun e => by
      have := ht i o ho e
      rw [hself] at this; cases this
    rw [hsame t htd]
    refine hI.t2 t fun k q h1 h2 => ?_
    have h3 := ht k q h1 h2
    by_cases hki : k = i
    · subst hki; rw [hself] at h3; cases h3
    · rwa [hne k hki] at h3
  · have : o.dst ≠ some t := fun e => by
      have h1 := ht i o ho e
      have h2 : bit (dn ||| 2 ^ i) i = true := bit_add.2 (.inr rfl)
      rw [h2] at h1; cases h1
    rw [hset t this]
    refine hI.t3 t fun k q h1 h2 => ?_
    have h3 := ht k q h1 h2
    cases hk : bit dn k with
    | false => rfl
    | true => rw [bit_add.2 (.inl hk)] at h3; cases h3
  · have hji : j ≠ i := fun e => by subst e; rw [hself] at hlj; cases hlj
    rw [hne j hji] at hlj
    have hj' := (bit_add.1 hj).resolve_right hji
    have hwsame : wantedA ops tmps' oj = wantedA ops tmps oj := wantedA_same fun k want q d hg hq hqd => by
      exact hkeep k q d hq hqd (hI.dcl.anc (hC.guard j oj k want hoj hg) hj')
    have hdsame : ∀ d, oj.dst = some d → aget tmps' d = aget tmps d := fun d hjd => hkeep j oj d hoj hjd hj'
    rcases hI.recs j oj hj' hlj hoj with ⟨h1, h2⟩ | ⟨q, hq, h1, h2, h3, h4, h5, h6, h7⟩
    · exact .inl ⟨hwsame.trans h1, fun d hjd => (hdsame d hjd).trans (h2 d hjd)⟩
    · refine .inr ⟨q, hq, h1, h2, hwsame.trans h3, ?_, fun t ht hw => ?_, h6, ?_⟩
      · have hnb : bit (cl.getD i 0) q.i = false := by
          cases hb : bit (cl.getD i 0) q.i with
          | false => rfl
          | true =>
            exfalso
            rw [h1] at hb
            have key : ∀ {k m}, Anc ops k m → m = i → listed.getD k false = true := by
              intro k m hk
              induction hk with
              | direct m o' e ho' he hbind =>
                rintro rfl
                rw [ho] at ho'; cases ho'
                exact hr e he hbind
              | trans j k m h1 h2 ih1 ih2 =>
                intro hm
                exact hI.lcl.anc h1 (ih2 hm)
            have := key (hC.cl _ _ hb) rfl
            rw [hlj] at this; cases this
        have := hag q hq hnb
        rwa [h2] at this
      · rw [h5 t ht hw]
        symm
        by_cases hex : ∃ (k : Nat) (q' : Oper), ops[k]? = some q' ∧ q'.dst = some t
        · obtain ⟨k, q', h8, h9⟩ := hex
          exact hkeep k q' t h8 h9 (hI.dcl.anc (hw k q' h8 h9) hj')
        · exact hset t fun e => hex ⟨i, o, ho, e⟩
      · cases hres : q.res with
        | val x =>
          rw [hres] at h7
          intro d hjd
          rw [hdsame d hjd, hlen]
          exact h7 d hjd
        | new nb s =>
          rw [hres] at h7
          obtain ⟨g1, g2, g3, g4, g5, g6⟩ := h7
          have gh := hX.ghost q.id g4 g2 fun c z n f e => by
            rw [g5] at e
            have hpl := g6.2
            cases nb <;> simp [NewB.blk, Res.plain] at e hpl
          refine ⟨fun d hjd => ?_, ?_, g3, Nat.lt_of_lt_of_le g4 hX.next, gh.1.trans g5, gh.2.trans g6.1, g6.2⟩
          · rw [hdsame d hjd, hlen]
            exact g1 d hjd
          · cases he : E' q.id with
            | none => rfl
            | some r => have := (hX.fresh _ r he g2).1; omega

/-- one operation, whichever comes. -/
theorem draw_step (hP : Plain P) {call : CallF} (hc : CallOK P ρ call) (hρ : ∀ i, (ρ i).oneCell' = true) (hC : Clear ops (closures ops.toList [])) (h0 : VRs ρ E0 tmps0 a0.tmps.toList) {ro : Option Nat} {Q : Exit → Act → World → Prop} {K : List AV → AH → Bool}
    {i : Nat} {o : Oper} (ho : ops[i]? = some o) (hl : listed.getD i false = false) (hr : ∀ e ∈ o.after, Region.binds .any e = true → listed.getD e.on false = true) {next : Act → World → Prop}
    (hnext : ∀ (cf : Nat) (E : Env) (H : AH) (w : World) (act : Act) (dn : Nat) (tmps : List AV) (rs : List Rec), Inv P ρ ops tmps0 a0 E0 H0 w0 E H w act (listed.setIfInBounds i true) dn tmps rs →
      evDraw P call ops (idxs ops.toList 0) (closures ops.toList []) cf dn tmps H rs K = true → next act w) :
    ∀ (cf dn : Nat) (tmps : List AV) (H : AH) (rs : List Rec), Inv P ρ ops tmps0 a0 E0 H0 w0 E H w act listed dn tmps rs → evDraw P call ops (idxs ops.toList 0) (closures ops.toList []) cf dn tmps H rs K = true →
      wpOpIn (FW ro) 0 P ops Q i next act w
  | 0, dn, tmps, H, rs, hI, h => by cases h
  | cf + 1, dn, tmps, H, rs, hI, h => by
    cases hd : bit dn i with
    | true =>
      unfold wpOpIn
      simp only [ho]
      rcases hI.recs i o hd hl ho with ⟨h1, h2⟩ | ⟨q, hq, h1, h2, h3, h4, h5, h6, h7⟩
      · rw [hI.wanted hC ho hr h1]
        refine ⟨fun f _ => FW.fn ro f, hnext _ E H w _ dn tmps rs (hI.exec ho hd hr (x := .tuple []) (fun d hd => by rw [h2 d hd]; split <;> rfl) VR.undef .rfl' hI.rel hI.ext fun j oj _ a b c => hI.recs j oj a b c) h⟩
      · rw [hI.wanted hC ho hr h3]
        simp only [if_true]
        have hT : TmpOK ρ E q.tmps act o.op.operands := fun t ht => hI.sees hC h0 ho hl hr (opd_tmp ht) (h5 t (opd_tmp ht)) (h6 t (opd_tmp ht))
        have hdf := evR_defer h4
        obtain ⟨q', hb, hte⟩ := evR_sound hρ hI.rel hT h4
        have hqq := res_sound hb
        subst hqq
        cases hres : q.res with
        | val x =>
          rw [hres] at h7 hte
          obtain ⟨v, hrun, hv⟩ := hte
          exact wp_value hdf hrun (hnext _ E H w _ dn tmps rs (hI.exec ho hd hr (x := x) h7 hv .rfl' hI.rel hI.ext fun j oj _ a b c => hI.recs j oj a b c) h)
        | new nb s =>
          rw [hres] at h7 hte
          obtain ⟨g1, g2, g3, g4, g5, g6⟩ := h7
          obtain ⟨w', obj, v, sz, z, hrun, hp, hB⟩ := hte
          have hself : E.with q.id ⟨w.heap.size, sz, z⟩ q.id = some ⟨w.heap.size, sz, z⟩ := by simp [Env.with]
          have hle := Env.with_le (r := ⟨w.heap.size, sz, z⟩) g2
          obtain ⟨hB1, hB2⟩ := hB _ q.id hle hself
          have hR' := hI.rel.born g2 g4 g5 (cls_new nb q.id) g6.1 rfl hp hB1
          refine wp_value hdf hrun (hnext _ _ H w' _ dn tmps rs (hI.exec ho hd hr (x := s.av q.id) g1 hB2 hle hR' (ext_born hI.ext hp g2 g3 rfl) fun j oj hji a b c => ?_) h)
          rcases hI.recs j oj a b c with hA | ⟨q2, k0, k1, k2, k3, k4, k5, k6, k7⟩
          · exact .inl hA
          · refine .inr ⟨q2, k0, k1, k2, k3, k4, k5, k6, ?_⟩
            cases hres2 : q2.res with
            | val x => rw [hres2] at k7; exact k7
            | new nb2 s2 =>
              rw [hres2] at k7
              obtain ⟨l1, l2, l3⟩ := k7
              refine ⟨l1, ?_, l3⟩
              rw [with_at]
              rw [if_neg]
              · exact l2
              · intro e
                have := hI.ids q2 k0 q hq (by rw [hres2]; rfl) (by rw [hres]; rfl) e
                rw [k1, h1] at this
                exact hji this
    | false =>
      have hready : ∀ e ∈ o.after, Region.binds .any e = true → bit dn e.on = true := fun e he hb => hI.sub _ (hr e he hb)
      -- what stands ahead of an operation that is ready has been looked at
      have hanc : ∀ {i0 : Nat} {o0 : Oper}, ops[i0]? = some o0 → (∀ e ∈ o0.after, Region.binds .any e = true → bit dn e.on = true) → ∀ k, Anc ops k i0 → bit dn k = true := by
        intro i0 o0 ho0 hr0 k hk
        have key : ∀ {k m}, Anc ops k m → m = i0 → bit dn k = true := by
          intro k m hk
          induction hk with
          | direct m o' e ho' he hb =>
            rintro rfl
            rw [ho0] at ho'; cases ho'
            exact hr0 e he hb
          | trans j k m h1 h2 ih1 ih2 =>
            intro hm
            exact hI.dcl.anc h1 (ih2 hm)
        exact key hk rfl
      have hwsame : ∀ {i0 : Nat} {o0 : Oper} {tmps' : List AV}, ops[i0]? = some o0 → bit dn i0 = false → (∀ e ∈ o0.after, Region.binds .any e = true → bit dn e.on = true) → (∀ t, o0.dst ≠ some t → aget tmps' t = aget tmps t) → wantedA ops tmps' o0 = wantedA ops tmps o0 := by
        intro i0 o0 tmps' ho0 hd0 hr0 hset
        refine wantedA_same fun k want q d hg hq hqd => hset d fun e => ?_
        have := hC.one k q i0 o0 d hq ho0 hqd e
        subst this
        have := hanc ho0 hr0 _ (hC.guard _ o0 _ want ho0 hg)
        rw [hd0] at this; cases this
      unfold evDraw at h
      split at h
      · rename_i i0 o0 hpick
        obtain ⟨hm, hd0, hr0, hw0, _⟩ := pickV_some hpick
        have ho0 := io_mem.1 hm
        rw [fNat_eq] at h
        obtain ⟨tmps', h', hlen, hset, hx⟩ := put_abs h
        refine draw_step hP hc hρ hC h0 ho hl hr hnext cf _ tmps' H rs (hI.look hC ho0 hd0 hr0 hlen hset hI.rel hI.ext (fun q hq => hq) (fun _ _ h => h) (fun _ _ => ⟨rfl, rfl⟩) (Nat.le_refl _) hI.ids hI.idlt fun _ => .inl ⟨(hwsame ho0 hd0 hr0 hset).trans hw0, fun d hd => ?_⟩) h'
        rw [hx d hd]; split <;> rfl
      · rename_i i0 o0 hpick
        obtain ⟨hm, hd0, hr0, hw0, _⟩ := pickV_some hpick
        have ho0 := io_mem.1 hm
        obtain ⟨q, hK, hpl, hdet⟩ := t1_evR _ h
        have hself : ∀ H', evR P H' tmps o0 (fun x => x.beq q) = true → True := fun _ _ => trivial
        have hop1 : ∀ {tmps' : List AV}, (∀ t, o0.dst ≠ some t → aget tmps' t = aget tmps t) → ∀ t, t ∈ tmpsOf ops.toList o0 → (∀ k q', ops[k]? = some q' → q'.dst = some t → Anc ops k i0) → aget tmps t = aget tmps' t := by
          intro tmps' hset t _ hw
          symm
          refine hset t fun e => ?_
          have := hanc ho0 hr0 i0 (hw i0 o0 ho0 e)
          rw [hd0] at this; cases this
        have hop2 : ∀ t, t ∈ tmpsOf ops.toList o0 → (∀ k q', ops[k]? = some q' → q'.dst = some t → ¬ Anc ops k i0) → aget tmps t = aget tmps0 t := by
          intro t ht hno
          refine hI.t3 t fun k q h1 h2 => ?_
          cases hk : bit dn k with
          | false => rfl
          | true =>
            rcases hC.seen i0 o0 k q t ho0 h1 h2 ht with h3 | h3
            · exact absurd h3 (hno k q h1 h2)
            · have := hI.dcl.anc h3 hk
              rw [hd0] at this; cases this
        cases q with
        | val a =>
          simp only [done, isVal, Bool.not_true, againIf, fNat_eq] at hK
          obtain ⟨tmps', h', hlen, hset, hx⟩ := put_abs hK
          refine draw_step hP hc hρ hC h0 ho hl hr hnext cf _ tmps' H _ (hI.look hC ho0 hd0 hr0 hlen hset hI.rel hI.ext (fun q hq => List.mem_cons_of_mem _ hq) (fun _ _ h => h) (fun _ _ => ⟨rfl, rfl⟩) (Nat.le_refl _) (fun q1 m1 q2 m2 v1 v2 e => ?_) (fun q1 m1 v1 => ?_)
            fun _ => .inr ⟨_, List.mem_cons_self, rfl, rfl, (hwsame ho0 hd0 hr0 hset).trans hw0, hdet (fun x => x.beq (.val a)) (res_self hpl), hop1 hset, hop2, ?_⟩) h'
          · rcases List.mem_cons.1 m1 with rfl | m1
            · cases v1
            · rcases List.mem_cons.1 m2 with rfl | m2
              · cases v2
              · exact hI.ids q1 m1 q2 m2 v1 v2 e
          · rcases List.mem_cons.1 m1 with rfl | m1
            · cases v1
            · exact hI.idlt q1 m1 v1
          · intro d hd
            rw [hx d hd, hlen]
        | new nb s =>
          simp only [done] at hK
          obtain ⟨H', hK', hR', hX', hn', hg', hm', hold⟩ := hI.rel.ghost hK
          simp only [isVal, Bool.not_false, againIf] at hK'
          obtain ⟨hK2, hag⟩ := again_mem hK'
          clear hK'
          have hK' := hK2
          clear hK2
          · rw [fNat_eq] at hK'
            obtain ⟨tmps', h', hlen, hset, hx⟩ := put_abs hK'
            have hb0 : ∀ k, bit 0 k = false := fun k => Nat.zero_testBit k
            have hnone : E H.next = none := by
              cases he : E H.next with
              | none => rfl
              | some r => have := hI.rel.dom _ _ he; omega
            refine draw_step hP hc hρ hC h0 ho hl hr hnext cf _ tmps' H' _ (hI.look hC ho0 hd0 hr0 hlen hset hR' (hI.ext.trans hX') (fun q hq => List.mem_cons_of_mem _ hq) (fun q hq _ => hag q (List.mem_cons_of_mem _ hq) (hb0 _)) hold (by omega) (fun q1 m1 q2 m2 v1 v2 e => ?_) (fun q1 m1 v1 => ?_)
              fun _ => .inr ⟨_, List.mem_cons_self, rfl, rfl, (hwsame ho0 hd0 hr0 hset).trans hw0, hag _ List.mem_cons_self (hb0 _), hop1 hset, hop2, ?_⟩) h'
            · rcases List.mem_cons.1 m1 with rfl | m1
              · rcases List.mem_cons.1 m2 with rfl | m2
                · rfl
                · have := hI.idlt q2 m2 v2
                  simp only at e
                  omega
              · rcases List.mem_cons.1 m2 with rfl | m2
                · have := hI.idlt q1 m1 v1
                  simp only at e
                  omega
                · exact hI.ids q1 m1 q2 m2 v1 v2 e
            · rcases List.mem_cons.1 m1 with rfl | m1
              · simp only; omega
              · have := hI.idlt q1 m1 v1
                omega
            · refine ⟨fun d hd => ?_, hnone, hI.ext.next, by simp only; omega, hg', hm', hpl⟩
              rw [hx d hd, hlen]
      · rename_i hpv
        split at h
        · rename_i hpe
          exact absurd hready (pickE_none hpe i o (io_mem.2 ho) hd)
        · rename_i i0 o0 hpe
          obtain ⟨hm, hd0, hr0⟩ := pickE_some hpe
          have ho0 := io_mem.1 hm
          split at h
          · rename_i hw0
            obtain ⟨hall, h⟩ := cond_true' h
            have hi : i = i0 := by
              have h1 := allB_mem hall (i, o) (io_mem.2 ho)
              simp only [hd, Bool.false_or, Bool.or_eq_true, Bool.and_eq_true, Bool.not_eq_true'] at h1
              rcases h1 with (h1 | ⟨_, h1⟩) | h1
              · exact beq_iff'.1 h1
              · rw [(ready_iff o dn).2 hready] at h1; cases h1
              · have := hanc ho hready _ (hC.cl _ _ h1)
                rw [hd0] at this; cases this
            subst hi
            rw [ho] at ho0; cases ho0
            unfold wpOpIn
            simp only [ho]
            rw [hI.wanted hC ho hr hw0]
            simp only [if_true]
            have hT : TmpOK ρ E tmps act o.op.operands := fun t ht => hI.now hC h0 ho hd hr (opd_tmp ht)
            refine evW_sound hP hc hρ hI.rel hT h fun x H' E' v w' hK hv hR' hX' => ?_
            obtain ⟨hK2, hag⟩ := again_mem hK
            clear hK
            have hK := hK2
            clear hK2
            · rw [fNat_eq] at hK
              obtain ⟨tmps', h', hlen, hset, hx⟩ := put_abs hK
              exact hnext _ E' H' w' _ _ tmps' rs (hI.effect hC ho hd hr hlen hset hx hv hR' hX' fun q hq hb => hag q hq hb) h'
          · cases h

/-- the end. -/
theorem draw_end {call : CallF} {cf : Nat} {K : List AV → AH → Bool} (hI : Inv P ρ ops tmps0 a0 E0 H0 w0 E H w act listed dn tmps rs) (hall : ∀ i, i < ops.size → listed.getD i false = true)
    (h : evDraw P call ops (idxs ops.toList 0) cl cf dn tmps H rs K = true) : K tmps H = true ∧ VRs ρ E tmps act.tmps.toList := by
  have hd : ∀ i o, ops[i]? = some o → bit dn i = true := fun i o ho => hI.sub i (hall i (Array.getElem?_eq_some_iff.1 ho).1)
  refine ⟨?_, VRs.of_get (by simpa using hI.len) fun t => ?_⟩
  · cases cf with
    | zero => cases h
    | succ cf =>
      unfold evDraw at h
      split at h
      · rename_i i0 o0 hpick
        obtain ⟨hm, hd0, _⟩ := pickV_some hpick
        rw [hd i0 o0 (io_mem.1 hm)] at hd0; cases hd0
      · rename_i i0 o0 hpick
        obtain ⟨hm, hd0, _⟩ := pickV_some hpick
        rw [hd i0 o0 (io_mem.1 hm)] at hd0; cases hd0
      · split at h
        · exact (cond_true' h).2
        · rename_i i0 o0 hpe
          obtain ⟨hm, hd0, _⟩ := pickE_some hpe
          rw [hd i0 o0 (io_mem.1 hm)] at hd0; cases hd0
  · have := hI.t1 t fun k q h1 _ => hall k (Array.getElem?_eq_some_iff.1 h1).1
    simpa using this

theorem draw_any (hP : Plain P) {call : CallF} (hc : CallOK P ρ call) (hρ : ∀ i, (ρ i).oneCell' = true) (hC : Clear ops (closures ops.toList [])) (h0 : VRs ρ E0 tmps0 a0.tmps.toList) {ro : Option Nat} {Q : Exit → Act → World → Prop} {K : List AV → AH → Bool}
    (hQ : ∀ tmps' H' a' w' E', K tmps' H' = true → VRs ρ E' tmps' a'.tmps.toList → Rel ρ E' H' w' → Ext E0 H0 w0 E' H' w' → a'.defers = a0.defers → Q .normal a' w') :
    ∀ (fuel : Nat) (listed : Array Bool) (act : Act) (w : World) (cf : Nat) (E : Env) (H : AH) (dn : Nat) (tmps : List AV) (rs : List Rec), ((List.range ops.size).filter fun i => !listed.getD i true).length ≤ fuel →
      Inv P ρ ops tmps0 a0 E0 H0 w0 E H w act listed dn tmps rs → evDraw P call ops (idxs ops.toList 0) (closures ops.toList []) cf dn tmps H rs K = true → wpAnyIn (FW ro) 0 P .any ops Q fuel listed act w := by
  have hdone : ∀ (listed : Array Bool) (act : Act) (w : World) (cf : Nat) (E : Env) (H : AH) (dn : Nat) (tmps : List AV) (rs : List Rec), Region.ready .any ops listed = [] →
      Inv P ρ ops tmps0 a0 E0 H0 w0 E H w act listed dn tmps rs → evDraw P call ops (idxs ops.toList 0) (closures ops.toList []) cf dn tmps H rs K = true → Q .normal act w := by
    intro listed act w cf E H dn tmps rs hr hI h
    have hall : ∀ k, ∀ i, i < k → i < ops.size → listed.getD i true = true := by
      intro k
      induction k with
      | zero => intro i hi; omega
      | succ k ih =>
        intro i hi hil
        by_cases hik : i < k
        · exact ih i hik hil
        · obtain rfl : i = k := by omega
          cases hli : listed.getD i true with
          | true => rfl
          | false =>
            have hoi : ops[i]? = some ops[i] := Array.getElem?_eq_getElem hil
            have : i ∈ Region.ready .any ops listed := mem_ready.2 ⟨hli, ops[i], hoi, fun e he hb => by
              have h1 := hC.lt i _ e hoi he hb
              have h2 := ih e.on h1 (by omega)
              have h3 : e.on < listed.size := by rw [hI.lsz]; omega
              simpa [h3] using h2⟩
            rw [hr] at this; cases this
    obtain ⟨h1, h2⟩ := draw_end hI (fun i hi => by
      have := hall (i + 1) i (by omega) hi
      have h3 : i < listed.size := by rw [hI.lsz]; omega
      simpa [h3] using this) h
    exact hQ tmps H act w E h1 h2 hI.rel hI.ext hI.defs
  intro fuel
  induction fuel with
  | zero =>
    intro listed act w cf E H dn tmps rs hf hI h
    have hr : Region.ready .any ops listed = [] := by
      cases hr : Region.ready .any ops listed with
      | nil => rfl
      | cons i r =>
        have hm : i ∈ Region.ready .any ops listed := by rw [hr]; simp
        obtain ⟨h1, o, ho, _⟩ := mem_ready.1 hm
        have : i ∈ (List.range ops.size).filter fun i => !listed.getD i true := List.mem_filter.2 ⟨List.mem_range.2 (Array.getElem?_eq_some_iff.1 ho).1, by rw [h1]; rfl⟩
        have := List.length_pos_of_mem this
        omega
    exact ⟨hr, hdone listed act w cf E H dn tmps rs hr hI h⟩
  | succ fuel ih =>
    intro listed act w cf E H dn tmps rs hf hI h
    refine ⟨fun hr => hdone listed act w cf E H dn tmps rs hr hI h, fun i hi => ?_⟩
    obtain ⟨h1, o, ho, hall⟩ := mem_ready.1 hi
    have hil : i < ops.size := (Array.getElem?_eq_some_iff.1 ho).1
    have hil2 : i < listed.size := by rw [hI.lsz]; exact hil
    have hl : listed.getD i false = false := by simpa [hil2] using h1
    have hfilter : ((List.range ops.size).filter fun k => !(listed.setIfInBounds i true).getD k true).length ≤ fuel := by
      have hlt : ((List.range ops.size).filter fun k => !(listed.setIfInBounds i true).getD k true).length < ((List.range ops.size).filter fun k => !listed.getD k true).length := by
        have e : ((List.range ops.size).filter fun k => !(listed.setIfInBounds i true).getD k true) = ((List.range ops.size).filter fun k => !listed.getD k true).filter fun k => k != i := by
          rw [List.filter_filter]
          refine List.filter_congr fun k hk => ?_
          by_cases hki : k = i
          · subst hki
            simp [hil2]
          · rw [getD_set_ne true (Ne.symm hki)]
            simp [hki]
        rw [e]
        refine List.length_filter_lt_length_iff_exists.2 ⟨i, List.mem_filter.2 ⟨List.mem_range.2 hil, by rw [h1]; rfl⟩, by simp⟩
      omega
    exact draw_step hP hc hρ hC h0 ho hl hall (fun cf E H w act dn tmps rs hI' h' => ih _ act w cf E H dn tmps rs hfilter hI' h') cf dn tmps H rs hI h
end

/-- **a region that draws its order**: whatever order is drawn. -/
theorem evDraw_sound (hP : Plain P) (hm : P.follows .mixedOrders = true) {call : CallF} (hc : CallOK P ρ call) (hρ : ∀ i, (ρ i).oneCell' = true) {id : Nat} {ro : Option Nat} {Q : Exit → Act → World → Prop} {E : Env} {H : AH} {w : World} {act : Act} {tmps : List AV} {K : List AV → AH → Bool}
    (hok : drawOK ops.toList = true) (h : evDraw P call ops (idxs ops.toList 0) (closures ops.toList []) (2 * ops.toList.length + 1) 0 tmps H [] K = true) (hR : Rel ρ E H w) (ht : VRs ρ E tmps act.tmps.toList)
    (hQ : ∀ tmps' H' a' w' E', K tmps' H' = true → VRs ρ E' tmps' a'.tmps.toList → Rel ρ E' H' w' → Ext E H w E' H' w' → a'.defers = act.defers → Q .normal a' w') :
    (Code.region id ops true).wpIn (FW ro) 0 P Q act w := by
  refine wpIn_region_any hm ?_
  have hC := clear_of hok
  have hb0 : ∀ k, bit 0 k = false := fun k => Nat.zero_testBit k
  have hl0 : ∀ k, (Array.replicate ops.size false).getD k false = false := fun k => by
    by_cases hk : k < ops.size <;> simp [hk]
  refine draw_any (tmps0 := tmps) (a0 := act) (E0 := E) (H0 := H) (w0 := { w with drawn := w.drawn + 1 }) hP hc hρ hC ht (fun tmps' H' a' w' E' h1 h2 h3 h4 h5 => hQ tmps' H' a' w' E' h1 h2 h3 (Ext.heap (w := w) (W := { w with drawn := w.drawn + 1 }) rfl rfl rfl rfl h4) h5) ops.size _ act _ _ E H 0 tmps [] ?_ ?_ h
  · have := List.length_filter_le (fun i => !(Array.replicate ops.size false).getD i true) (List.range ops.size)
    rwa [List.length_range] at this
  · refine ⟨by simp, fun i o hi => ?_, fun i o hi => ?_, fun i hi => ?_, hR.same rfl, .refl, by have := ht.length; simpa using this.symm, rfl, rfl, fun t hw => ?_, fun t _ => rfl, fun t _ => rfl, fun i o hi => ?_, (fun q hq => nomatch hq), (fun q hq => nomatch hq)⟩
    · replace hi : (Array.replicate ops.size false).getD i false = true := hi
      rw [hl0] at hi; cases hi
    · replace hi : bit 0 i = true := hi
      rw [hb0] at hi; cases hi
    · rw [hl0] at hi; cases hi
    · have := ht.get t
      simpa using this
    · rw [hb0] at hi; cases hi
end Go.Proofs.Ytkdmlpmjfnjnmaa.Sv
