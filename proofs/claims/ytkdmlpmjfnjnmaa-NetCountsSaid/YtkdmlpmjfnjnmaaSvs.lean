import Derived.Test.YtkdmlpmjfnjnmaaSvr
/-! code, calls. -/
namespace Go.Proofs.Ytkdmlpmjfnjnmaa.Sv
open Go Go.RowKit
set_option linter.unusedVariables false
set_option linter.unusedSimpArgs false
variable {P : Program} {ρ : Ctx} {E : Env} {H : AH} {w : World}

def exOf : Ex → Exit
  | .normal => .normal
  | .exit id => .exit id
  | .goto l => .goto l
  | .ret => .ret

/-- the marks that loops over functions leave: their blocks lie from lo on, and no name stands for them. -/
structure Marks (lo : Nat) (E : Env) (w : World) (ds : List Deferred) : Prop where
  all : ∀ d ∈ ds, ∃ r, d.target = .collected r ∧ lo ≤ r ∧ w.heap[r]? = some (.deferred (some [])) ∧ ∀ b rb, E b = some rb → rb.blk ≠ r
  nd : ds.Pairwise fun d d' => d.target ≠ d'.target
theorem Marks.nil {lo : Nat} : Marks lo E w [] := ⟨by simp, .nil⟩
theorem Marks.ext {lo : Nat} {ds : List Deferred} {E' : Env} {H' : AH} {w' : World} (h : Marks lo E w ds) (hX : Ext E H w E' H' w') : Marks lo E' w' ds := by
  refine ⟨fun d hd => ?_, h.nd⟩
  obtain ⟨r, h1, h2, h3, h4⟩ := h.all d hd
  have hlt : r < w.heap.size := (Array.getElem?_eq_some_iff.1 h3).1
  refine ⟨r, h1, h2, by rw [hX.old r hlt h4]; exact h3, fun b rb hb => ?_⟩
  cases he : E b with
  | some r0 =>
    have := hX.le _ _ he
    rw [hb] at this; cases this
    exact h4 b rb he
  | none =>
    rcases (hX.fresh b rb hb he).2 with hx | ⟨b0, r0, h0, e⟩
    · omega
    · rw [← e]; exact h4 b0 r0 h0
theorem Rel.extra {w' : World} {o : Obj} (h : Rel ρ E H w) (hp : Pushed w w' o) : Rel ρ E H w' :=
  ⟨h.dom, fun b r hb => by
    obtain ⟨h1, k, h2, h3⟩ := h.blk b r hb
    exact ⟨by rw [hp.size]; omega, k, h2, by rw [hp.old _ h1]; exact h3⟩, h.inj, h.mem, fun i o hi => ⟨by rw [hp.old i (h.dat_lt hi)]; exact (h.dat i o hi).1, (h.dat i o hi).2⟩⟩
theorem Pushed.ext0 {w' : World} {o : Obj} (hp : Pushed w w' o) : Ext E H w E H w' :=
  ⟨.rfl', fun _ _ h => .inl h, hp.os, hp.tape, hp.output, by rw [hp.size]; omega, fun i hi _ => hp.old i hi, fun b r h h' => by rw [h'] at h; (cases h), Nat.le_refl _, fun _ _ _ _ => ⟨rfl, rfl⟩⟩

theorem run_getLoop {r : Nat} {l : Loop} (h : w.heap[r]? = some (.loop l)) : (Instr.getLoop r).run P w = .ok l w := by
  have := run_getObj (P := P) h (fun _ _ _ h => by cases h)
  simp only [Instr.getLoop, Sem.run_bind, this, Result.andThen_ok, Sem.run_pure]

/-- a loop's record is turned. -/
theorem loop_turn (hR : Rel ρ E H w) {b : Nat} {r : RB} (hb : E b = some r) {K : AH → Bool} (h : H.own b K = true) :
    ∃ H1, K H1 = true ∧ Ext E H w E H1 w ∧ ∀ c st pend t ps as bd, H1.tr.get b = some (.loop c st pend t ps as bd) → ∃ l : Loop, w.heap[r.blk]? = some (.loop l) ∧ stOf l.state = st ∧ l.pending = pend ∧ VRs ρ E t l.tmps.toList ∧ l.params.toList = ps ∧ l.assign = as ∧ l.body = bd ∧
      ∀ (st' : LoopState) (pend' : Option Code) (K' : AH → Bool), H1.put b (.loop c (stOf st') pend' t ps as bd) K' = true →
        ∃ H2, K' H2 = true ∧ Rel ρ E H2 { w with heap := w.heap.setIfInBounds r.blk (.loop { l with state := st', pending := pend' }) } ∧ Ext E H w E H2 { w with heap := w.heap.setIfInBounds r.blk (.loop { l with state := st', pending := pend' }) } := by
  obtain ⟨H1, h1, hR1, hX1, hal, _, _, _⟩ := hR.own hb h
  refine ⟨H1, h1, hX1, fun c st pend t ps as bd hg => ?_⟩
  obtain ⟨_, k, hk, hB⟩ := hR1.blk b r hb
  rw [hg] at hk; cases hk
  obtain ⟨l, hw, e1, e2, e3, e4, e5, e6⟩ := hB
  refine ⟨l, hw, e1, e2, e3, e4, e5, e6, fun st' pend' K' hp => ?_⟩
  obtain ⟨H2, h2, hn, hm, hg2⟩ := put_spec hp
  have hcls : H1.clsOf b = some c := by simp [AH.clsOf, hg, Blk.cls]
  obtain ⟨hR2, hX2⟩ := hR1.turn hb hal hcls (k := .loop c (stOf st') pend' t ps as bd) rfl hn hm hg2 (turned_set (o' := .loop { l with state := st', pending := pend' }) hw) ⟨_, rfl, rfl, rfl, e3, e4, e5, e6⟩
  exact ⟨H2, h2, hR2, hX1.trans hX2⟩

theorem endLoop_sound (hR : Rel ρ E H w) {b : Nat} {r : RB} (hb : E b = some r) {K : Option Code → AH → Bool} (h : endLoop H b K = true) :
    ∃ j H' w', K j H' = true ∧ (Instr.endLoop r.blk).run P w = .ok j w' ∧ Rel ρ E H' w' ∧ Ext E H w E H' w' := by
  unfold endLoop at h
  obtain ⟨H1, h1, _, hl⟩ := loop_turn hR hb h
  clear h
  split at h1
  · rename_i c st pend t ps as bd hg
    obtain ⟨l, hw, e1, e2, _, _, _, _, hput⟩ := hl c st pend t ps as bd hg
    rcases cond_split (p := fun z => z = true) h1 with ⟨_, h2⟩ | ⟨hst, h2⟩
    · cases h2
    · obtain ⟨H2, h3, hR2, hX2⟩ := hput .exhausted pend _ h2
      have hbusy : (l.state == LoopState.busy) = false := by
        have := beq_false'.1 hst
        cases hs : l.state <;> simp [hs, stOf] at e1 <;> first | rfl | (subst e1; exact absurd rfl this)
      refine ⟨pend, H2, _, h3, ?_, hR2, hX2⟩
      have hset := run_setObj' (P := P) (.loop { l with state := .exhausted, pending := pend }) hw (fun _ _ _ h => by cases h)
      have e : ({ l with state := .exhausted } : Loop) = { l with state := .exhausted, pending := pend } := by rw [← e2]
      simp only [Instr.endLoop, Sem.run_bind, run_getLoop hw, Result.andThen_ok, hbusy, Bool.false_eq_true, if_false, e, hset, Sem.run_pure, e2]
  · cases h1

/-- a loop with a ghost that falls. -/
theorem wpIn_loop_ghost {F : Fence} {n : Nat} {c : Code} {Q : Exit → Act → World → Prop} {a : Act} {w : World} (I : Nat → Act → World → Prop) (j : Nat) (h₀ : I j a w)
    (round : ∀ j a w, I j a w → c.wpIn F n P (Exit.then (fun a' w' => ∃ j', j' < j ∧ I j' a' w') Q) a w) : (Code.loop c).wpIn F n P Q a w := by
  intro b k cs hro hb hr
  have key : ∀ j a w, I j a w →
      ∃ e a' w', Q e a' w' ∧ ArrivesIn (Machine.fenced P F) P (lone (b.atR a (.code c :: .inLoop c :: k)) cs w) b k cs e a' w' := by
    intro j
    induction j using Nat.strongRecOn with
    | _ j ih =>
      intro a w hI
      obtain ⟨e, a₁, w₁, hq, harr⟩ := round j a w hI b (.inLoop c :: k) cs hro hb hr
      cases e with
      | normal =>
        obtain ⟨j', hlt, hI₁⟩ := hq
        obtain ⟨e₂, a₂, w₂, hq₂, harr₂⟩ := ih j' hlt a₁ w₁ hI₁
        exact ⟨e₂, a₂, w₂, hq₂, .of_steps (StepsIn.trans harr (.one (fenced_calm hb hr rfl) stepR_inLoop)) harr₂⟩
      | exit id => exact ⟨_, a₁, w₁, hq, .pass (x := .inLoop c) rfl (fun _ _ => .inl (by simp)) harr⟩
      | goto l => exact ⟨_, a₁, w₁, hq, .pass (x := .inLoop c) rfl (fun _ _ => .inl (by simp)) harr⟩
      | ret => exact ⟨_, a₁, w₁, hq, .pass (x := .inLoop c) rfl (fun _ _ => .inl (by simp)) harr⟩
      | panic ch => exact ⟨_, a₁, w₁, hq, .pass (x := .inLoop c) rfl (fun _ _ => .inl (by simp)) harr⟩
      | outgrown => exact ⟨_, a₁, w₁, hq, .pass (x := .inLoop c) rfl (fun _ _ => .inl (by simp)) harr⟩
  obtain ⟨e, a', w', hq, harr⟩ := key j a w h₀
  exact ⟨e, a', w', hq, .of_steps (.one (fenced_calm hb hr rfl) stepR_loop) harr⟩

def CodeOK (P : Program) (ρ : Ctx) (call : CallF) (rd : Bool) (ro : Option Nat) (lo : Nat) (n : Nat) : Prop :=
  ∀ (c : Code) (tmps : List AV) (H : AH) (K : Ex → List AV → AH → Bool) (act : Act) (w : World) (E : Env) (Q : Exit → Act → World → Prop), evCode P call rd n c tmps H K = true → Rel ρ E H w → VRs ρ E tmps act.tmps.toList → lo ≤ w.heap.size → Marks lo E w act.defers →
      (∀ e tmps' H' a' w' E', K e tmps' H' = true → VRs ρ E' tmps' a'.tmps.toList → Rel ρ E' H' w' → Ext E H w E' H' w' → Marks lo E' w' a'.defers → Q (exOf e) a' w') → c.wpIn (FW ro) 0 P Q act w
theorem code_step (hP : Plain P) (hm : P.follows .mixedOrders = true) {call : CallF} (hc : CallOK P ρ call) (hρ : ∀ i, (ρ i).oneCell' = true) {rd : Bool} {ro : Option Nat} (hro : rd = false → ro = none) {lo : Nat} :
    ∀ (n : Nat), (∀ m, m < n → CodeOK P ρ call rd ro lo m) → CodeOK P ρ call rd ro lo n
  | 0, _ => fun c tmps H K act w E Q h _ _ _ _ _ => by cases h
  | n + 1, ih => fun c tmps H K act w E Q h hR ht hlo hM hQ => by
    have ihn := ih n (Nat.lt_succ_self n)
    cases c with
    | skip => exact wpIn_skip (hQ .normal tmps H act w E h ht hR .refl hM)
    | label l => exact wpIn_label (hQ .normal tmps H act w E h ht hR .refl hM)
    | exit id => exact wpIn_exit (hQ (.exit id) tmps H act w E h ht hR .refl hM)
    | goto l => exact wpIn_goto (hQ (.goto l) tmps H act w E h ht hR .refl hM)
    | ret => exact wpIn_ret (hQ .ret tmps H act w E h ht hR .refl hM)
    | refuse why => cases h
    | scope b => cases h
    | region id ops d =>
      cases d with
      | false =>
        refine wpIn_region_list (evOps_sound hP hc hρ _ tmps H _ act w E h hR ht fun t2 H2 a2 w2 E2 k1 k2 k3 k4 k5 => ?_)
        exact hQ .normal t2 H2 a2 w2 E2 k1 k2 k3 k4 (by rw [k5]; exact hM.ext k4)
      | true =>
        obtain ⟨hok, h⟩ := cond_true' h
        refine evDraw_sound hP hm hc hρ hok h hR ht fun t2 H2 a2 w2 E2 k1 k2 k3 k4 k5 => ?_
        exact hQ .normal t2 H2 a2 w2 E2 k1 k2 k3 k4 (by rw [k5]; exact hM.ext k4)
    | seq a b =>
      refine wpIn_seq (ihn a tmps H _ act w E _ h hR ht hlo hM fun e t2 H2 a2 w2 E2 k1 k2 k3 k4 k5 => ?_)
      cases e with
      | normal => exact ihn b t2 H2 K a2 w2 E2 Q k1 k3 k2 (Nat.le_trans hlo k4.size) k5 fun e t3 H3 a3 w3 E3 l1 l2 l3 l4 l5 => hQ e t3 H3 a3 w3 E3 l1 l2 l3 (k4.trans l4) l5
      | exit id => exact hQ (.exit id) t2 H2 a2 w2 E2 k1 k2 k3 k4 k5
      | goto l => exact hQ (.goto l) t2 H2 a2 w2 E2 k1 k2 k3 k4 k5
      | ret => exact hQ .ret t2 H2 a2 w2 E2 k1 k2 k3 k4 k5
    | cond x a b =>
      unfold evCode at h
      simp only at h
      have hx : ∀ v, aop tmps x = some v → VR ρ E v (act.eval x) := fun v hv => aop_sound hv fun t _ => by have := ht.get t; simpa using this
      split at h
      · rename_i hv
        have e := hx _ hv
        generalize hc0 : act.eval x = vx at e
        cases e
        exact wpIn_cond_true hc0 (ihn a tmps H K act w E Q h hR ht hlo hM hQ)
      · rename_i hv
        have e := hx _ hv
        generalize hc0 : act.eval x = vx at e
        cases e
        exact wpIn_cond_false hc0 (ihn b tmps H K act w E Q h hR ht hlo hM hQ)
      · rename_i hv
        have e := hx _ hv
        generalize hc0 : act.eval x = vx at e
        split at h
        · rename_i ha
          cases e with
          | unkB t =>
            cases t with
            | true => exact wpIn_cond_true hc0 (ihn a tmps H K act w E Q ha hR ht hlo hM hQ)
            | false => exact wpIn_cond_false hc0 (ihn b tmps H K act w E Q h hR ht hlo hM hQ)
        · cases h
      · rename_i hv
        have e := hx _ hv
        generalize hc0 : act.eval x = vx at e
        cases e with
        | sbool t =>
          rcases fork_split' h with ⟨hc, h'⟩ | ⟨hc, h'⟩
          · subst hc; exact wpIn_cond_true hc0 (ihn a tmps H K act w E Q h' hR ht hlo hM hQ)
          · subst hc; exact wpIn_cond_false hc0 (ihn b tmps H K act w E Q h' hR ht hlo hM hQ)
      · cases h
    | block id b =>
      refine wpIn_block (ihn b tmps H _ act w E _ h hR ht hlo hM fun e t2 H2 a2 w2 E2 k1 k2 k3 k4 k5 => ?_)
      cases e with
      | normal => exact hQ .normal t2 H2 a2 w2 E2 k1 k2 k3 k4 k5
      | exit j =>
        show (if j = id then Q .normal a2 w2 else Q (.exit j) a2 w2)
        rcases cond_split (p := fun z => z = true) k1 with ⟨hj, k1⟩ | ⟨hj, k1⟩
        · rw [if_pos (beq_iff'.1 hj)]; exact hQ .normal t2 H2 a2 w2 E2 k1 k2 k3 k4 k5
        · rw [if_neg (beq_false'.1 hj)]; exact hQ (.exit j) t2 H2 a2 w2 E2 k1 k2 k3 k4 k5
      | goto l => exact hQ (.goto l) t2 H2 a2 w2 E2 k1 k2 k3 k4 k5
      | ret => exact hQ .ret t2 H2 a2 w2 E2 k1 k2 k3 k4 k5
    | loop b =>
      refine wpIn_loop_ghost (fun j a' w' => j ≤ n + 1 ∧ ∃ tmps' H' E', evCode P call rd j (.loop b) tmps' H' K = true ∧ Rel ρ E' H' w' ∧ VRs ρ E' tmps' a'.tmps.toList ∧ Ext E H w E' H' w' ∧ Marks lo E' w' a'.defers) (n + 1) ⟨Nat.le_refl _, tmps, H, E, h, hR, ht, .refl, hM⟩ ?_
      rintro j a1 w1 ⟨hj, t1, H1, E1, k1, k2, k3, k4, k5⟩
      cases j with
      | zero => cases k1
      | succ j =>
        refine ih j (by omega) b t1 H1 _ a1 w1 E1 _ k1 k2 k3 (Nat.le_trans hlo k4.size) k5 fun e t2 H2 a2 w2 E2 l1 l2 l3 l4 l5 => ?_
        cases e with
        | normal => exact ⟨j, Nat.lt_succ_self j, by omega, t2, H2, E2, l1, l3, l2, k4.trans l4, l5⟩
        | exit id => exact hQ (.exit id) t2 H2 a2 w2 E2 l1 l2 l3 (k4.trans l4) l5
        | goto l => exact hQ (.goto l) t2 H2 a2 w2 E2 l1 l2 l3 (k4.trans l4) l5
        | ret => exact hQ .ret t2 H2 a2 w2 E2 l1 l2 l3 (k4.trans l4) l5
    | rangeFunc f ps as bd =>
      unfold evCode at h
      simp only at h
      split at h
      · rename_i g first caught hf
        have hro0 : ro = none := hro rfl
        subst hro0
        have hx : VR ρ E (.fn g first caught) (act.eval f) := aop_sound hf fun t _ => by have := ht.get t; simpa using this
        generalize hf0 : act.eval f = vf at hx
        cases hx with
        | fn _ _ _ x y hx hy =>
        refine wpIn_rangeFunc fun fn hfn => ?_
        -- the block for the rounds' deferred calls, and the loop's record
        let wd : World := { w with heap := w.heap.push (.deferred (some [])) }
        have hpd : Pushed w wd (.deferred (some [])) := pushed_new w _
        let lp : Loop := { state := .ready, pending := none, fn, tmps := act.tmps, params := ps, assign := as, body := bd, defers := w.heap.size }
        let w1 : World := { wd with heap := wd.heap.push (.loop lp) }
        have hp1 : Pushed wd w1 (.loop lp) := pushed_new wd _
        have hRd := hR.extra hpd
        have hXd : Ext E H w E H wd := hpd.ext0
        obtain ⟨H1, E1, k1, hR1, hX1, hb1⟩ := hRd.make h hp1 (sz := 0) (z := 1) fun E' hE hb => ⟨lp, rfl, rfl, rfl, ht.mono hE, rfl, rfl, rfl⟩
        have hX01 := hXd.trans hX1
        have hsz : wd.heap.size = w.heap.size + 1 := by simp [wd]
        have hargs : VRs ρ E1 (first ++ [.yield H.next] ++ caught) (x ++ #[Value.func (.yield wd.heap.size) #[] #[]] ++ y).toList := by
          rw [Array.toList_append, Array.toList_append]
          exact ((hx.mono hX01.le).append (.cons _ _ _ _ (.yield _ _ hb1) .nil)).append (hy.mono hX01.le)
        obtain ⟨⟨gf, hgf, hbody⟩, hcalls⟩ := hc (.fn g) _ H1 _ k1 E1 w1 _ hR1 hargs
        have hname := hP g gf hgf hbody
        have hb2 : gf.body.isNone = false := by cases hz : gf.body <;> simp [hz] at hbody ⊢
        have hMk : Marks lo E1 w1 ({ target := .collected w.heap.size, args := #[] } :: act.defers) := by
          have hMo := (hM.ext hX01)
          refine ⟨fun d hd => ?_, ?_⟩
          · rcases List.mem_cons.1 hd with rfl | hd
            · refine ⟨w.heap.size, rfl, hlo, ?_, fun b rb hb => ?_⟩
              · rw [hp1.old _ (by omega)]
                exact hpd.at_
              · cases he : E b with
                | some r0 =>
                  have := hX01.le _ _ he
                  rw [hb] at this; cases this
                  have := (hR.blk b _ he).1
                  omega
                | none =>
                  rcases (hX1.fresh b rb hb he).2 with hx | ⟨b0, r0, h0, e⟩
                  · omega
                  · have := (hR.blk b0 r0 h0).1
                    omega
            · exact hMo.all d hd
          · refine List.pairwise_cons.2 ⟨fun d hd e => ?_, hM.nd⟩
            obtain ⟨r, h1, _, h3, _⟩ := hM.all d hd
            rw [h1] at e
            simp only [Target.collected.injEq] at e
            have := (Array.getElem?_eq_some_iff.1 h3).1
            omega
        refine ⟨wd.heap.size, [{ target := .collected w.heap.size, args := #[] }], w1, { target := .fn (.func g) y, args := x ++ #[Value.func (.yield wd.heap.size) #[] #[]] }, w1, g, x ++ #[Value.func (.yield wd.heap.size) #[] #[]] ++ y, w1, ?_, ?_, fun f' _ => FW.fn none f', ?_, FW.depth none, ?_⟩
        · have : (FW none).round = none := rfl
          rw [this]
          simp only [Instr.enterLoop, Sem.run_bind, newObj, Sem.run, Result.andThen_ok, Sem.run_pure]
          rfl
        · simp only [resolve, hf0, Deferred.ofValue, Sem.run_pure, List.map_toArray, List.map_cons, List.map_nil]
          rfl
        · simp only [invoke, callFunc, program, Sem.run_bind, Sem.run, hgf, Result.andThen_ok, hname, hb2, Bool.false_eq_true, if_false]
          rfl
        · refine CallsIn.mono (hcalls : CallsIn (FW none) (0 - 1) P g _ w1 _) ?_
          rintro e w3 ⟨xv, H2, v, E2, rfl, m1, m2, m3, m4⟩
          obtain ⟨j, H3, w4, n1, n2, n3, n4⟩ := endLoop_sound (P := P) m3 (m4.le _ _ hb1) m1
          have hXall := hX01.trans (m4.trans n4)
          have hM3 := hMk.ext (m4.trans n4)
          have ht3 : VRs ρ E2 tmps act.tmps.toList := ht.mono hXall.le
          refine ⟨j, w4, n2, ?_⟩
          cases j with
          | none => exact hQ .normal tmps H3 _ w4 E2 n1 ht3 n3 hXall hM3
          | some c => exact ihn c tmps H3 K _ w4 E2 Q n1 n3 ht3 (Nat.le_trans hlo hXall.size) hM3 fun e t5 H5 a5 w5 E5 o1 o2 o3 o4 o5 => hQ e t5 H5 a5 w5 E5 o1 o2 o3 (hXall.trans o4) o5
      · cases h
theorem evCode_sound (hP : Plain P) (hm : P.follows .mixedOrders = true) {call : CallF} (hc : CallOK P ρ call) (hρ : ∀ i, (ρ i).oneCell' = true) {rd : Bool} {ro : Option Nat} (hro : rd = false → ro = none) {lo : Nat} (n : Nat) : CodeOK P ρ call rd ro lo n := by
  induction n using Nat.strongRecOn with
  | _ n ih => exact code_step hP hm hc hρ hro n ih
end Go.Proofs.Ytkdmlpmjfnjnmaa.Sv
