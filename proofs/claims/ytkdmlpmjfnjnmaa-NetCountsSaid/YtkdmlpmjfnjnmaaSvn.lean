import Derived.Test.YtkdmlpmjfnjnmaaSvm
import Derived.RangeFuncIn
import Derived.RangeFuncLeaves
import Derived.OrdersIn
import Derived.TacticsIn
/-! operations in a row. -/
namespace Go.Proofs.Ytkdmlpmjfnjnmaa.Sv
open Go Go.RowKit
set_option linter.unusedVariables false
set_option linter.unusedSimpArgs false
variable {P : Program} {ρ : Ctx} {E : Env} {H : AH} {w : World}

/-- no fence; in a round of a loop over a function, if ro names one. -/
def FW (ro : Option Nat) : Fence := { Fence.wide with round := ro }
theorem FW.fn (ro : Option Nat) (f : FuncId) : (FW ro).fn f := trivial
theorem FW.depth (ro : Option Nat) : (FW ro).depth.isSome = true → 1 ≤ 0 := fun h => by cases h

/-- what a call tells. -/
def After (ρ : Ctx) (E : Env) (H : AH) (w : World) (K : AV → AH → Bool) : Ending → World → Prop := fun e w' =>
  ∃ x H' v E', e = .returned v ∧ K x H' = true ∧ VR ρ E' x v ∧ Rel ρ E' H' w' ∧ Ext E H w E' H' w'
/-- a way of calling that tells what is told. -/
def CallOK (P : Program) (ρ : Ctx) (call : CallF) : Prop :=
  ∀ (t : Tgt) (args : List AV) (H : AH) (K : AV → AH → Bool), call t args H K = true → ∀ (E : Env) (w : World) (vs : Array Value), Rel ρ E H w → VRs ρ E args vs.toList →
    match t with
    | .fn f => (∃ fn, P.funcs[f]? = some fn ∧ fn.body.isSome = true) ∧ CallsIn (FW none) 0 P f vs w (After ρ E H w K)
    | .yield b => ∀ r, E b = some r → ∃ l : Loop, w.heap[r.blk]? = some (.loop l) ∧ vs.size = l.params.size ∧
        RoundIn (FW none) 0 P r.blk l.fn ((l.params.zip vs).foldl (fun tmps (t, a) => tmps.setIfInBounds t a) l.tmps) l.assign l.body w (After ρ E H w K)
/-- no function with a body has the name of which the model knows by itself. -/
def Plain (P : Program) : Prop := ∀ (f : FuncId) (fn : Func), P.funcs[f]? = some fn → fn.body.isSome = true → (fn.name == "runtime.NumGoroutine") = false

theorem VRs.set {l : List AV} {m : List Value} (h : VRs ρ E l m) (n : Nat) {a : AV} {v : Value} (ha : VR ρ E a v) : VRs ρ E (l.set n a) (m.set n v) := by
  induction n generalizing l m with
  | zero => cases h with
    | nil => exact .nil
    | cons _ _ _ _ h t => exact .cons _ _ _ _ ha t
  | succ n ih => cases h with
    | nil => exact .nil
    | cons _ _ _ _ h t => exact .cons _ _ _ _ h (ih t)
theorem put_tmps {tmps : List AV} {d : Option Nat} {a : AV} {K : List AV → Bool} (h : put tmps d a K = true) {act : Act} (ht : VRs ρ E tmps act.tmps.toList) {v : Value} (hv : VR ρ E a v) :
    ∃ tmps', K tmps' = true ∧ VRs ρ E tmps' (act.put d v).tmps.toList := by
  cases d with
  | none => exact ⟨tmps, h, ht⟩
  | some d =>
    unfold put at h
    simp only [fd_eq] at h
    refine ⟨tmps.set d a, aset_spec _ _ _ _ h, ?_⟩
    simp only [Act.put, Array.toList_setIfInBounds]
    exact ht.set d hv
theorem tmpOK_of {tmps : List AV} {act : Act} (ht : VRs ρ E tmps act.tmps.toList) (xs : Array Operand) : TmpOK ρ E tmps act xs := fun t _ => by
  have := ht.get t
  simpa using this
theorem wanted_sound {ops : Array Oper} {tmps : List AV} {o : Oper} {b : Bool} (h : wantedA ops tmps o = some b) {act : Act}
    (hg : ∀ j want q d, o.guard = some (j, want) → ops[j]? = some q → q.dst = some d → VR ρ E (aget tmps d) (act.tmps.getD d undef)) : Region.wanted o (yielded ops act.tmps) = b := by
  unfold wantedA at h
  unfold Region.wanted
  split at h
  · rename_i hn
    simp at h; subst h
    rw [hn]
  · rename_i j want hn
    rw [hn]
    split at h
    · rename_i q r hq
      have hqj : ops[j]? = some q := by
        have : (ops.toList.drop j).head? = some q := by rw [hq]; rfl
        rw [List.head?_drop] at this
        simpa using this
      split at h
      · rename_i d hd
        have hv := hg j want q d hn hqj hd
        have hy : ∀ c, act.tmps.getD d undef = c → yielded ops act.tmps j = (match c with | .bool b => some b | _ => none) := by
          intro c hc
          unfold yielded
          rw [hqj, Option.bind_some, hd, Option.bind_some]
          rw [Array.getD_eq_getD_getElem?] at hc
          cases hz : act.tmps[d]? with
          | none => rw [hz] at hc; simp at hc; subst hc; rfl
          | some u => rw [hz] at hc; simp at hc; subst hc; cases u <;> rfl
        show (yielded ops act.tmps j == some want) = b
        split at h
        · rename_i b' hb'
          rw [hb'] at hv
          generalize hc : act.tmps.getD d undef = c at hv
          cases hv
          simp at h; subst h
          rw [hy _ hc]
          cases b' <;> cases want <;> rfl
        · rename_i hb'
          rw [hb'] at hv
          generalize hc : act.tmps.getD d undef = c at hv
          cases hv
          simp at h; subst h
          rw [hy _ hc]
          rfl
        · cases h
      · cases h
    · cases h

theorem wp_value {ro : Option Nat} {o : Oper} {act : Act} {next : Act → World → Prop} {Q : Exit → Act → World → Prop} (hd : ∀ c, o.op ≠ .defer c) {v : Value} {w' : World} (h : (execOp act.eval o).run P w = .ok (.value v) w') (hn : next (act.put o.dst v) w') : o.wpIn (FW ro) 0 P act w next Q := by
  refine ⟨fun f _ => FW.fn ro f, ?_⟩
  rw [Oper.semAt_eq _ _ _ hd, h]
  exact hn
theorem wp_skip' {ro : Option Nat} {o : Oper} {act : Act} {next : Act → World → Prop} {Q : Exit → Act → World → Prop} (hd : ∀ c, o.op ≠ .defer c) {w' : World} (h : (execOp act.eval o).run P w = .ok .skip w') (hn : next (act.put o.dst undef) w') : o.wpIn (FW ro) 0 P act w next Q := by
  refine ⟨fun f _ => FW.fn ro f, ?_⟩
  rw [Oper.semAt_eq _ _ _ hd, h]
  exact hn
theorem evR_defer {tmps : List AV} {o : Oper} {K : Res → Bool} (h : evR P H tmps o K = true) : ∀ c, o.op ≠ .defer c := fun c hc => by
  rw [evR_eq] at h; unfold evR0 at h; rw [hc] at h; cases h
theorem evE_defer {tmps : List AV} {o : Oper} {K : AV → AH → Bool} (h : evE P H tmps o K = true) : ∀ c, o.op ≠ .defer c := fun c hc => by
  unfold evE at h; rw [hc] at h; cases h

/-- a value's operation. -/
theorem done_sound (hρ : ∀ i, (ρ i).oneCell' = true) (hR : Rel ρ E H w) {tmps : List AV} {act : Act} {o : Oper} (hT : TmpOK ρ E tmps act o.op.operands) {K : AV → AH → Bool} (h : (evR P H tmps o fun q => done H q K) = true)
    {ro : Option Nat} {next : Act → World → Prop} {Q : Exit → Act → World → Prop} (hn : ∀ x H' E' v w', K x H' = true → VR ρ E' x v → Rel ρ E' H' w' → Ext E H w E' H' w' → next (act.put o.dst v) w') : o.wpIn (FW ro) 0 P act w next Q := by
  have hd := evR_defer h
  obtain ⟨q, hK, ht⟩ := evR_sound hρ hR hT h
  cases q with
  | val a =>
    obtain ⟨v, hr, hv⟩ := ht
    exact wp_value hd hr (hn a H E v w hK hv hR .refl)
  | new n s =>
    obtain ⟨w', obj, v, sz, z, hr, hp, hB⟩ := ht
    have hK' : H.alloc n (fun H' => K (s.av H.next) H') = true := hK
    obtain ⟨H', E', h1, h2, h3, h4⟩ := hR.make (K := fun H' => K (s.av H.next) H') hK' hp (fun E' hE hb => (hB E' _ hE hb).1)
    exact wp_value hd hr (hn _ H' E' v w' h1 (hB E' _ h3.le h4).2 h2 h3)

theorem evW_sound (hP : Plain P) {call : CallF} (hc : CallOK P ρ call) (hρ : ∀ i, (ρ i).oneCell' = true) (hR : Rel ρ E H w) {tmps : List AV} {act : Act} {o : Oper} (hT : TmpOK ρ E tmps act o.op.operands) {K : AV → AH → Bool} (h : evW P call H tmps o K = true)
    {ro : Option Nat} {next : Act → World → Prop} {Q : Exit → Act → World → Prop} (hn : ∀ x H' E' v w', K x H' = true → VR ρ E' x v → Rel ρ E' H' w' → Ext E H w E' H' w' → next (act.put o.dst v) w') : o.wpIn (FW ro) 0 P act w next Q := by
  unfold evW at h
  rcases cond_split (p := fun z => z = true) h with ⟨hk, h'⟩ | ⟨hk, h'⟩ <;> clear hk h <;> have h := h' <;> clear h'
  · have hd := evE_defer h
    obtain ⟨q, H', hK, v, w', E', hr, hv, hR', hX⟩ := evE_sound hρ hR hT h
    rcases hr with hr | ⟨hr, rfl⟩
    · exact wp_value hd hr (hn q H' E' v w' hK hv hR' hX)
    · exact wp_skip' hd hr (hn q H' E' undef w' hK hv hR' hX)
  · obtain ⟨dst, op, ty, pos, after, guard⟩ := o
    cases op
    case call c =>
      obtain ⟨cal, args, ats⟩ := c
      simp only at h
      split at h
      · rename_i t l hcl
        have hd : ∀ c', (Oper.mk dst (.call ⟨cal, args, ats⟩) ty pos after guard).op ≠ .defer c' := fun c' => by intro e; cases e
        unfold callee at hcl
        cases cal with
        | invoke r m => simp at hcl
        | builtin b => simp at hcl
        | value f =>
          simp only at hcl
          split at hcl
          · rename_i g first caught la h1 h2
            simp at hcl
            obtain ⟨rfl, rfl⟩ := hcl
            have e1 := aop_ok hT (by simp [Op.operands, Call.operands]) h1
            have e2 : VRs ρ E la (args.map act.eval).toList := by
              rw [Array.toList_map]
              exact aops_sound h2 fun t ht => hT t (by simp [Op.operands, Call.operands]; exact .inr (by simpa using ht))
            generalize hf : act.eval f = vf at e1
            cases e1 with
            | fn _ _ _ x y hx hy =>
              have hargs : VRs ρ E (first ++ la ++ caught) (x ++ args.map act.eval ++ y).toList := by
                rw [Array.toList_append, Array.toList_append]
                exact (hx.append e2).append hy
              obtain ⟨⟨fn, hfn, hbody⟩, hcalls⟩ := hc (.fn g) _ H K (by simpa using h) E w _ hR hargs
              have hname := hP g fn hfn hbody
              have hb2 : fn.body.isNone = false := by cases hz : fn.body <;> simp [hz] at hbody ⊢
              have hrun : (execOp act.eval ⟨dst, .call ⟨.value f, args, ats⟩, ty, pos, after, guard⟩).run P w = .ok (.enter g (x ++ args.map act.eval ++ y)) w := by
                simp only [execOp, resolve, hf, Deferred.ofValue, Sem.run_bind, Sem.run_pure, Result.andThen_ok, invoke, callFunc, program, Sem.run, hfn, hname, hb2, Bool.false_eq_true, if_false]
              refine ⟨fun f _ => FW.fn ro f, ?_⟩
              rw [Oper.semAt_eq _ _ _ hd, hrun]
              refine ⟨FW.depth ro, ?_⟩
              have hcalls' : CallsIn (FW ro) (0 - 1) P g (x ++ args.map act.eval ++ y) w (After ρ E H w K) := hcalls
              refine hcalls'.mono ?_
              rintro e w' ⟨x', H', v, E', rfl, h3, h4, h5, h6⟩
              exact hn x' H' E' v w' h3 h4 h5 h6
          · rename_i b la h1 h2
            simp at hcl
            obtain ⟨rfl, rfl⟩ := hcl
            have e1 := aop_ok hT (by simp [Op.operands, Call.operands]) h1
            have e2 : VRs ρ E la (args.map act.eval).toList := by
              rw [Array.toList_map]
              exact aops_sound h2 fun t ht => hT t (by simp [Op.operands, Call.operands]; exact .inr (by simpa using ht))
            generalize hf : act.eval f = vf at e1
            cases e1 with
            | yield _ r hb =>
              obtain ⟨l, hl, hsz, hround⟩ := hc (.yield b) _ H K (by simpa using h) E w _ hR e2 r hb
              have hobj := run_getObj (P := P) hl (fun _ _ _ h => by cases h)
              have hrun : (execOp act.eval ⟨dst, .call ⟨.value f, args, ats⟩, ty, pos, after, guard⟩).run P w = .ok (.round r.blk l.fn ((l.params.zip (args.map act.eval)).foldl (fun tmps (t, a) => tmps.setIfInBounds t a) l.tmps) l.assign l.body) w := by
                simp only [execOp, resolve, hf, Deferred.ofValue, Sem.run_bind, Sem.run_pure, Result.andThen_ok, invoke, Instr.yield, Instr.getLoop, hobj, Array.empty_append]
                rw [if_neg (by simpa using hsz)]
                rfl
              refine ⟨fun f _ => FW.fn ro f, ?_⟩
              rw [Oper.semAt_eq _ _ _ hd, hrun]
              refine ⟨FW.depth ro, ?_⟩
              have hround' : RoundIn (FW ro) (0 - 1) P r.blk l.fn ((l.params.zip (args.map act.eval)).foldl (fun tmps (t, a) => tmps.setIfInBounds t a) l.tmps) l.assign l.body w (After ρ E H w K) := hround
              refine hround'.mono ?_
              rintro e w' ⟨x', H', v, E', rfl, h3, h4, h5, h6⟩
              exact hn x' H' E' v w' h3 h4 h5 h6
          · cases hcl
      · cases h
    all_goals (cases h)

theorem sides_sound {K : AV → Bool} {x : AV} {v : Value} (h : sides x K = true) (hv : VR ρ E x v) : ∃ y, K y = true ∧ VR ρ E y v := by
  unfold sides at h
  split at h
  · cases hv with
    | unkB b =>
      split at h
      · rename_i h1
        cases b with
        | true => exact ⟨_, h1, .bool true⟩
        | false => exact ⟨_, h, .bool false⟩
      · cases h
  · cases hv with
    | sbool b =>
      rcases fork_split' h with ⟨hc, h'⟩ | ⟨hc, h'⟩
      · subst hc; exact ⟨_, h', .bool true⟩
      · subst hc; exact ⟨_, h', .bool false⟩
  · exact ⟨_, h, hv⟩
theorem evOps_sound (hP : Plain P) {call : CallF} (hc : CallOK P ρ call) (hρ : ∀ i, (ρ i).oneCell' = true) {ops : Array Oper} {ro : Option Nat} {Q : Exit → Act → World → Prop} : ∀ (l : List Oper) (tmps : List AV) (H : AH) (K : List AV → AH → Bool) (act : Act) (w : World) (E : Env),
    evOps P call ops l tmps H K = true → Rel ρ E H w → VRs ρ E tmps act.tmps.toList →
    (∀ tmps' H' a' w' E', K tmps' H' = true → VRs ρ E' tmps' a'.tmps.toList → Rel ρ E' H' w' → Ext E H w E' H' w' → a'.defers = act.defers → Q .normal a' w') → wpListIn (FW ro) 0 P ops Q l act w
  | [], tmps, H, K, act, w, E, h, hR, ht, hQ => hQ tmps H act w E h ht hR .refl rfl
  | o :: r, tmps, H, K, act, w, E, h, hR, ht, hQ => by
    unfold evOps at h
    have hput : ∀ d v, (act.put d v).defers = act.defers := fun d v => by cases d <;> rfl
    have hnext : ∀ (x : AV) (H' : AH) (E' : Env) (v : Value) (w' : World), (put tmps o.dst x fun tmps => evOps P call ops r tmps H' K) = true → VR ρ E' x v → Rel ρ E' H' w' → Ext E H w E' H' w' → wpListIn (FW ro) 0 P ops Q r (act.put o.dst v) w' := by
      intro x H' E' v w' hk hv hR' hX
      obtain ⟨tmps', h1, h2⟩ := put_tmps hk (ht.mono hX.le) hv
      refine evOps_sound hP hc hρ r tmps' H' K _ w' E' h1 hR' h2 fun t2 H2 a2 w2 E2 k1 k2 k3 k4 k5 => hQ t2 H2 a2 w2 E2 k1 k2 k3 (hX.trans k4) (k5.trans (hput _ _))
    have hg : ∀ b, wantedA ops tmps o = some b → Region.wanted o (yielded ops act.tmps) = b := fun b hb => wanted_sound (ρ := ρ) (E := E) hb fun j want q d _ _ _ => by have := ht.get d; simpa using this
    unfold wpListIn
    split at h
    · cases h
    · rename_i hw
      rw [hg _ hw]
      exact ⟨fun f _ => FW.fn ro f, hnext _ H E undef w h VR.undef hR .refl⟩
    · rename_i hw
      rw [hg _ hw]
      simp only [if_true]
      split at h
      · refine done_sound hρ hR (tmpOK_of ht _) h fun x H' E' v w' hk hv hR' hX => ?_
        obtain ⟨y, hy, hv⟩ := sides_sound hk hv
        exact hnext y H' E' v w' hy hv hR' hX
      · exact evW_sound hP hc hρ hR (tmpOK_of ht _) h hnext
end Go.Proofs.Ytkdmlpmjfnjnmaa.Sv
