import Derived.Test.YtkdmlpmjfnjnmaaSvs
/-! calls: a run on abstract memory is a run. -/
namespace Go.Proofs.Ytkdmlpmjfnjnmaa.Sv
open Go Go.RowKit
set_option linter.unusedVariables false
set_option linter.unusedSimpArgs false
variable {P : Program} {ρ : Ctx} {E : Env} {H : AH} {w : World}

theorem undefs_sound : ∀ n, VRs ρ E (undefs n) (List.replicate n undef)
  | 0 => .nil
  | n + 1 => .cons _ _ _ _ VR.undef (undefs_sound n)
def resF (ts : Array Value) : ResultVar → Sem Value
  | .tmp t => pure (ts.getD t undef)
  | .cell a t => do loadVar t (← asAddr (ts.getD a undef))
theorem resAll_sound (hR : Rel ρ E H w) {tmps : List AV} {ts : Array Value} (ht : VRs ρ E tmps ts.toList) : ∀ {l : List ResultVar} {m : List AV}, resAll P H tmps l = some m →
    ∃ ms : List Value, (l.mapM (resF ts)).run P w = .ok ms w ∧ VRs ρ E m ms
  | [], m, h => by simp [resAll] at h; subst h; exact ⟨[], rfl, .nil⟩
  | r :: l, m, h => by
    unfold resAll at h
    split at h
    · rename_i a m' h1 h2
      simp at h; subst h
      obtain ⟨ms, h3, h4⟩ := resAll_sound hR ht h2
      have hget : ∀ t, VR ρ E (aget tmps t) (ts.getD t undef) := fun t => by have := ht.get t; simpa using this
      cases r with
      | tmp t =>
        simp [resOne] at h1; subst h1
        exact ⟨_, by simp only [List.mapM_cons, resF, Sem.run_bind, Sem.run_pure, Result.andThen_ok, h3], .cons _ _ _ _ (hget t) h4⟩
      | cell a0 t =>
        unfold resOne at h1
        simp only at h1
        split at h1
        · rename_i b off hb
          have e := hget a0
          rw [hb] at e
          generalize hv : ts.getD a0 undef = v0 at e
          cases e with
          | ptr _ _ r hr =>
            obtain ⟨v, h5, h6⟩ := loadAt_sound (P := P) hR h1 hr
            exact ⟨_, by simp only [List.mapM_cons, resF, Sem.run_bind, hv, asAddr, Sem.run_pure, Result.andThen_ok, h5, h3], .cons _ _ _ _ h6 h4⟩
        · cases h1
    · cases h
theorem results_sound (hR : Rel ρ E H w) {tmps : List AV} {ts : Array Value} (ht : VRs ρ E tmps ts.toList) {fn : Func} {m : List AV} (h : resAll P H tmps fn.results.toList = some m) : ∃ v, (results fn ts).run P w = .ok v w ∧ VR ρ E (outV m) v := by
  obtain ⟨ms, h1, h2⟩ := resAll_sound (P := P) hR ht h
  refine ⟨if hh : ms.toArray.size = 1 then ms.toArray[0] else .tuple ms.toArray, ?_, ?_⟩
  · have e : results fn ts = (do let vs ← fn.results.mapM (resF ts); pure (if h : vs.size = 1 then vs[0] else .tuple vs)) := rfl
    rw [e, Array.mapM_eq_mapM_toList]
    simp only [Sem.run_bind, Sem.run_map, h1, Result.andThen_ok, Sem.run_pure]
  · cases h2 with
    | nil => exact .tuple [] _ .nil
    | cons a v l ms g1 t =>
      cases t with
      | nil => exact g1
      | cons b u l2 ms2 g2 t2 =>
        rw [dif_neg (by simp)]
        exact .tuple _ _ (.cons _ _ _ _ g1 (.cons _ _ _ _ g2 t2))

/-- a function that leaves: its marks are taken off. -/
theorem leaves_marks {fn : Func} {ts : Array Value} {R : Ending → World → Prop} {lo : Nat} (hdl : ∀ i o, ρ.dat i = some o → i < lo) : ∀ (ds : List Deferred) (w : World), Rel ρ E H w → Marks lo E w ds →
    (∀ w', Rel ρ E H w' → w'.heap.size = w.heap.size → (∀ i, i < lo → w'.heap[i]? = w.heap[i]?) → w'.os = w.os → w'.tape = w.tape → w'.output = w.output → ∃ v, (results fn ts).run P w' = .ok v w' ∧ R (.returned v) w') →
    LeavesInM (FW none) 0 P fn ts R ds .returning w
  | [], w, hR, hM, h => h w hR rfl (fun _ _ => rfl) rfl rfl rfl
  | d :: ds, w, hR, hM, h => by
    obtain ⟨r, h1, h2, h3, h4⟩ := hM.all d (by simp)
    have ht := turned_set (o' := .deferred none) h3
    have hobj := run_getObj (P := P) h3 (fun _ _ _ h => by cases h)
    have hset := run_setObj' (P := P) (.deferred none) h3 (fun _ _ _ h => by cases h)
    have hne : ∀ i o, (E.all ρ).dat i = some o → i ≠ r := fun i o hi => by
      rcases all_cases hi with hi' | ⟨_, q, _, rfl⟩
      · have := hdl i o hi'; omega
      · intro e
        subst e
        have := (hR.dat i _ hi).1
        rw [h3] at this
        cases this
    refine ⟨(fun h => nomatch h), .inl ⟨r, _, h1, ?_, leaves_marks hdl ds _ ?_ ?_ fun w' k1 k2 k3 k4 k5 k6 => h w' k1 (k2.trans ht.size) (fun i hi => (k3 i hi).trans (ht.old i (by omega))) k4 k5 k6⟩⟩
    · simp only [Instr.takeDeferred, Sem.run_bind, hobj, Result.andThen_ok, hset, Sem.run_pure]
    · refine ⟨hR.dom, fun b rb hb => ?_, hR.inj, hR.mem, fun i o hi => ⟨by rw [ht.old i (hne i o hi)]; exact (hR.dat i o hi).1, (hR.dat i o hi).2⟩⟩
      obtain ⟨g1, k, g2, g3⟩ := hR.blk b rb hb
      exact ⟨by rw [ht.size]; exact g1, k, g2, by rw [ht.old _ (h4 b rb hb)]; exact g3⟩
    · have hnd := List.pairwise_cons.1 hM.nd
      refine ⟨fun d' hd' => ?_, hnd.2⟩
      obtain ⟨r', g1, g2, g3, g4⟩ := hM.all d' (by simp [hd'])
      refine ⟨r', g1, g2, ?_, g4⟩
      rw [ht.old r' fun e => ?_]
      · exact g3
      · subst e
        exact hnd.1 d' hd' (h1.trans g1.symm)

theorem setParams_sound : ∀ (ps : List Nat) (as : List AV) (t : List AV) (K : List AV → Bool), setParams ps as t K = true → ∀ (vs : List Value) (ts : Array Value), VRs ρ E as vs → VRs ρ E t ts.toList →
    ps.length = as.length ∧ ∃ t', K t' = true ∧ VRs ρ E t' ((ps.zip vs).foldl (fun tmps x => tmps.setIfInBounds x.1 x.2) ts).toList
  | [], [], t, K, h, vs, ts, hv, ht => by cases hv; exact ⟨rfl, t, h, ht⟩
  | [], _ :: _, t, K, h, vs, ts, hv, ht => by cases h
  | _ :: _, [], t, K, h, vs, ts, hv, ht => by cases h
  | p :: ps, a :: as, t, K, h, vs, ts, hv, ht => by
    cases hv with
    | cons _ v _ vs h1 h2 =>
      have h' := aset_spec _ _ _ _ h
      obtain ⟨e, t', h3, h4⟩ := setParams_sound ps as _ K h' vs (ts.setIfInBounds p v) h2 (by rw [Array.toList_setIfInBounds]; exact ht.set p h1)
      exact ⟨by simp [e], t', h3, h4⟩

/-- what is told of some functions is so. -/
def CsOK (P : Program) (ρ : Ctx) (o : Nat → Bool) (cs : Nat → List AV → AH → (AV → AH → Bool) → Bool) : Prop :=
  ∀ f, o f = true → ∀ (args : List AV) (H : AH) (K : AV → AH → Bool), cs f args H K = true → ∀ (E : Env) (w : World) (vs : Array Value), Rel ρ E H w → VRs ρ E args vs.toList →
    (∃ fn, P.funcs[f]? = some fn ∧ fn.body.isSome = true) ∧ CallsIn (FW none) 0 P f vs w (After ρ E H w K)
theorem Rel.below (hR : Rel ρ E H w) {w' : World} (hb : Below w.heap.size w w') : Rel ρ E H w' := by
  refine ⟨hR.dom, fun b rb h => ?_, hR.inj, hR.mem, fun i o hi => ⟨by rw [hb.block i (hR.dat_lt hi)]; exact (hR.dat i o hi).1, (hR.dat i o hi).2⟩⟩
  obtain ⟨g1, k, g2, g3⟩ := hR.blk b rb h
  exact ⟨Nat.lt_of_lt_of_le g1 hb.size, k, g2, by rw [hb.block _ g1]; exact g3⟩
theorem call_sound (hP : Plain P) (hm : P.follows .mixedOrders = true) {o : Nat → Bool} {cs : Nat → List AV → AH → (AV → AH → Bool) → Bool} (ho : CsOK P ρ o cs) (hρ : ∀ i, (ρ i).oneCell' = true) : ∀ n, CallOK P ρ (evCall P o cs n)
  | 0 => fun t args H K h => by cases h
  | n + 1 => fun t args H K h E w vs hR hV => by
    have ih := call_sound hP hm ho hρ n
    cases t with
    | fn f =>
      unfold evCall at h
      simp only at h
      split at h
      · rename_i hof
        exact ho f hof args H K h E w vs hR hV
      split at h
      · cases h
      · rename_i fn hf
        split at h
        · cases h
        · rename_i c hb
          refine ⟨⟨fn, hf, by simp [hb]⟩, callsIn_of_wp_marks hf hb trivial ?_⟩
          have hsz : vs.size = args.length := by have := hV.length; simpa using this
          have ht0 : VRs ρ E (args ++ undefs (fn.ntmps - args.length)) (vs ++ Array.replicate (fn.ntmps - vs.size) undef).toList := by
            rw [Array.toList_append, Array.toList_replicate, hsz]
            exact hV.append (undefs_sound _)
          refine evCode_sound hP hm ih hρ (rd := false) (ro := none) (fun _ => rfl) (lo := w.heap.size) n c _ H _ { tmps := vs ++ Array.replicate (fn.ntmps - vs.size) undef, defers := [] } w E _ h hR ht0 (Nat.le_refl _) Marks.nil fun e t2 H2 a2 w2 E2 k1 k2 k3 k4 k5 => ?_
          have hfin : ∀ (l : List AV), resAll P H2 t2 fn.results.toList = some l → K (outV l) H2 = true → LeavesInM (FW none) 0 P fn a2.tmps (After ρ E H w K) a2.defers .returning w2 := fun l hl hK =>
            leaves_marks (fun i o hi => hR.dat_lt (all_in i o hi)) a2.defers w2 k3 k5 fun w' g1 g2 g3 g4 g5 g6 => by
              obtain ⟨v, h3, h4⟩ := results_sound (P := P) g1 k2 hl
              refine ⟨v, h3, outV l, H2, v, E2, rfl, hK, h4, g1, ⟨k4.le, k4.ice, g4.trans k4.os, g5.trans k4.tape, g6.trans k4.output, by rw [g2]; exact k4.size, fun i hi hx => (g3 i hi).trans (k4.old i hi hx), k4.fresh, k4.next, k4.ghost⟩⟩
          cases e with
          | normal =>
            simp only at k1
            split at k1
            · rename_i l hl
              exact hfin l hl k1
            · cases k1
          | ret =>
            simp only at k1
            split at k1
            · rename_i l hl
              exact hfin l hl k1
            · cases k1
          | exit id => cases k1
          | goto l => cases k1
    | yield b =>
      intro r hb
      unfold evCall at h
      simp only at h
      split at h
      · rename_i c st pend t ps as bd hg
        obtain ⟨_, k, hk, hB⟩ := hR.blk b r hb
        rw [hg] at hk; cases hk
        obtain ⟨l, hw, e1, e2, e3, e4, e5, e6⟩ := hB
        obtain ⟨hlen, t', h', ht'⟩ := setParams_sound ps args t _ h vs.toList l.tmps hV e3
        have hsz : vs.size = l.params.size := by
          have := hV.length
          rw [← e4] at hlen
          simp at hlen this
          omega
        refine ⟨l, hw, hsz, ?_⟩
        have hfold : ((l.params.zip vs).foldl (fun tmps (t, a) => tmps.setIfInBounds t a) l.tmps).toList = ((ps.zip vs.toList).foldl (fun tmps x => tmps.setIfInBounds x.1 x.2) l.tmps).toList := by
          rw [← Array.foldl_toList, Array.toList_zip, e4]
        have ht2 : VRs ρ E t' ((l.params.zip vs).foldl (fun tmps (t, a) => tmps.setIfInBounds t a) l.tmps).toList := by rw [hfold]; exact ht'
        generalize (l.params.zip vs).foldl (fun tmps (t, a) => tmps.setIfInBounds t a) l.tmps = ts at ht2
        refine roundIn_of_wpIn (F := FW none) trivial ?_
        have hF : (FW none).inRound r.blk = FW (some r.blk) := rfl
        rw [hF, e5, e6]
        refine evCode_sound hP hm ih hρ (rd := true) (ro := some r.blk) (fun h => by cases h) (lo := w.heap.size) n as t' H _ { tmps := ts, defers := [] } w E _ h' hR ht2 (Nat.le_refl _) Marks.nil fun e t2 H2 a2 w2 E2 k1 k2 k3 k4 k5 => ?_
        cases e with
        | exit id => cases k1
        | goto l => cases k1
        | ret => cases k1
        | normal =>
          simp only at k1
          have hb2 := k4.le _ _ hb
          obtain ⟨H3, h3, hX3, hl3⟩ := loop_turn k3 hb2 k1
          split at h3
          · rename_i c2 pend2 t3 ps3 as3 bd3 hg3
            obtain ⟨l2, hw2, s1, s2, s3, s4, s5, s6, hput⟩ := hl3 _ _ _ _ _ _ _ hg3
            have hready : l2.state = .ready := by cases hs : l2.state <;> simp [hs, stOf] at s1; rfl
            obtain ⟨H4, h4, hR4, hX4⟩ := hput .busy pend2 _ h3
            have hset := run_setObj' (P := P) (.loop { l2 with state := .busy, pending := pend2 }) hw2 (fun _ _ _ h => by cases h)
            have e0 : ({ l2 with state := .busy } : Loop) = { l2 with state := .busy, pending := pend2 } := by rw [← s2]
            refine ⟨{ w2 with heap := w2.heap.setIfInBounds r.blk (.loop { l2 with state := .busy, pending := pend2 }) }, ?_, ?_⟩
            rotate_left
            · refine evCode_sound hP hm ih hρ (rd := true) (ro := some r.blk) (fun h => by cases h) (lo := w.heap.size) n bd t2 H4 _ a2 _ E2 _ h4 hR4 k2 (Nat.le_trans k4.size hX4.size) (k5.ext hX4) fun e t5 H5 a5 w5 E5 m1 m2 m3 m4 m5 => ?_
              have hb5 := m4.le _ _ hb2
              obtain ⟨H6, h6, hX6, hl6⟩ := loop_turn m3 hb5 m1
              split at h6
              · rename_i c6 st6 pend6 t6 ps6 as6 bd6 hg6
                obtain ⟨l6, hw6, _, _, _, _, _, _, hput6⟩ := hl6 _ _ _ _ _ _ _ hg6
                have hXt : ∀ {H7 w7}, Ext E5 H5 w5 E5 H7 w7 → Ext E H w E5 H7 w7 := fun h => (k4.trans hX4).trans (m4.trans h)
                cases e with
                | normal =>
                  obtain ⟨H7, h7, hR7, hX7⟩ := hput6 .ready none _ h6
                  have hs6 := run_setObj' (P := P) (.loop { l6 with state := .ready, pending := none }) hw6 (fun _ _ _ h => by cases h)
                  exact ⟨.bool true, _, by simp only [Instr.endRound, Sem.run_bind, run_getLoop hw6, Result.andThen_ok, Option.isNone_none, if_true, hs6, Sem.run_pure], .bool true, H7, .bool true, E5, rfl, h7, .bool true, hR7, hXt hX7⟩
                | exit id =>
                  obtain ⟨H7, h7, hR7, hX7⟩ := hput6 .done (some (.exit id)) _ h6
                  have hs6 := run_setObj' (P := P) (.loop { l6 with state := .done, pending := some (.exit id) }) hw6 (fun _ _ _ h => by cases h)
                  exact ⟨.bool false, _, by simp only [Instr.endRound, Sem.run_bind, run_getLoop hw6, Result.andThen_ok, Option.isNone_some, Bool.false_eq_true, if_false, hs6, Sem.run_pure], .bool false, H7, .bool false, E5, rfl, h7, .bool false, hR7, hXt hX7⟩
                | goto g =>
                  obtain ⟨H7, h7, hR7, hX7⟩ := hput6 .done (some (.goto g)) _ h6
                  have hs6 := run_setObj' (P := P) (.loop { l6 with state := .done, pending := some (.goto g) }) hw6 (fun _ _ _ h => by cases h)
                  exact ⟨.bool false, _, by simp only [Instr.endRound, Sem.run_bind, run_getLoop hw6, Result.andThen_ok, Option.isNone_some, Bool.false_eq_true, if_false, hs6, Sem.run_pure], .bool false, H7, .bool false, E5, rfl, h7, .bool false, hR7, hXt hX7⟩
                | ret =>
                  obtain ⟨H7, h7, hR7, hX7⟩ := hput6 .done (some .ret) _ h6
                  have hs6 := run_setObj' (P := P) (.loop { l6 with state := .done, pending := some .ret }) hw6 (fun _ _ _ h => by cases h)
                  exact ⟨.bool false, _, by simp only [Instr.endRound, Sem.run_bind, run_getLoop hw6, Result.andThen_ok, Option.isNone_some, Bool.false_eq_true, if_false, hs6, Sem.run_pure], .bool false, H7, .bool false, E5, rfl, h7, .bool false, hR7, hXt hX7⟩
              · cases h6
            · simp only [Instr.beginRound, Sem.run_bind, run_getLoop hw2, Result.andThen_ok, e0, hset, hready, Sem.run_pure]
          · cases h3
      · cases h

def noEnv : Env := ⟨fun _ => none, fun _ => none⟩
theorem no_all {i : Nat} {o : Obj} (h : (noEnv.all ρ).dat i = some o) : ρ.dat i = some o := by
  rcases all_cases h with h | ⟨_, q, hq, _⟩
  · exact h
  · cases hq
theorem rel_none (w : World) (hd : ∀ i o, ρ.dat i = some o → w.heap[i]? = some o) : Rel ρ noEnv AH.none w := ⟨fun b r h => by (cases h), fun b r h => by (cases h), fun b b' r r' c c' h => by (cases h), fun b r c h => by (cases h), fun i o hi => ⟨hd i o (no_all hi), fun b r c h => by cases h⟩⟩
def Ctx.none : Ctx := ⟨fun _ => Value.bool false, fun _ => .none⟩
theorem rel_none' (w : World) : Rel Ctx.none noEnv AH.none w := rel_none w fun i o h => by cases h
end Go.Proofs.Ytkdmlpmjfnjnmaa.Sv
