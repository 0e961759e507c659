import Derived.Test.YtkdmlpmjfnjnmaaSvk
/-! operations that write: maps. -/
namespace Go.Proofs.Ytkdmlpmjfnjnmaa.Sv
open Go Go.RowKit
set_option linter.unusedVariables false
set_option linter.unusedSimpArgs false
variable {P : Program} {ρ : Ctx} {E : Env} {H : AH} {w : World}

theorem run_setObj' {r : Nat} {o : Obj} (o' : Obj) (h : w.heap[r]? = some o) (hc : ∀ c e f, o ≠ .cells c e f) : (setObj r o').run P w = .ok () { w with heap := w.heap.setIfInBounds r o' } := by
  simp only [setObj, Sem.run, h]

theorem ERs.append {l l' : List Ent} {m m' : List MapEntry} (h : ERs ρ E l m) (k : ERs ρ E l' m') : ERs ρ E (l ++ l') (m ++ m') := by
  induction h with
  | nil => exact k
  | cons e m l r hk hv hb t ih => exact .cons _ _ _ _ hk hv hb ih
theorem ERs.modify {f : MapEntry → MapEntry} {e' : Ent} : ∀ {es : List Ent} {ms : List MapEntry} {i : Nat}, ERs ρ E es ms → (∀ m, ms[i]? = some m → VR ρ E e'.key (f m).key ∧ VR ρ E e'.val (f m).val ∧ e'.born = (f m).born) → i < es.length →
    ERs ρ E (es.take i ++ e' :: es.drop (i + 1)) (ms.modify i f)
  | _, _, 0, .cons e m l r hk hv hb t, hf, _ => by
    obtain ⟨h1, h2, h3⟩ := hf m rfl
    simp
    exact .cons _ _ _ _ h1 h2 h3 t
  | _, _, i + 1, .cons e m l r hk hv hb t, hf, hi => by
    have := ERs.modify (i := i) t (fun m hm => hf m (by simpa using hm)) (by simpa using hi)
    simp
    exact .cons _ _ _ _ hk hv hb this
  | _, _, i, .nil, _, hi => by simp at hi
theorem ERs.erase : ∀ {es : List Ent} {ms : List MapEntry} (i : Nat), ERs ρ E es ms → ERs ρ E (es.take i ++ es.drop (i + 1)) (ms.eraseIdx i)
  | _, _, i, .nil => by simp; exact .nil
  | _, _, 0, .cons e m l r hk hv hb t => by simpa using t
  | _, _, i + 1, .cons e m l r hk hv hb t => by
    simp
    exact .cons _ _ _ _ hk hv hb (ERs.erase i t)
theorem ERs.filter {p : Nat → Bool} {es : List Ent} {ms : List MapEntry} (h : ERs ρ E es ms) : ERs ρ E (es.filter fun e => p e.born) (ms.filter fun m => p m.born) := by
  induction h with
  | nil => exact .nil
  | cons e m l r hk hv hb t ih =>
    rw [List.filter_cons, List.filter_cons, hb]
    split
    · exact .cons _ _ _ _ hk hv hb ih
    · exact ih

/-- a map that is written. -/
theorem map_turn (hR : Rel ρ E H w) {b : Nat} {r : RB} (hb : E b = some r) (hal : Alone E H b) {c ck ck' : Nat} {es es' : List Ent} (hes : H.tr.get b = some (.map c es ck)) {ms ms' : Array MapEntry} (hw : w.heap[r.blk]? = some (.map ms ck)) (hER : ERs ρ E es' ms'.toList)
    {K : AH → Bool} (h : H.put b (.map c es' ck') K = true) : ∃ H', K H' = true ∧ Rel ρ E H' { w with heap := w.heap.setIfInBounds r.blk (.map ms' ck') } ∧ Ext E H w E H' { w with heap := w.heap.setIfInBounds r.blk (.map ms' ck') } := by
  obtain ⟨H', hK, hn, hm, hg⟩ := put_spec h
  have hcls : H.clsOf b = some c := by simp [AH.clsOf, hes, Blk.cls]
  obtain ⟨h1, h2⟩ := hR.turn hb hal hcls (k := .map c es' ck') rfl hn hm hg (turned_set hw) ⟨ms', rfl, hER⟩
  exact ⟨H', hK, h1, h2⟩

theorem aMapSet_sound (hR : Rel ρ E H w) {t : TypeId} {m k x : AV} {mv kv xv : Value} (hm : VR ρ E m mv) (hk : VR ρ E k kv) (hx : VR ρ E x xv) {K : AH → Bool} (h : aMapSet P H t m k x K = true) :
    ∃ H' w', K H' = true ∧ (Instr.mapUpdate t mv kv xv).run P w = .ok () w' ∧ Rel ρ E H' w' ∧ Ext E H w E H' w' := by
  unfold aMapSet at h
  split at h
  · rename_i kt e b hu
    cases hm with
    | map _ r hb =>
      obtain ⟨H1, h1, hR1, hX1, hal, _, hg1, _⟩ := hR.own hb h
      clear h
      split at h1
      · rename_i c es ck hes
        obtain ⟨ms, hw, hER⟩ := map_rel hR1 hes hb
        have hobj := run_getObj (P := P) hw (fun _ _ _ h => by cases h)
        have hset := fun o' => run_setObj' (P := P) o' hw (fun _ _ _ h => by cases h)
        split at h1
        · rename_i i hfk
          obtain ⟨_, c1, r', c3, _, c4⟩ := findK_sound hfk hk hER w
          obtain ⟨en, mm, c5, c6, c7, c8, c9, c10⟩ := c4 i rfl
          subst c7
          split at h1
          · rename_i e0 he0
            rw [List.head?_drop, c5] at he0
            simp at he0; subst he0
            split at h1
            · rename_i u v hu1 hv1
              obtain ⟨hsb, h1⟩ := cond_true' h1
              have e1 := toV_sound hu1 c8
              have e2 := toV_sound hv1 hk
              have c6' : ms[i]? = some mm := by simpa using c6
              have hER' : ERs ρ E (es.take i ++ { key := k, val := x, born := en.born } :: es.drop (i + 1)) (ms.modify i fun e => { e with key := kv, val := xv }).toList := by
                rw [Array.toList_modify]
                exact hER.modify (fun m' hm' => by rw [c6] at hm'; cases hm'; exact ⟨hk, hx, c10⟩) (List.getElem?_eq_some_iff.1 c5).1
              obtain ⟨H2, h2, hR2, hX2⟩ := map_turn hR1 hb hal hes hw hER' h1
              refine ⟨H2, _, h2, ?_, hR2, hX1.trans hX2⟩
              have hstay : (Instr.keyThatStays mm.key kv).run P w = .ok kv w := by
                unfold Instr.keyThatStays
                rw [e1, e2, hsb]
                simp
              unfold Instr.mapUpdate
              simp only [Sem.run_bind, run_und hu, Result.andThen_ok, hobj, c1, c3, c6', Option.map_some, Option.getD_some, hstay, hset]
            · cases h1
          · cases h1
        · rename_i hfk
          obtain ⟨_, c1, r', c3, c4, _⟩ := findK_sound hfk hk hER w
          have c4 := c4 rfl
          subst c4
          rw [fNat_eq] at h1
          have hER' : ERs ρ E (es ++ [{ key := k, val := x, born := ck }]) (ms.push { key := kv, val := xv, born := ck }).toList := by
            rw [Array.toList_push]
            exact hER.append (.cons _ _ _ _ hk hx rfl .nil)
          obtain ⟨H2, h2, hR2, hX2⟩ := map_turn hR1 hb hal hes hw hER' h1
          refine ⟨H2, _, h2, ?_, hR2, hX1.trans hX2⟩
          unfold Instr.mapUpdate
          simp only [Sem.run_bind, run_und hu, Result.andThen_ok, hobj, c1, c3, hset]
        · cases h1
      · cases h1
  · cases h

theorem turned_self {b : Nat} {o : Obj} (h : w.heap[b]? = some o) : Turned w { w with heap := w.heap.setIfInBounds b o } b o := turned_set h
theorem aDelete_sound (hR : Rel ρ E H w) {ats : Array TypeId} {ty t : TypeId} {m k : AV} {mv kv : Value} (h0 : ats[0]? = some t) (hm : VR ρ E m mv) (hk : VR ρ E k kv) {K : AH → Bool} (h : aDelete P H t m k K = true) :
    ∃ H' w', K H' = true ∧ (Builtin.delete_ ats ty #[mv, kv]).run P w = .ok (.tuple #[]) w' ∧ Rel ρ E H' w' ∧ Ext E H w E H' w' := by
  unfold aDelete at h
  split at h
  · rename_i kt e hu
    cases hm
    split at h
    · rename_i v hv
      split at h
      · rename_i u hc
        have e2 := toV_sound hv hk
        refine ⟨H, w, h, ?_, hR, .refl⟩
        have := asPure_run hc w
        unfold Builtin.delete_
        simp only [h0, List.getElem?_toArray, List.getElem?_cons_zero, List.getElem?_cons_succ, Sem.run_bind, run_und hu, Result.andThen_ok, e2, this, Sem.run_pure]
      · cases h
    · cases h
  · rename_i kt e b hu
    cases hm with
    | map _ r hb =>
      obtain ⟨H1, h1, hR1, hX1, hal, _, hg1, _⟩ := hR.own hb h
      clear h
      split at h1
      · rename_i c es ck hes
        obtain ⟨ms, hw, hER⟩ := map_rel hR1 hes hb
        have hobj := run_getObj (P := P) hw (fun _ _ _ h => by cases h)
        have hset := fun o' => run_setObj' (P := P) o' hw (fun _ _ _ h => by cases h)
        have hemp : ms.isEmpty = ms.toList.isEmpty := by simp
        split at h1
        · rename_i i hfk
          obtain ⟨c1, _, r', c3, _, c4⟩ := findK_sound hfk hk hER w
          obtain ⟨en, mm, c5, c6, c7, c8, c9, c10⟩ := c4 i rfl
          subst c7
          have hER' : ERs ρ E (es.take i ++ es.drop (i + 1)) (ms.eraseIdxIfInBounds i).toList := by
            have : (ms.eraseIdxIfInBounds i).toList = ms.toList.eraseIdx i := by simp
            rw [this]
            exact hER.erase i
          obtain ⟨H2, h2, hR2, hX2⟩ := map_turn hR1 hb hal hes hw hER' h1
          refine ⟨H2, _, h2, ?_, hR2, hX1.trans hX2⟩
          unfold Builtin.delete_
          simp only [h0, List.getElem?_toArray, List.getElem?_cons_zero, List.getElem?_cons_succ, Sem.run_bind, run_und hu, Result.andThen_ok, hobj, hemp, c1, c3, hset, Sem.run_pure]
        · rename_i hfk
          obtain ⟨c1, _, r', c3, c4, _⟩ := findK_sound hfk hk hER w
          have c4 := c4 rfl
          subst c4
          have hcls : H1.clsOf b = some c := by simp [AH.clsOf, hes, Blk.cls]
          obtain ⟨hR2, hX2⟩ := hR1.turn hb hal hcls (k := .map c es ck) rfl rfl rfl (H' := H1) (fun j => by split <;> simp_all) (turned_self hw) ⟨ms, rfl, hER⟩
          refine ⟨H1, _, h1, ?_, hR2, hX1.trans hX2⟩
          unfold Builtin.delete_
          simp only [h0, List.getElem?_toArray, List.getElem?_cons_zero, List.getElem?_cons_succ, Sem.run_bind, run_und hu, Result.andThen_ok, hobj, hemp, c1, c3, hset, Sem.run_pure]
        · cases h1
      · cases h1
  · cases h

theorem allB_mem {α : Type} {f : α → Bool} : ∀ {l : List α}, allB f l = true → ∀ a ∈ l, f a = true
  | [], _, a, ha => by cases ha
  | b :: r, h, a, ha => by
    unfold allB at h
    split at h
    · rename_i hb
      rcases List.mem_cons.1 ha with rfl | ha
      · exact hb
      · exact allB_mem h a ha
    · cases h
theorem has_eq (l : List Nat) (n : Nat) : has l n = l.contains n := by
  induction l with
  | nil => rfl
  | cons a r ih =>
    unfold has
    by_cases h : a = n
    · rw [beq_iff'.2 h]; simp [h]
    · rw [beq_false'.2 h]
      simp only [cond_false, ih, List.contains_cons]
      have : (n == a) = false := by simpa using Ne.symm h
      simp [this]
theorem run_choose (n : Nat) (hn : 0 < n) (w : World) : ∃ k w1, (choose (.mapNext n)).run P w = .ok k w1 ∧ k < n ∧ w1.heap = w.heap ∧ w1.os = w.os ∧ w1.tape = w.tape ∧ w1.output = w.output := by
  by_cases h : n ≤ 1
  · refine ⟨0, w, ?_, hn, rfl, rfl, rfl, rfl⟩
    simp [choose, Sem.run, Question.forced, h]
  · refine ⟨w.tape w.drawn (.mapNext n) % n, { w with drawn := w.drawn + 1 }, ?_, Nat.mod_lt _ hn, rfl, rfl, rfl, rfl⟩
    simp [choose, Sem.run, Question.forced, h, Question.cut]
theorem Ext.heap {W W' : World} (h1 : W.heap = w.heap) (h2 : W.os = w.os) (h3 : W.tape = w.tape) (h4 : W.output = w.output) {E' : Env} {H' : AH} (h : Ext E H W E' H' W') : Ext E H w E' H' W' :=
  ⟨h.le, fun i q hi => by rw [← h1]; exact h.ice i q hi, h.os.trans h2, h.tape.trans h3, h.output.trans h4, by rw [← h1]; exact h.size, fun i hi hb => by rw [← h1]; exact h.old i (by rw [h1]; exact hi) hb, fun b r hb hn => by rw [← h1]; exact h.fresh b r hb hn, h.next, h.ghost⟩

theorem ERs.get {es : List Ent} {ms : List MapEntry} (h : ERs ρ E es ms) {i : Nat} {m : MapEntry} (hm : ms[i]? = some m) : ∃ e ∈ es, VR ρ E e.key m.key ∧ VR ρ E e.val m.val ∧ e.born = m.born := by
  obtain ⟨e, he, h1⟩ := h.at_ hm
  exact ⟨e, List.mem_of_getElem? he, h1⟩
theorem ERs.emptyA {es : List Ent} {ms : Array MapEntry} (h : ERs ρ E es ms.toList) : ms.isEmpty = es.isEmpty := by
  have := h.length
  rw [Array.length_toList] at this
  unfold Array.isEmpty
  rw [this]
  cases es <;> simp
theorem ERs.allBorn {es : List Ent} {ms : List MapEntry} (h : ERs ρ E es ms) (last : Nat) : (ms.all fun x => decide (x.born ≥ last)) = (es.all fun e => Nat.ble last e.born) := by
  induction h with
  | nil => rfl
  | cons e m l r hk hv hb t ih =>
    simp only [List.all_cons, ih, hb]
    congr 1
    cases hbl : Nat.ble last m.born with
    | true => simpa using ble' hbl
    | false =>
      simp
      apply Nat.lt_of_not_le
      intro hlt
      rw [Nat.ble_eq_true_of_le hlt] at hbl; cases hbl
theorem aNext_sound (hR : Rel ρ E H w) {x : AV} {v : Value} (hx : VR ρ E x v) {ty : TypeId} {K : AV → AH → Bool} (h : aNext H x K = true) :
    ∃ q H', K q H' = true ∧ DoesV P ρ E H w (Instr.next v false ty) q H' := by
  unfold aNext at h
  split at h
  · rename_i b
    cases hx with
    | ptr _ _ r hb =>
      obtain ⟨H1, h1, hR1, hX1, hal, _, hg1, _⟩ := hR.own hb h
      clear h
      split at h1
      · rename_i c s e f hit
        obtain ⟨_, k0, hk0, hB⟩ := hR1.blk b r hb
        rw [hit] at hk0; cases hk0
        obtain ⟨m', hw, hm0, _⟩ := hB
        have hm0 := hm0 rfl
        subst hm0
        have hobj := run_getObj (P := P) hw (fun _ _ _ h => by cases h)
        refine ⟨_, _, h1, .tuple #[.bool false], w, E, ?_, .tuple _ _ (.cons _ _ _ _ (.bool _) .nil), hR1, hX1⟩
        unfold Instr.next
        simp only [Sem.run_bind, hobj, Result.andThen_ok, Sem.run_pure]
      · rename_i c m since seen last hit
        split at h1
        · rename_i cm es ck hes
          rcases cond_split (p := fun z => z = true) h1 with ⟨_, h2⟩ | ⟨hgone, h2⟩
          · cases h2
          · rw [Bool.and_eq_true] at h2
            obtain ⟨hover, hall⟩ := h2
            obtain ⟨_, k0, hk0, hB⟩ := hR1.blk b r hb
            rw [hit] at hk0; cases hk0
            obtain ⟨m', hw, _, hm1⟩ := hB
            obtain ⟨rm, hrm, hm'⟩ := hm1 m rfl
            subst hm'
            obtain ⟨ms, hwm, hER⟩ := map_rel hR1 hes hrm
            have hobj := run_getObj (P := P) hw (fun _ _ _ h => by cases h)
            have hobjm := run_getObj (P := P) hwm (fun _ _ _ h => by cases h)
            -- the real lists
            have hleft := hER.filter (p := fun n => !has seen n)
            have hold := hleft.filter (p := fun n => Nat.blt n since)
            have hnew := hleft.filter (p := fun n => Nat.ble since n)
            generalize hL : (es.filter fun e => !has seen e.born) = L at hleft hold hnew hover hall
            generalize ho : (L.filter fun e => Nat.blt e.born since) = O at hold hover hall
            generalize hn : (L.filter fun e => Nat.ble since e.born) = N at hnew hall
            have rleft : ms.filter (fun e => !seen.toArray.contains e.born) = (ms.toList.filter fun e => !has seen e.born).toArray := by
              rw [← Array.toArray_toList (xs := ms.filter _), Array.toList_filter]
              congr 1
              refine List.filter_congr fun e _ => ?_
              rw [has_eq]; simp
            have rold : (ms.toList.filter fun e => !has seen e.born).toArray.filter (fun e => decide (e.born < since)) = ((ms.toList.filter fun e => !has seen e.born).filter fun e => Nat.blt e.born since).toArray := by
              rw [List.filter_toArray]
              congr 1
              refine List.filter_congr fun e _ => ?_
              cases hbl : Nat.blt e.born since with
              | true => simpa using blt' hbl
              | false =>
                simp
                apply Nat.le_of_not_lt
                intro hlt
                have : Nat.blt e.born since = true := by unfold Nat.blt; exact Nat.ble_eq_true_of_le hlt
                rw [hbl] at this; cases this
            have rnew : (ms.toList.filter fun e => !has seen e.born).toArray.filter (fun e => decide (e.born ≥ since)) = ((ms.toList.filter fun e => !has seen e.born).filter fun e => Nat.ble since e.born).toArray := by
              rw [List.filter_toArray]
              congr 1
              refine List.filter_congr fun e _ => ?_
              cases hbl : Nat.ble since e.born with
              | true => simpa using ble' hbl
              | false =>
                simp
                apply Nat.lt_of_not_le
                intro hlt
                rw [Nat.ble_eq_true_of_le hlt] at hbl; cases hbl
            have rgone : (!seen.toArray.isEmpty && !ms.isEmpty && ms.all fun x => decide (x.born ≥ last)) = false := by
              have e1 : seen.toArray.isEmpty = seen.isEmpty := by simp
              have e2 := hER.emptyA
              have e3 : (ms.all fun x => decide (x.born ≥ last)) = (es.all fun e => Nat.ble last e.born) := by
                rw [← Array.all_toList]
                exact hER.allBorn last
              rw [e1, e2, e3]; exact hgone
            generalize hLr : (ms.toList.filter fun e => !has seen e.born) = Lr at hleft hold hnew rleft rold rnew
            generalize hOr : (Lr.filter fun e => Nat.blt e.born since) = Or at hold rold
            generalize hNr : (Lr.filter fun e => Nat.ble since e.born) = Nr at hnew rnew
            have hemp : Or.toArray.isEmpty = O.isEmpty := by
              have := hold.length
              cases O <;> cases Or <;> simp_all
            let cand : Array (Option MapEntry) := (if Or.toArray.isEmpty then #[none] else #[]) ++ (Or.toArray ++ Nr.toArray).map some
            have hpos : 0 < cand.size := by
              simp only [cand, Array.size_append, Array.size_map]
              cases Or with
              | nil => simp; omega
              | cons a l => simp; omega
            obtain ⟨k, w1, hch, hk, g1, g2, g3, g4⟩ := run_choose (P := P) cand.size hpos w
            have hw1 : w1.heap[r.blk]? = some (.mapIter (some rm.blk) since seen.toArray last) := by rw [g1]; exact hw
            have hset := fun o' => run_setObj' (P := P) (w := w1) o' hw1 (fun _ _ _ h => by cases h)
            have hcand : cand[k]? = some cand[k] := Array.getElem?_eq_getElem hk
            have hrun : (Instr.next (.pointer (some ⟨r.blk, 0, none⟩)) false ty).run P w = (match cand[k] with
                | some e => (do setObj r.blk (.mapIter (some rm.blk) since (seen.toArray.push e.born) ck); pure (.tuple #[.bool true, e.key, e.val]) : Sem Value).run P w1
                | none => .ok (.tuple #[.bool false]) w1) := by
              unfold Instr.next
              simp only [Sem.run_bind, hobj, Result.andThen_ok, hobjm, rgone, Bool.false_eq_true, if_false, Sem.run_pure, rleft, rold, rnew]
              have hch' : (choose (.mapNext ((if Or.toArray.isEmpty then #[none] else #[]) ++ (Or.toArray ++ Nr.toArray).map some).size)).run P w = .ok k w1 := hch
              have hcand' : ((if Or.toArray.isEmpty then #[none] else #[]) ++ (Or.toArray ++ Nr.toArray).map some)[k]? = some cand[k] := hcand
              simp only [hch', Result.andThen_ok, hcand']
              cases cand[k] <;> simp only [Sem.run_bind, Sem.run_pure]
            cases hq : cand[k] with
            | none =>
              rw [hq] at hrun
              have hO : O.isEmpty = true := by
                rw [← hemp]
                cases he : Or.toArray.isEmpty with
                | true => rfl
                | false =>
                  exfalso
                  have : cand = (Or.toArray ++ Nr.toArray).map some := by simp [cand, he]
                  have h2 : cand[k]? = some none := by rw [hcand, hq]
                  rw [this, Array.getElem?_map] at h2
                  cases hz : (Or.toArray ++ Nr.toArray)[k]? <;> simp [hz] at h2
              rw [hO] at hover
              exact ⟨_, _, hover, .tuple #[.bool false], w1, E, hrun, .tuple _ _ (.cons _ _ _ _ (.bool _) .nil), hR1.same g1, Ext.trans (Ext.heap rfl rfl rfl rfl hX1) ⟨.rfl', fun _ _ h => .inl h, g2, g3, g4, by rw [g1]; exact Nat.le_refl _, fun i _ _ => by rw [g1], fun b r h h' => by rw [h'] at h; (cases h), Nat.le_refl _, fun _ _ _ _ => ⟨rfl, rfl⟩⟩⟩
            | some e =>
              rw [hq] at hrun
              have hmem : ∃ j : Nat, (Or ++ Nr)[j]? = some e := by
                have h2 : cand[k]? = some (some e) := by rw [hcand, hq]
                have h3 : some e ∈ cand := Array.mem_of_getElem? h2
                simp only [cand, Array.mem_append, Array.mem_map] at h3
                have h4 : e ∈ Or ∨ e ∈ Nr := by
                  rcases h3 with h3 | ⟨a, ha, hae⟩
                  · exfalso
                    split at h3 <;> simp at h3
                  · cases hae
                    simpa using ha
                have h5 : e ∈ Or ++ Nr := by simpa using h4
                exact List.getElem?_of_mem h5
              obtain ⟨j, hj⟩ := hmem
              obtain ⟨en, hen, v1, v2, v3⟩ := (hold.append hnew).get hj
              have hK := allB_mem hall en hen
              obtain ⟨H2, h3, hn2, hm2, hg2⟩ := put_spec hK
              have hcls : H1.clsOf b = some c := by simp [AH.clsOf, hit, Blk.cls]
              obtain ⟨hR2, hX2⟩ := (hR1.same g1).turn hb hal hcls (k := .iter c (some m) since (seen ++ [en.born]) ck) rfl hn2 hm2 hg2 (turned_set (o' := .mapIter (some rm.blk) since (seen.toArray.push e.born) ck) hw1)
                ⟨some rm.blk, by rw [v3]; simp, (fun h => by cases h), fun b2 h2 => by simp at h2; subst h2; exact ⟨rm, hrm, rfl⟩⟩
              refine ⟨_, _, h3, .tuple #[.bool true, e.key, e.val], _, E, ?_, .tuple _ _ (.cons _ _ _ _ (.bool _) (.cons _ _ _ _ v1 (.cons _ _ _ _ v2 .nil))), hR2, hX1.trans (Ext.heap g1 g2 g3 g4 hX2)⟩
              rw [hrun]
              simp only [Sem.run_bind, hset, Result.andThen_ok, Sem.run_pure]
        · cases h1
      · cases h1
  · cases h
end Go.Proofs.Ytkdmlpmjfnjnmaa.Sv
