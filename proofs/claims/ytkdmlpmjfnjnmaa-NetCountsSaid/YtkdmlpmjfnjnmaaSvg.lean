import Derived.Test.YtkdmlpmjfnjnmaaSvf
/-! operations that leave memory as it is: maps' entries, structs that are built. -/
namespace Go.Proofs.Ytkdmlpmjfnjnmaa.Sv
open Go Go.RowKit

variable {P : Program} {ρ : Ctx} {E : Env} {H : AH} {w : World}

inductive SameKeys : List MapEntry → List MapEntry → Prop
  | nil : SameKeys [] []
  | cons (a b : MapEntry) (l m : List MapEntry) (h : a.key = b.key) (t : SameKeys l m) : SameKeys (a :: l) (b :: m)
/-- what is found among entries of the same keys stands at the same place. -/
def Found (i : Nat) (ms : List MapEntry) (r r' : Option (Nat × Value)) : Prop :=
  (r = none → r' = none) ∧ ∀ j v, r = some (j, v) → i ≤ j ∧ ∃ m, ms[j - i]? = some m ∧ r' = some (j, m.val)
theorem Found.up {i : Nat} {b : MapEntry} {ms : List MapEntry} {r r' : Option (Nat × Value)} (h : Found (i + 1) ms r r') : Found i (b :: ms) r r' :=
  ⟨h.1, fun j v e => by
    obtain ⟨h1, m, h2, h3⟩ := h.2 j v e
    refine ⟨by omega, m, ?_, h3⟩
    rw [show j - i = (j - (i + 1)) + 1 by omega]
    simpa using h2⟩
theorem Found.here {i : Nat} {a b : MapEntry} {ms : List MapEntry} : Found i (b :: ms) (some (i, a.val)) (some (i, b.val)) :=
  ⟨(fun h => nomatch h), fun j v e => by
    simp at e
    obtain ⟨rfl, rfl⟩ := e
    exact ⟨Nat.le_refl _, b, by simp, rfl⟩⟩
theorem findNow_same {d : TypeDesc} {k : Value} : ∀ {l ms : List MapEntry}, SameKeys l ms → ∀ i, (Instr.findNow d k l i = none ∧ Instr.findNow d k ms i = none) ∨ ∃ r r', Instr.findNow d k l i = some r ∧ Instr.findNow d k ms i = some r' ∧ Found i ms r r'
  | _, _, .nil, i => .inr ⟨none, none, rfl, rfl, fun _ => rfl, fun _ _ h => by cases h⟩
  | _, _, .cons a b l m h t, i => by
    simp only [Instr.findNow, h]
    cases hs : Instr.sameNow d k b.key with
    | none => exact .inl ⟨rfl, rfl⟩
    | some q =>
      cases q with
      | true => exact .inr ⟨_, _, rfl, rfl, Found.here⟩
      | false =>
        rcases findNow_same t (i + 1) with h1 | ⟨r, r', h1, h2, h3⟩
        · exact .inl h1
        · exact .inr ⟨r, r', h1, h2, h3.up⟩
theorem findAsking_same {kt : TypeId} {k : Value} : ∀ {l ms : List MapEntry}, SameKeys l ms → ∀ i (w w' : World) r, (Instr.findAsking kt k l i).run P w = .ok r w' → ∃ r', (Instr.findAsking kt k ms i).run P w = .ok r' w' ∧ Found i ms r r'
  | _, _, .nil, i, w, w', r, h => by
    simp [Instr.findAsking] at h
    obtain ⟨rfl, rfl⟩ := h
    exact ⟨none, by simp [Instr.findAsking], fun _ => rfl, fun _ _ h => by cases h⟩
  | _, _, .cons a b l m hk t, i, w, w', r, h => by
    simp only [Instr.findAsking, hk, Sem.run_bind] at h ⊢
    cases he : (Op.equal kt k b.key).run P w with
    | halt x w1 => rw [he] at h; cases h
    | ok q w1 =>
      rw [he] at h
      simp only [Result.andThen_ok] at h ⊢
      cases q with
      | true =>
        simp at h
        obtain ⟨rfl, rfl⟩ := h
        exact ⟨_, by simp, Found.here⟩
      | false =>
        simp at h ⊢
        obtain ⟨r', h1, h2⟩ := findAsking_same t (i + 1) w1 w' r h
        exact ⟨r', h1, h2.up⟩
theorem findKey_same {kt : TypeId} {k : Value} {l ms : List MapEntry} (hs : SameKeys l ms) {w w' : World} {r : Option (Nat × Value)} (h : (Instr.findKey kt k l).run P w = .ok r w') : ∃ r', (Instr.findKey kt k ms).run P w = .ok r' w' ∧ Found 0 ms r r' := by
  simp only [Instr.findKey, Sem.run_bind] at h ⊢
  cases hu : (underlying kt).run P w with
  | halt x w1 => rw [hu] at h; cases h
  | ok d w1 =>
    rw [hu] at h
    simp only [Result.andThen_ok] at h ⊢
    rcases findNow_same (d := d) (k := k) hs 0 with ⟨h1, h2⟩ | ⟨r1, r2, h1, h2, h3⟩
    · rw [h1] at h; rw [h2]
      exact findAsking_same hs 0 w1 w' r h
    · rw [h1] at h; rw [h2]
      simp at h
      obtain ⟨rfl, rfl⟩ := h
      exact ⟨_, by simp, h3⟩
theorem ents_sound : ∀ {es : List Ent} {l ms : List MapEntry}, ents es = some l → ERs ρ E es ms → SameKeys l ms ∧ l.isEmpty = ms.isEmpty
  | [], l, ms, h, he => by cases he; simp [ents] at h; subst h; exact ⟨.nil, rfl⟩
  | e :: r, l, ms, h, he => by
    cases he with
    | cons _ m _ r' hk hv hb t =>
      unfold ents at h
      split at h
      · rename_i k l' h1 h2
        simp at h; subst h
        exact ⟨.cons _ _ _ _ (toV_sound h1 hk).symm (ents_sound h2 t).1, rfl⟩
      · cases h
theorem ERs.at_ {es : List Ent} {ms : List MapEntry} (h : ERs ρ E es ms) {i : Nat} {m : MapEntry} (hm : ms[i]? = some m) : ∃ e, es[i]? = some e ∧ VR ρ E e.key m.key ∧ VR ρ E e.val m.val ∧ e.born = m.born := by
  induction i generalizing es ms with
  | zero => cases h with
    | nil => cases hm
    | cons e _ _ _ hk hv hb t => simp at hm; subst hm; exact ⟨e, rfl, hk, hv, hb⟩
  | succ i ih => cases h with
    | nil => cases hm
    | cons e _ _ _ hk hv hb t => exact ih t (by simpa using hm)
theorem ERs.length {es : List Ent} {ms : List MapEntry} (h : ERs ρ E es ms) : ms.length = es.length := by
  induction h with
  | nil => rfl
  | cons _ _ _ _ _ _ _ _ ih => simp [ih]
theorem findK_sound {kt : TypeId} {k : AV} {kv : Value} {es : List Ent} {ms : List MapEntry} {r : Option Nat} (h : findK P kt k es = some r) (hk : VR ρ E k kv) (he : ERs ρ E es ms) (w : World) :
    (Instr.checkKey ms.isEmpty 10000 kt kv).run P w = .ok () w ∧ (Instr.checkKey false 10000 kt kv).run P w = .ok () w ∧ ∃ r', (Instr.findKey kt kv ms).run P w = .ok r' w ∧
      (r = none → r' = none) ∧ ∀ i, r = some i → ∃ e m, es[i]? = some e ∧ ms[i]? = some m ∧ r' = some (i, m.val) ∧ VR ρ E e.key m.key ∧ VR ρ E e.val m.val ∧ e.born = m.born := by
  unfold findK at h
  split at h
  · rename_i k' l h1 h2
    split at h
    · rename_i u1 u2 r0 h3 h4 h5
      simp at h
      obtain ⟨hs, hemp⟩ := ents_sound h2 he
      rw [toV_sound h1 hk]
      obtain ⟨r', h6, h7⟩ := findKey_same hs (asPure_run h5 w)
      refine ⟨by rw [← hemp]; exact asPure_run h3 w, asPure_run h4 w, r', h6, fun e => ?_, fun i e => ?_⟩
      · subst e
        cases r0 with
        | none => exact h7.1 rfl
        | some p => simp at h
      · subst e
        cases r0 with
        | none => simp at h
        | some p =>
          obtain ⟨j, v⟩ := p
          simp at h; subst h
          obtain ⟨_, m, h8, h9⟩ := h7.2 j v rfl
          rw [Nat.sub_zero] at h8
          obtain ⟨e, h10, h11⟩ := he.at_ h8
          exact ⟨e, m, h10, h8, h9, h11⟩
    · cases h
  · cases h

theorem map_rel (hR : Rel ρ E H w) {b c ck : Nat} {es : List Ent} (h : H.tr.get b = some (.map c es ck)) {r : RB} (hb : E b = some r) :
    ∃ ms : Array MapEntry, w.heap[r.blk]? = some (.map ms ck) ∧ ERs ρ E es ms.toList := by
  obtain ⟨_, k, hk, hB⟩ := hR.blk b r hb
  rw [h] at hk; cases hk
  exact hB
theorem run_getObj {r : Nat} {o : Obj} (h : w.heap[r]? = some o) (hc : ∀ c e f, o ≠ .cells c e f) : (getObj r).run P w = .ok o w := by
  simp only [getObj, Sem.run, h]

theorem wset_spec : ∀ (l : List AV) (o : Nat) (vs : List AV) (K : List AV → Bool), wset l o vs K = true → ∃ l', K l' = true ∧ ((vs = [] ∧ l' = l) ∨ (o + vs.length ≤ l.length ∧ l' = l.take o ++ vs ++ l.drop (o + vs.length)))
  | l, o, [], K, h => ⟨l, by cases l <;> (cases o <;> exact h), .inl ⟨rfl, rfl⟩⟩
  | [], o, v :: vs, K, h => by cases o <;> cases h
  | a :: r, 0, v :: vs, K, h => by
    obtain ⟨l', hK, hl⟩ := wset_spec r 0 vs _ h
    refine ⟨_, hK, .inr ?_⟩
    rcases hl with ⟨rfl, rfl⟩ | ⟨h1, rfl⟩
    · exact ⟨by simp, by simp⟩
    · refine ⟨by simp at h1 ⊢; omega, ?_⟩
      simp only [Nat.zero_add, List.length_cons, List.take_zero, List.nil_append, List.drop_succ_cons, List.cons_append]
  | a :: r, o + 1, v :: vs, K, h => by
    obtain ⟨l', hK, hl⟩ := wset_spec r o (v :: vs) _ h
    refine ⟨_, hK, .inr ?_⟩
    rcases hl with ⟨h0, _⟩ | ⟨h1, rfl⟩
    · cases h0
    · refine ⟨by simp at h1 ⊢; omega, ?_⟩
      rw [show o + 1 + (v :: vs).length = (o + (v :: vs).length) + 1 by omega]
      simp
theorem VRs.wset {l vs l' : List AV} {ls us : List Value} {o : Nat} (hl : VRs ρ E l ls) (hv : VRs ρ E vs us) (h : (vs = [] ∧ l' = l) ∨ (o + vs.length ≤ l.length ∧ l' = l.take o ++ vs ++ l.drop (o + vs.length))) :
    VRs ρ E l' (ls.take o ++ us ++ ls.drop (o + us.length)) := by
  rcases h with ⟨rfl, rfl⟩ | ⟨_, rfl⟩
  · cases hv
    simpa using hl
  · rw [hv.length]
    exact ((hl.take o).append hv).append (hl.drop _)

theorem foldl_set : ∀ (us : List Value) (k : Nat) (cs : Array Value) (off : Nat), off + k + us.length ≤ cs.size →
    ((us.zipIdx k).foldl (fun cs x => cs.setIfInBounds (off + x.2) x.1) cs).toList = cs.toList.take (off + k) ++ us ++ cs.toList.drop (off + k + us.length)
  | [], k, cs, off, _ => by simp
  | u :: us, k, cs, off, h => by
    simp only [List.zipIdx_cons, List.foldl_cons]
    have hk : off + k < cs.size := by simp at h; omega
    rw [foldl_set us (k + 1) _ off (by simp at h ⊢; omega)]
    rw [Array.toList_setIfInBounds]
    apply List.ext_getElem?
    intro i
    simp only [List.length_cons]
    have hlen : (cs.toList.take (off + k)).length = off + k := by simp; omega
    by_cases h1 : i < off + k
    · rw [List.getElem?_append_left (by simp; omega), List.getElem?_append_left (by simp; omega), List.getElem?_append_left (by simp; omega), List.getElem?_append_left (by simp; omega), List.getElem?_take, List.getElem?_take, if_pos (by omega), if_pos h1, List.getElem?_set_ne (by omega)]
    · by_cases h2 : i = off + k
      · subst h2
        rw [List.getElem?_append_left (by simp; omega), List.getElem?_append_left (by simp; omega), List.getElem?_append_left (by simp; omega), List.getElem?_append_right (by simp; omega), List.getElem?_take, if_pos (by omega), List.getElem?_set_self (by simpa using hk)]
        simp [hlen]
      · by_cases h3 : i < off + k + 1 + us.length
        · rw [List.getElem?_append_left (by simp; omega), List.getElem?_append_right (by simp; omega), List.getElem?_append_left (by simp; omega), List.getElem?_append_right (by simp; omega)]
          have e1 : ((cs.toList.set (off + k) u).take (off + (k + 1))).length = off + (k + 1) := by simp; omega
          rw [e1, hlen, show i - (off + k) = (i - (off + (k + 1))) + 1 by omega, List.getElem?_cons_succ]
        · rw [List.getElem?_append_right (by simp; omega), List.getElem?_append_right (by simp; omega), List.getElem?_drop, List.getElem?_drop]
          have e1 : ((cs.toList.set (off + k) u).take (off + (k + 1)) ++ us).length = off + (k + 1) + us.length := by simp; omega
          have e2 : (cs.toList.take (off + k) ++ u :: us).length = off + k + (us.length + 1) := by simp; omega
          rw [e1, e2, List.getElem?_set_ne (by omega)]
          congr 1
          omega
theorem fillG_sound (hρ : ∀ i, (ρ i).oneCell' = true) {place : Nat → Option (Nat × Nat)} : ∀ {l : List (Nat × AV)} {ls : List (Nat × Value)} {cs : List AV} {vs : Array Value} {K : List AV → Bool}, fillG place l cs K = true →
    List.map (·.1) l = List.map (·.1) ls → VRs ρ E (l.map (·.2)) (ls.map (·.2)) → VRs ρ E cs vs.toList → ∃ cs' vs', K cs' = true ∧ Instr.fill place vs ls = some vs' ∧ VRs ρ E cs' vs'.toList ∧ cs'.length = cs.length
  | [], [], cs, vs, K, h, _, _, hc => ⟨cs, vs, h, rfl, hc, rfl⟩
  | [], _ :: _, cs, vs, K, h, hm, _, hc => by cases hm
  | _ :: _, [], cs, vs, K, h, hm, _, hc => by cases hm
  | (i, v) :: l, (j, u) :: ls, cs, vs, K, h, hm, hv, hc => by
    simp only [List.map_cons, List.cons.injEq] at hm
    obtain ⟨rfl, hm⟩ := hm
    simp only [List.map_cons] at hv
    cases hv with
    | cons _ _ _ _ hv ht =>
      unfold fillG at h
      cases hp : place i with
      | none => simp [hp] at h
      | some q =>
        obtain ⟨off, n⟩ := q
        simp only [hp] at h
        obtain ⟨hc1, h⟩ := cond_true' h
        rw [Bool.and_eq_true] at hc1
        obtain ⟨c1, c2⟩ := hc1
        rw [Bool.and_eq_true] at c1
        obtain ⟨c0, c1⟩ := c1
        have c1 := beq_iff'.1 c1
        have c2 := ble' c2
        obtain ⟨l', hK, hl'⟩ := wset_spec _ _ _ _ h
        have hcells := cells_sound hρ hv c0
        have hlu : u.cells.size = n := by have := hcells.length; simp at this; omega
        have hlv : vs.size = cs.length := by have := hc.length; simpa using this
        have hV : VRs ρ E l' ((u.cells.zipIdx.foldl (fun cs x => cs.setIfInBounds (off + x.2) x.1) vs).toList) := by
          rw [← Array.foldl_toList, Array.toList_zipIdx, foldl_set u.cells.toList 0 vs off (by simp; omega)]
          have := hc.wset hcells hl'
          simpa using this
        have hlen : l'.length = cs.length := by
          rcases hl' with ⟨_, rfl⟩ | ⟨h1, rfl⟩
          · rfl
          · simp; omega
        obtain ⟨cs', vs', h1, h2, h3, h4⟩ := fillG_sound hρ hK hm ht hV
        refine ⟨cs', vs', h1, ?_, h3, h4.trans hlen⟩
        unfold Instr.fill
        simp only [hp]
        rw [if_neg (by simp [hlu, hlv]; omega)]
        exact h2
theorem places_run (w : World) : ∀ {fs : List Field} {pl : List (Nat × Nat)}, places P fs = some pl → (fs.mapM fun f => (do pure (f.offset, ← sizeOf f.type) : Sem (Nat × Nat))).run P w = .ok pl w
  | [], pl, h => by simp [places] at h; subst h; rfl
  | f :: fs, pl, h => by
    unfold places at h
    split at h
    · rename_i n l h1 h2
      simp at h; subst h
      have := places_run w h2
      simp only [List.mapM_cons, Sem.run_bind, run_size h1, Result.andThen_ok, Sem.run_pure, this]
    · cases h
end Go.Proofs.Ytkdmlpmjfnjnmaa.Sv
