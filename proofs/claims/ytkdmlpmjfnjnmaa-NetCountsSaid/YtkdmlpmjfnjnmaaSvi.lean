import Derived.Test.YtkdmlpmjfnjnmaaSvh
/-! what is written. -/
namespace Go.Proofs.Ytkdmlpmjfnjnmaa.Sv
open Go Go.RowKit
set_option linter.unusedVariables false
set_option linter.unusedSimpArgs false
variable {P : Program} {ρ : Ctx} {E : Env} {H : AH} {w : World}

theorem Turned.refl {b : Nat} {o : Obj} (h : w.heap[b]? = some o) : Turned w w b o := ⟨rfl, rfl, rfl, rfl, h, fun _ _ => rfl⟩
theorem Turned.trans {w' w'' : World} {b : Nat} {o o' : Obj} (h : Turned w w' b o) (k : Turned w' w'' b o') : Turned w w'' b o' :=
  ⟨k.os.trans h.os, k.tape.trans h.tape, k.output.trans h.output, k.size.trans h.size, k.at_, fun j hj => (k.old j hj).trans (h.old j hj)⟩
theorem turned_set {b : Nat} {o o' : Obj} (h : w.heap[b]? = some o) : Turned w { w with heap := w.heap.setIfInBounds b o' } b o' := by
  have hlt : b < w.heap.size := (Array.getElem?_eq_some_iff.1 h).1
  refine ⟨rfl, rfl, rfl, by simp, ?_, fun j hj => ?_⟩
  · simp [hlt]
  · show (w.heap.setIfInBounds b o')[j]? = _
    rw [Array.getElem?_setIfInBounds, if_neg (Ne.symm hj)]
theorem turned_cell {b o : Nat} {v : Value} {c : Array Value} {elem : TypeId} {fr : Nat × Nat} (h : w.heap[b]? = some (.cells c elem fr)) : Turned w (w.setCell ⟨b, o, none⟩ v) b (.cells (c.setIfInBounds o v) elem fr) := by
  have hlt : b < w.heap.size := (Array.getElem?_eq_some_iff.1 h).1
  have hg : w.heap[b] = .cells c elem fr := (Array.getElem?_eq_some_iff.1 h).2
  refine ⟨rfl, rfl, rfl, by simp [World.setCell], ?_, fun j hj => Below.heap_setCell _ _ _ _ hj⟩
  simp only [World.setCell, Array.getElem?_modify, if_true, h, Option.map_some]
  rfl
theorem turned_cells {b : Nat} {elem : TypeId} {fr : Nat × Nat} : ∀ (vs : List Value) (o : Nat) (c : Array Value) (w : World), w.heap[b]? = some (.cells c elem fr) → o + vs.length ≤ c.size →
    ∃ c' : Array Value, Turned w (w.setCells b o vs) b (.cells c' elem fr) ∧ c'.toList = c.toList.take o ++ vs ++ c.toList.drop (o + vs.length) ∧ c'.size = c.size
  | [], o, c, w, h, _ => ⟨c, Turned.refl h, by simp, rfl⟩
  | v :: vs, o, c, w, h, hl => by
    have ht := turned_cell (o := o) (v := v) h
    obtain ⟨c', h1, h2, h3⟩ := turned_cells vs (o + 1) _ _ ht.at_ (by simp at hl ⊢; omega)
    refine ⟨c', ht.trans h1, ?_, by simpa using h3⟩
    have ho : o < c.size := by simp at hl; omega
    have key := foldl_set (v :: vs) 0 c o (by simpa using hl)
    rw [h2]
    have k2 := foldl_set vs 0 (c.setIfInBounds o v) (o + 1) (by simp at hl ⊢; omega)
    rw [Nat.add_zero] at key k2
    rw [← key, ← k2]
    congr 1
    simp only [List.zipIdx_cons, List.foldl_cons, Nat.add_zero, Nat.zero_add]
    have : ∀ (l : List Value) (k : Nat) (a : Array Value), (l.zipIdx k).foldl (fun cs x => cs.setIfInBounds (o + 1 + x.2) x.1) a = (l.zipIdx (k + 1)).foldl (fun cs x => cs.setIfInBounds (o + x.2) x.1) a := by
      intro l
      induction l with
      | nil => intro k a; rfl
      | cons u l ih =>
        intro k a
        simp only [List.zipIdx_cons, List.foldl_cons]
        rw [ih, show o + 1 + k = o + (k + 1) by omega]
    exact this vs 0 _

theorem write_sound (hρ : ∀ i, (ρ i).oneCell' = true) (hR : Rel ρ E H w) {b off : Nat} {r : RB} (hb : E b = some r) {vs : List AV} {us : List Value} (hv : VRs ρ E vs us) {K : AH → Bool} (h : H.write b off vs K = true) :
    ∃ H' w', K H' = true ∧ (storeCells ⟨r.blk, off, none⟩ us).run P w = .ok () w' ∧ Rel ρ E H' w' ∧ Ext E H w E H' w' := by
  unfold AH.write at h
  split at h
  · cases hv
    exact ⟨H, w, h, rfl, hR, .refl⟩
  · rename_i v0 r0
    obtain ⟨hl, h⟩ := cond_true' h
    have hone := leafy_one hρ hl hv
    unfold AH.write1 at h
    obtain ⟨H1, h1, hR1, hX1, hal, ⟨c0, hc0⟩, hg1, hn1⟩ := hR.own hb h
    split at h1
    · rename_i c g cs hcell
      obtain ⟨l', h2, hl'⟩ := wset_spec _ _ _ _ h1
      obtain ⟨H2, h3, hn2, hm2, hg2⟩ := put_spec h2
      have hca : cellsAt H1 b = some (g, cs) := by simp [cellsAt, hcell]
      obtain ⟨ca, elem, fr, hw, hsz, hfr, hle, hV, hg⟩ := cellsAt_rel hR1 hca hb
      have hlen := hv.length
      have hoff : off + us.length ≤ cs.length := by
        rcases hl' with ⟨h0, _⟩ | ⟨h0, _⟩
        · cases h0
        · omega
      obtain ⟨c', ht, hc', hcs⟩ := turned_cells us off ca w hw (by omega)
      have hrun : (storeCells ⟨r.blk, off, none⟩ us).run P w = .ok () (w.setCells r.blk off us) := by
        have := run_storeCells_cells (P := P) r.blk off us 0 w (fun j hj => ?_) (fun j hj => ?_) hone
        · simpa using this
        · rw [Nat.add_zero, World.cell?, hw]
          have : off + j < ca.size := by omega
          simp [this]
        · rw [World.frozen?, hw]
          have : off + j < ca.size := by omega
          rcases hfr with rfl | rfl <;> simp <;> omega
      have hlen' : l'.length = cs.length := by
        rcases hl' with ⟨h0, _⟩ | ⟨h0, rfl⟩
        · cases h0
        · simp at h0 ⊢; omega
      have hB : BR ρ E r (.cells c g l') (some (.cells c' elem fr)) := by
        refine ⟨c', elem, fr, rfl, by omega, by rw [hcs]; exact hfr, by omega, ?_, hg⟩
        rw [hlen', hc']
        have := hV.wset hv hl'
        have e : (ca.toList.take off ++ us ++ ca.toList.drop (off + us.length)).take cs.length = (ca.toList.take cs.length).take off ++ us ++ (ca.toList.take cs.length).drop (off + us.length) := by
          rw [List.take_append, List.take_take, List.drop_take]
          have e1 : (ca.toList.take off ++ us).length = off + us.length := by simp; omega
          rw [e1, List.take_of_length_le (by omega), Nat.min_eq_left (by omega)]
        rw [e]
        exact this
      have hcls : H1.clsOf b = some c := by simp [AH.clsOf, hcell, Blk.cls]
      obtain ⟨hR2, hX2⟩ := hR1.turn hb hal hcls (k := .cells c g l') rfl hn2 hm2 hg2 ht hB
      exact ⟨H2, _, h3, hrun, hR2, hX1.trans hX2⟩
    · cases h1

/-- a new block. -/
theorem Rel.make (hR : Rel ρ E H w) {n : NewB} {K : AH → Bool} (h : H.alloc n K = true) {w' : World} {o : Obj} (hp : Pushed w w' o) {sz z : Nat}
    (hB : ∀ E', E.le E' → E' H.next = some ⟨w.heap.size, sz, z⟩ → BR ρ E' ⟨w.heap.size, sz, z⟩ (n.blk H.next) (some o)) :
    ∃ H' E', K H' = true ∧ Rel ρ E' H' w' ∧ Ext E H w E' H' w' ∧ E' H.next = some ⟨w.heap.size, sz, z⟩ := by
  obtain ⟨H', hK, hR', hX, hn, hg, hm, _⟩ := hR.ghost h
  have hnone : E H.next = none := by
    cases he : E H.next with
    | none => rfl
    | some r => have := hR.dom _ _ he; omega
  have hself : E.with H.next ⟨w.heap.size, sz, z⟩ H.next = some ⟨w.heap.size, sz, z⟩ := by simp [Env.with]
  refine ⟨H', E.with H.next ⟨w.heap.size, sz, z⟩, hK, hR'.born hnone (by omega) hg ?_ hm rfl hp (hB _ (Env.with_le hnone) hself), Pushed.ext ⟨o, hp⟩ hnone (Nat.le_refl _) rfl hX, hself⟩
  cases n <;> rfl

theorem cull_spec (n : Nat) : ∀ (l : List Nat) (H : AH) (K : List Nat → AH → Bool), AH.cull n l H K = true →
    ∃ l' H', K l' H' = true ∧ H'.next = H.next ∧ H'.mem = H.mem ∧ (∀ j ∈ l', j ∈ l) ∧ (∀ j, H'.tr.get j = H.tr.get j ∨ (j ∈ l ∧ H'.tr.get j = some .dead)) ∧
      (∀ j ∈ l, H'.tr.get j = some .dead ∨ (j ∈ l' ∧ ∃ c g cs, H'.tr.get j = some (.cells c g cs) ∧ cs.length ≤ n))
  | [], H, K, h => ⟨[], H, h, rfl, rfl, by simp, fun _ => .inl rfl, by simp⟩
  | x :: l, H, K, h => by
    unfold AH.cull at h
    split at h
    · rename_i c g cs hx
      rcases cond_split (p := fun z => z = true) h with ⟨hc, h⟩ | ⟨hc, h⟩
      · have hc := ble' hc
        obtain ⟨l', H', hK, hn, hm, h1, h2, h3⟩ := cull_spec n l H _ h
        refine ⟨x :: l', H', hK, hn, hm, fun j hj => ?_, fun j => ?_, fun j hj => ?_⟩
        · rcases List.mem_cons.1 hj with rfl | hj
          · simp
          · simp [h1 j hj]
        · rcases h2 j with e | ⟨hjl, e⟩
          · exact .inl e
          · exact .inr ⟨by simp [hjl], e⟩
        · rcases List.mem_cons.1 hj with rfl | hj
          · rcases h2 j with e | ⟨_, e⟩
            · exact .inr ⟨by simp, c, g, cs, e.trans hx, hc⟩
            · exact .inl e
          · rcases h3 j hj with e | ⟨e, e2⟩
            · exact .inl e
            · exact .inr ⟨by simp [e], e2⟩
      · obtain ⟨H1, h1, hn1, hm1, hg1⟩ := put_spec h
        obtain ⟨l', H', hK, hn, hm, h1, h2, h3⟩ := cull_spec n l H1 _ h1
        have hkey : ∀ j, H'.tr.get j = H.tr.get j ∨ (j ∈ x :: l ∧ H'.tr.get j = some .dead) := fun j => by
          rcases h2 j with e | ⟨hjl, e⟩
          · rw [hg1] at e
            split at e
            · rename_i hjx; subst hjx; exact .inr ⟨by simp, e⟩
            · exact .inl e
          · exact .inr ⟨by simp [hjl], e⟩
        refine ⟨l', H', hK, hn.trans hn1, hm.trans hm1, fun j hj => by simp [h1 j hj], hkey, fun j hj => ?_⟩
        rcases List.mem_cons.1 hj with rfl | hj
        · rcases h2 j with e | ⟨_, e⟩
          · rw [hg1, if_pos rfl] at e; exact .inl e
          · exact .inl e
        · exact h3 j hj
    · rename_i hx
      obtain ⟨l', H', hK, hn, hm, h1, h2, h3⟩ := cull_spec n l H _ h
      refine ⟨l', H', hK, hn, hm, fun j hj => by simp [h1 j hj], fun j => ?_, fun j hj => ?_⟩
      · rcases h2 j with e | ⟨hjl, e⟩
        · exact .inl e
        · exact .inr ⟨by simp [hjl], e⟩
      · rcases List.mem_cons.1 hj with rfl | hj
        · rcases h2 j with e | ⟨_, e⟩
          · exact .inl (e.trans hx)
          · exact .inl e
        · exact h3 j hj
    · cases h

/-- what stands behind a slice of which it is not known whether there is room: r' is its block then. -/
theorem grown_sound (hR : Rel ρ E H w) {b n len need : Nat} {r : RB} (hb : E b = some r) {vs : List AV} {us : List Value} (hv : VRs ρ E vs us) {K : AV → AH → Bool} (h : H.grown b n len vs need K = true) :
    ∃ H' old, K (.slice H.next 0 need need false) H' = true ∧ (∃ c cs, H.tr.get b = some (.cells c (some n) cs) ∧ firsts (len * n) cs = some old) ∧ r.esz = n ∧ leafy vs = true ∧
      ∀ (w' : World) (r' : RB) (c' : Array Value) (elem : TypeId), r'.esz = n → r'.size = c'.size → VRs ρ E (old ++ vs) (c'.toList.take (old.length + vs.length)) → old.length + vs.length ≤ c'.size →
        (Pushed w w' (.cells c' elem) ∧ r'.blk = w.heap.size ∨
          (r'.blk = r.blk ∧ r'.size = r.size ∧ ∃ c0 fr, w.heap[r.blk]? = some (.cells c0 elem fr) ∧ Turned w w' r.blk (.cells c' elem fr) ∧ c'.size = c0.size ∧ ∀ k, k < len * n → c'[k]? = c0[k]?)) →
        Rel ρ (E.with H.next r') H' w' ∧ Ext E H w (E.with H.next r') H' w' := by
  unfold AH.grown at h
  rw [fNat_eq] at h
  split at h
  · rename_i c w0 cs hbk
    split at h
    · rename_i l old hl hold
      obtain ⟨hw, h⟩ := cond_true' h
      rw [Bool.and_eq_true] at hw
      obtain ⟨hw, hleaf⟩ := hw
      have hw := beq_iff'.1 hw
      subst hw
      obtain ⟨l', H1, h1, hn1, hm1, hsub, hch, hall⟩ := cull_spec _ _ _ _ h
      obtain ⟨t, h2, hg⟩ := Tr.set_spec _ _ _ _ _ h1
      obtain ⟨m, h3, hm⟩ := Tr.set_spec _ _ _ _ _ h2
      rw [fNat_eq, fNat_eq] at h3
      have hcb : H.clsOf b = some c := by simp [AH.clsOf, hbk, Blk.cls]
      obtain ⟨hEc, l0, hl0, hbl, hallE⟩ := hR.mem b r c hb hcb
      rw [hl] at hl0; cases hl0
      obtain ⟨ca, elem0, fr0, hca, hsz0, hfr0, hle0, hV0, hesz⟩ := cellsAt_rel hR (b := b) (g := some w0) (cs := cs) (by simp [cellsAt, hbk]) hb
      have hesz := hesz w0 rfl
      refine ⟨_, old, h3, ⟨c, cs, hbk, hold⟩, hesz, hleaf, fun w' r' c' elem he hs hV hle hw' => ?_⟩
      have hnone : E H.next = none := by
        cases he : E H.next with
        | none => rfl
        | some r => have := hR.dom _ _ he; omega
      have hlE : E.le (E.with H.next r') := Env.with_le hnone
      have hwc : ∀ j rj, E.with H.next r' j = some rj → (j = H.next ∧ rj = r') ∨ (j ≠ H.next ∧ E j = some rj) := fun j rj hj => by
        rw [with_at] at hj
        split at hj
        · rename_i e; simp at hj; exact .inl ⟨e, hj.symm⟩
        · rename_i e; exact .inr ⟨e, hj⟩
      have hself : E.with H.next r' H.next = some r' := by simp [Env.with]
      have hget : ∀ j, j ≠ H.next → t.get j = H.tr.get j ∨ (j ∈ l ∧ t.get j = some .dead) := fun j hj => by
        rw [hg, if_neg hj]; exact hch j
      have hnew : t.get H.next = some (.cells c (some w0) (old ++ vs)) := by rw [hg, if_pos rfl]
      have hclsold : ∀ j d, j ≠ H.next → (AH.mk t m (H.next + 1)).clsOf j = some d → H.clsOf j = some d := fun j d hj hd => by
        rcases hget j hj with e | ⟨_, e⟩
        · simpa [AH.clsOf, e] using hd
        · simp [AH.clsOf, e, Blk.cls] at hd
      have hclsnew : (AH.mk t m (H.next + 1)).clsOf H.next = some c := by simp [AH.clsOf, hnew, Blk.cls]
      have hsize : w.heap.size ≤ w'.heap.size := by
        rcases hw' with ⟨hp, _⟩ | ⟨_, _, _, _, _, ht, _⟩
        · rw [hp.size]; omega
        · rw [ht.size]; omega
      -- blocks that share r's memory and may be looked at have but few cells
      have hshare : ∀ j rj, E j = some rj → rj.blk = r.blk → ∀ k, t.get j = some k → k = .dead ∨ ∃ c g cs, k = .cells c g cs ∧ cs.length ≤ len * w0 := fun j rj hj e k hk => by
        cases hcj : H.clsOf j with
        | none =>
          obtain ⟨_, k0, hk0, _⟩ := hR.blk j rj hj
          have hjn : j ≠ H.next := fun e => by subst e; rw [hnone] at hj; cases hj
          rcases hget j hjn with e1 | ⟨_, e1⟩
          · rw [e1, hk0] at hk; cases hk
            cases k <;> simp [AH.clsOf, hk0, Blk.cls] at hcj
            exact .inl rfl
          · rw [e1] at hk; cases hk; exact .inl rfl
        | some d =>
          have hdc := hR.inj j b rj r d c hj hb e hcj hcb
          subst hdc
          obtain ⟨_, l1, hl1, hj1, _⟩ := hR.mem j rj d hj hcj
          rw [hl] at hl1; cases hl1
          have hjn : j ≠ H.next := fun e => by subst e; rw [hnone] at hj; cases hj
          rw [hg, if_neg hjn] at hk
          rcases hall j hj1 with e1 | ⟨_, c1, g1, cs1, e1, e2⟩
          · rw [e1] at hk; cases hk; exact .inl rfl
          · rw [e1] at hk; cases hk; exact .inr ⟨c1, g1, cs1, rfl, e2⟩
      refine ⟨⟨fun j rj hj => ?_, fun j rj hj => ?_, fun j j' rj rj' d d' hj hj' e hd hd' => ?_, fun j rj d hj hd => ?_, fun i o hi => ⟨?_, fun j rj d hj hd => ?_⟩⟩, ⟨hlE, fun _ _ h => .inl h, ?_, ?_, ?_, hsize, fun i hi hx => ?_, fun j rj hj he => ?_, Nat.le_succ _, fun j hj he _ => ?_⟩⟩
      · rcases hwc j rj hj with ⟨rfl, _⟩ | ⟨_, hj⟩
        · exact Nat.lt_succ_self _
        · exact Nat.lt_succ_of_lt (hR.dom j rj hj)
      · rcases hwc j rj hj with ⟨rfl, rfl⟩ | ⟨hjn, hj⟩
        · rcases hw' with ⟨hp, hrb⟩ | ⟨hrb, hrs, c0, fr, hc0, ht, hcs, hkeep⟩
          · refine ⟨by rw [hp.size]; omega, _, hnew, c', elem, (0, 0), by rw [hrb, hp.at_], hs.symm, .inl rfl, by simpa using hle, ?_, fun z hz => by simp at hz; omega⟩
            rw [List.length_append]; exact hV.mono hlE
          · refine ⟨by rw [hrb, ht.size]; exact (hR.blk b r hb).1, _, hnew, c', elem, fr, by rw [hrb, ht.at_], hs.symm, ?_, by simpa using hle, ?_, fun z hz => by simp at hz; omega⟩
            · rw [hca] at hc0; cases hc0
              rw [hcs]; exact hfr0
            · rw [List.length_append]; exact hV.mono hlE
        · obtain ⟨hlt, k0, hk0, hB0⟩ := hR.blk j rj hj
          refine ⟨by omega, ?_⟩
          have hkk : ∃ k, t.get j = some k ∧ BR ρ E rj k w.heap[rj.blk]? := by
            rcases hget j hjn with e | ⟨_, e⟩
            · exact ⟨k0, e.trans hk0, hB0⟩
            · exact ⟨.dead, e, trivial⟩
          obtain ⟨k, hk, hB⟩ := hkk
          refine ⟨k, hk, BR.mono hlE ?_⟩
          rcases hw' with ⟨hp, hrb⟩ | ⟨hrb, hrs, c0, fr, hc0, ht, hcs, hkeep⟩
          · rw [hp.old _ hlt]; exact hB
          · by_cases e : rj.blk = r.blk
            · rcases hshare j rj hj e k hk with rfl | ⟨c1, g1, cs1, rfl, hlen⟩
              · trivial
              · rw [e] at hB ⊢
                obtain ⟨cx, ex, fx, b1, b2, b3, b4, b5, b6⟩ := hB
                rw [hc0] at b1; cases b1
                refine ⟨c', elem, fr, ht.at_, by omega, by rw [hcs]; exact b3, by omega, ?_, b6⟩
                have : c'.toList.take cs1.length = c0.toList.take cs1.length := by
                  apply List.ext_getElem?
                  intro i
                  rw [List.getElem?_take, List.getElem?_take]
                  split
                  · have := hkeep i (by omega)
                    simpa using this
                  · rfl
                rw [this]; exact b5
            · rw [ht.old _ e]; exact hB
      · rcases hwc j rj hj with ⟨e1, e2⟩ | ⟨hjn, hj1⟩ <;> rcases hwc j' rj' hj' with ⟨e3, e4⟩ | ⟨hjn', hj1'⟩
        · subst e1; subst e3; rw [hd] at hd'; cases hd'; rfl
        · subst e1; subst e2
          rw [hclsnew] at hd; cases hd
          rcases hw' with ⟨hp, hrb⟩ | ⟨hrb, _⟩
          · exfalso
            have := (hR.blk j' rj' hj1').1
            omega
          · exact hR.inj b j' r rj' c d' hb hj1' (by omega) hcb (hclsold _ _ hjn' hd')
        · subst e3; subst e4
          rw [hclsnew] at hd'; cases hd'
          rcases hw' with ⟨hp, hrb⟩ | ⟨hrb, _⟩
          · exfalso
            have := (hR.blk j rj hj1).1
            omega
          · exact hR.inj j b rj r d c hj1 hb (by omega) (hclsold _ _ hjn hd) hcb
        · exact hR.inj j j' rj rj' d d' hj1 hj1' e (hclsold _ _ hjn hd) (hclsold _ _ hjn' hd')
      · have hup : ∀ x, (E x).isSome = true → (E.with H.next r' x).isSome = true := fun x hx => by
          obtain ⟨rx, hrx⟩ := Option.isSome_iff_exists.1 hx
          rw [hlE _ _ hrx]; rfl
        rcases hwc j rj hj with ⟨e1, e2⟩ | ⟨hjn, hj1⟩
        · subst e1
          rw [hclsnew] at hd; cases hd
          refine ⟨hup _ hEc, H.next :: l', by rw [hm, if_pos rfl], by simp, fun x hx => ?_⟩
          rcases List.mem_cons.1 hx with rfl | hx
          · rw [hself]; rfl
          · exact hup x (hallE x (hsub x hx))
        · have hdo := hclsold _ _ hjn hd
          obtain ⟨hEd, l1, hl1, hj2, hall1⟩ := hR.mem j rj d hj1 hdo
          refine ⟨hup _ hEd, ?_⟩
          by_cases hdc : d = c
          · subst hdc
            rw [hl] at hl1; cases hl1
            refine ⟨H.next :: l', by rw [hm, if_pos rfl], ?_, fun x hx => ?_⟩
            · rcases hall j hj2 with e | ⟨e, _⟩
              · simp [AH.clsOf, hg, if_neg hjn, e, Blk.cls] at hd
              · simp [e]
            · rcases List.mem_cons.1 hx with rfl | hx
              · rw [hself]; rfl
              · exact hup x (hallE x (hsub x hx))
          · exact ⟨l1, by rw [hm, if_neg hdc, hm1]; exact hl1, hj2, fun x hx => hup x (hall1 x hx)⟩
      · rcases hw' with ⟨hp, _⟩ | ⟨_, _, _, _, _, ht, _⟩
        · rw [hp.old i (hR.dat_lt hi)]; exact (hR.dat i o hi).1
        · rw [ht.old i fun e => (hR.dat i o hi).2 b r c hb hcb e.symm]; exact (hR.dat i o hi).1
      · rcases hwc j rj hj with ⟨e1, e2⟩ | ⟨hjn, hj1⟩
        · subst e2
          rcases hw' with ⟨hp, hrb⟩ | ⟨hrb, _⟩
          · have := hR.dat_lt hi; omega
          · rw [hrb]; exact (hR.dat i o hi).2 b r c hb hcb
        · exact (hR.dat i o hi).2 j rj d hj1 (hclsold _ _ hjn hd)
      · rcases hw' with ⟨hp, _⟩ | ⟨_, _, _, _, _, ht, _⟩
        · exact hp.os
        · exact ht.os
      · rcases hw' with ⟨hp, _⟩ | ⟨_, _, _, _, _, ht, _⟩
        · exact hp.tape
        · exact ht.tape
      · rcases hw' with ⟨hp, _⟩ | ⟨_, _, _, _, _, ht, _⟩
        · exact hp.output
        · exact ht.output
      · rcases hw' with ⟨hp, _⟩ | ⟨_, _, _, _, _, ht, _⟩
        · exact hp.old i hi
        · exact ht.old i fun e => hx b r hb e.symm
      · rcases hwc j rj hj with ⟨e1, e2⟩ | ⟨hjn, hj1⟩
        · subst e1; subst e2
          refine ⟨Nat.le_refl _, ?_⟩
          rcases hw' with ⟨hp, hrb⟩ | ⟨hrb, _⟩
          · exact .inl (by omega)
          · exact .inr ⟨b, r, hb, hrb.symm⟩
        · rw [he] at hj1; cases hj1
      · constructor
        · show t.get j = _
          rw [hg, if_neg (by omega)]
          rcases hch j with e | ⟨hjl, e⟩
          · exact e
          · have := hallE j hjl
            rw [he] at this; cases this
        · show m.get j = _
          rw [hm, hm1, if_neg]
          rintro rfl
          rw [he] at hEc; cases hEc
    · cases h
  · cases h
end Go.Proofs.Ytkdmlpmjfnjnmaa.Sv
