import Derived.Test.YtkdmlpmjfnjnmaaSvj
/-! operations that write: append. -/
namespace Go.Proofs.Ytkdmlpmjfnjnmaa.Sv
open Go Go.RowKit
set_option linter.unusedVariables false
set_option linter.unusedSimpArgs false
variable {P : Program} {ρ : Ctx} {E : Env} {H : AH} {w : World}

theorem Rel.same {W : World} (h : Rel ρ E H w) (e : W.heap = w.heap) : Rel ρ E H W :=
  ⟨h.dom, fun b r hb => by rw [e]; exact h.blk b r hb, h.inj, h.mem, fun i o hi => by rw [e]; exact h.dat i o hi⟩
/-- a program text that tells a value, and leaves memory as the abstract memory says. -/
def DoesV (P : Program) (ρ : Ctx) (E : Env) (H : AH) (w : World) (s : Sem Value) (x : AV) (H' : AH) : Prop :=
  ∃ v w' E', s.run P w = .ok v w' ∧ VR ρ E' x v ∧ Rel ρ E' H' w' ∧ Ext E H w E' H' w'

theorem zero_any {e : TypeId} {a : AV} (h : zero P e = some a) : ∃ v, (∀ W : World, (zeroValue e).run P W = .ok v W) ∧ VR ρ E a v := by
  unfold zero at h
  cases hi : P.info? e with
  | none => simp [hi] at h
  | some i =>
    simp only [hi] at h
    cases hz : i.zero with
    | none => simp [hz] at h
    | some v =>
      simp only [hz] at h
      exact ⟨v, fun W => by simp [zeroValue, run_info hi, hz], ofV_sound h⟩

theorem aAppend_sound (hρ : ∀ i, (ρ i).oneCell' = true) (hR : Rel ρ E H w) {ats : Array TypeId} {ty : TypeId} {t t' e n m : Nat} {d : TypeDesc} {s : AV} {v x : Value} {vs : List AV} {us : Array Value} (h0 : ats[0]? = some t) (h1 : ats[1]? = some t')
    (hu : P.underlying t = some (.slice e)) (hu' : P.underlying t' = some d) (hn : size P e = some n) (hv : VR ρ E s v) (hV : VRs ρ E vs us.toList) (hus : vs.length = m * n)
    (hsrc : ∀ W : World, W.heap = w.heap → Src P W e n m d x us) {K : AV → AH → Bool} (h : aAppend P H e n m s vs K = true) :
    ∃ q H', K q H' = true ∧ DoesV P ρ E H w (Builtin.append_ ats ty #[v, x]) q H' := by
  unfold aAppend at h
  split at h
  · rename_i z i hz hi
    obtain ⟨hc, h'⟩ := cond_true' h
    clear h
    have h := h'
    clear h'
    simp only [Bool.and_eq_true] at hc
    obtain ⟨⟨⟨⟨c1, c2⟩, c3⟩, c4⟩, c5⟩ := hc
    have c1 := blt' c1; have c2 := beq_iff'.1 c2; have c3 := blt' c3; have c4 := blt' c4; have c5 := blt' c5
    obtain ⟨zv, hzr, hzv⟩ := zero_any (ρ := ρ) (E := E) hz
    have hzs : zv.cells.size = n := by have := (cells_sound hρ hzv (zero_noTop ‹_›)).length; simp at this; omega
    have hzw : ∀ W : World, ∀ z, (zeroValue e).run P w = .ok z w → (zeroValue e).run P W = .ok z W := fun W z hz => by
      rw [hzr] at hz; cases hz; exact hzr W
    have husz : us.size = m * n := by have := hV.length; simp at this; omega
    -- new memory
    have hnew : ∀ (base : Option Addr) (len cap : Nat) (old : Array Value) (ol : List AV) (K2 : AH → Bool), (∀ W : World, W.heap = w.heap → (Builtin.firstCells n len (.slice base len cap)).run P W = .ok old W) → VRs ρ E ol old.toList → ol.length = len * n → cap < len + m → len < 65536 →
        H.alloc (.cells (some n) (ol ++ vs)) K2 = true → ∃ H', K2 H' = true ∧ DoesV P ρ E H w (Builtin.append_ ats ty #[.slice base len cap, x]) (.slice H.next 0 (len + m) (len + m) false) H' := by
      intro base len cap old ol K2 hold hov hol hlt hlen hK
      obtain ⟨newCap, w', rest, hge, hrun, hp, hrest⟩ := append_new (ty := ty) h0 h1 hu hu' hn hi c4 c3 ⟨zv, hzr w, hzs⟩ hzw hsrc hold hlt (room_le c4 (.inl (by omega)) (.inl (by omega)))
      have hols : old.size = len * n := by have := hov.length; simp at this; omega
      have hsz : (old ++ us ++ rest).size = newCap * n := by
        rw [Array.size_append, Array.size_append, hols, husz, hrest, ← Nat.add_mul, ← Nat.add_mul]
        congr 1; omega
      obtain ⟨H', E', h1, h2, h3, h4⟩ := hR.make hK hp (sz := newCap * n) (z := n) fun E' hE hb =>
        ⟨old ++ us ++ rest, e, (0, 0), rfl, hsz, .inl rfl, by simp; omega, by
          have := (hov.append hV).mono hE
          have e1 : (old ++ us ++ rest).toList.take (ol ++ vs).length = old.toList ++ us.toList := by
            rw [Array.toList_append, Array.toList_append]
            exact List.take_left' (by have := (hov.append hV).length; omega)
          rw [e1]; exact this, fun z hz => by simpa using hz⟩
      exact ⟨H', h1, _, w', E', hrun, .sliceG _ _ _ _ _ _ h4 hge (by simp), h2, h3⟩
    split at h
    · cases hv
      rcases cond_split (p := fun z => z = true) h with ⟨hm, h⟩ | ⟨hm, h⟩
      · have hm := beq_iff'.1 hm
        subst hm
        refine ⟨_, _, h, .slice none 0 0, w, E, ?_, .nilSlice, hR, .refl⟩
        rw [append_in h0 h1 hu hu' hn hi c4 (hsrc w rfl) (by omega)]
      · have hm := beq_false'.1 hm
        have hf : ∀ W : World, W.heap = w.heap → (Builtin.firstCells n 0 (.slice none 0 0)).run P W = .ok #[] W := fun W _ => by simp [Builtin.firstCells]
        obtain ⟨H', h2, h3⟩ := hnew none 0 0 #[] [] _ hf .nil (by simp) (by omega) (by omega) h
        rw [Nat.zero_add] at h3
        exact ⟨_, _, h2, h3⟩
    · rename_i b off len cap ex
      obtain ⟨hc2, h⟩ := cond_true' h
      rw [Bool.and_eq_true] at hc2
      have d1 := blt' hc2.1; have d2 := blt' hc2.2
      rcases cond_split (p := fun z => z = true) h with ⟨hm, h⟩ | ⟨hm, h⟩
      · have hm := ble' hm
        have hr : ∃ r c', v = .slice (some ⟨r.blk, off, none⟩) len c' ∧ E b = some r ∧ cap ≤ c' ∧ VR ρ E (.slice b off (len + m) cap ex) (.slice (some ⟨r.blk, off, none⟩) (len + m) c') := by
          cases hv with
          | sliceX _ _ _ _ r hq => exact ⟨r, _, rfl, hq, Nat.le_refl _, .sliceX _ _ _ _ _ hq⟩
          | sliceG _ _ _ _ c' r hq hc hs => exact ⟨r, _, rfl, hq, hc, .sliceG _ _ _ _ _ _ hq hc hs⟩
        obtain ⟨r, c', rfl, hb, hcc, hvr⟩ := hr
        obtain ⟨H', w', h2, hrun, hR', hX⟩ := write_sound (P := P) hρ hR hb hV h
        rw [force_eq] at h2
        refine ⟨_, _, h2, _, w', E, ?_, hvr, hR', hX⟩
        rw [append_in h0 h1 hu hu' hn hi c4 (hsrc w rfl) (by omega)]
        simp only [add_none, hrun, Result.andThen_ok]
      · have hm : ¬ len + m ≤ cap := fun hh => by rw [Nat.ble_eq_true_of_le hh] at hm; cases hm
        split at h
        · cases hv with
          | sliceX _ _ _ _ r hb =>
            split at h
            · cases h
            · rename_i old hold
              obtain ⟨ov, ho1, ho2, ho3⟩ := elems_sound (P := P) hR hold (.sliceX _ _ _ _ r hb)
              have hol : old.length = len * n := by
                unfold elems at hold
                rcases cond_split (p := fun z => z = some old) hold with ⟨_, hold⟩ | ⟨_, hold⟩
                · split at hold
                  · obtain ⟨rfl, hx⟩ := span_spec hold
                    simp; omega
                  · cases hold
                · cases hold
              obtain ⟨H', h2, h3⟩ := hnew _ len cap ov old _ ho1 ho2 hol (by omega) (by omega) h
              rw [fNat_eq] at h2
              exact ⟨_, _, h2, h3⟩
        · obtain ⟨hoff, h⟩ := cond_true' h
          have hoff := beq_iff'.1 hoff
          subst hoff
          cases hv with
          | sliceG _ _ _ _ cap' r hb hcc hs =>
            obtain ⟨H', old, hK, ⟨c, cs, hbk, hold⟩, hesz, hleaf, hfin⟩ := grown_sound hR hb hV h
            obtain ⟨ca, elem, fr, hca, hsz, hfr, hle, hVc, _⟩ := cellsAt_rel hR (b := b) (g := some n) (cs := cs) (by simp [cellsAt, hbk]) hb
            obtain ⟨hol, hol2⟩ := firsts_spec hold
            have holl : old.length = len * n := by rw [hol]; simp; omega
            have hcap : cap' * n = ca.size := by rw [hsz, ← hs, hesz]; omega
            have hlc : len * n ≤ ca.size := by omega
            have hVold : VRs ρ E old (ca.toList.take (len * n)) := by
              have := hVc.take (len * n)
              rw [List.take_take, Nat.min_eq_left hol2, ← hol] at this
              exact this
            by_cases hin : len + m ≤ cap'
            · -- in place
              have hroom : len * n + us.toList.length ≤ ca.size := by
                have : (len + m) * n ≤ cap' * n := Nat.mul_le_mul_right _ hin
                rw [Nat.add_mul] at this
                simp; omega
              obtain ⟨c', ht, hc', hcs⟩ := turned_cells us.toList (len * n) ca w hca hroom
              have hone := leafy_one hρ hleaf hV
              have hst : (storeCells ⟨r.blk, len * n, none⟩ us.toList).run P w = .ok () (w.setCells r.blk (len * n) us.toList) := by
                have := run_storeCells_cells (P := P) r.blk (len * n) us.toList 0 w (fun j hj => ?_) (fun j hj => ?_) hone
                · simpa using this
                · rw [Nat.add_zero, World.cell?, hca]
                  have : len * n + j < ca.size := by omega
                  simp [this]
                · rw [World.frozen?, hca]
                  have : len * n + j < ca.size := by omega
                  rcases hfr with rfl | rfl <;> simp <;> omega
              have hll : (ca.toList.take (len * n)).length = len * n := by simp; omega
              have htake : c'.toList.take (old.length + vs.length) = ca.toList.take (len * n) ++ us.toList := by
                rw [hc', List.append_assoc, ← List.append_assoc]
                exact List.take_left' (by have := hV.length; simp at this; simp; omega)
              obtain ⟨hR', hX⟩ := hfin _ ⟨r.blk, r.size, n⟩ c' elem rfl (by simp; omega) (by rw [htake]; exact hVold.append hV) (by have := hV.length; simp at this hroom; omega)
                (.inr ⟨rfl, rfl, ca, fr, hca, ht, hcs, fun k hk => by
                  have : c'.toList[k]? = ca.toList[k]? := by
                    rw [hc', List.append_assoc, List.getElem?_append_left (by omega), List.getElem?_take, if_pos hk]
                  simpa using this⟩)
              refine ⟨_, _, hK, .slice (some ⟨r.blk, 0, none⟩) (len + m) cap', _, _, ?_, .sliceG _ _ _ _ _ ⟨r.blk, r.size, n⟩ (by simp [Env.with]) hin (by rw [hesz] at hs; exact hs), hR', hX⟩
              rw [append_in h0 h1 hu hu' hn hi c4 (hsrc w rfl) hin]
              simp only [add_none, Nat.zero_add, hst, Result.andThen_ok]
            · have hfo : ∀ W : World, W.heap = w.heap → (Builtin.firstCells n len (.slice (some ⟨r.blk, 0, none⟩) len cap')).run P W = .ok (ca.toList.take (len * n)).toArray W := fun W hW => by
                simp [Builtin.firstCells, run_cells (w := W) (by rw [hW]; exact hca) (n := len * n) (off := 0) (by omega)]
              obtain ⟨newCap, w', rest, hge, hrun, hp, hrest⟩ := append_new (ty := ty) h0 h1 hu hu' hn hi c4 c3 ⟨zv, hzr w, hzs⟩ hzw hsrc hfo (by omega) (room_le c4 (.inl (by omega)) (.inl (by omega)))
              have hsz2 : ((ca.toList.take (len * n)).toArray ++ us ++ rest).size = newCap * n := by
                rw [Array.size_append, Array.size_append, husz, hrest]
                have : (ca.toList.take (len * n)).toArray.size = len * n := by simp; omega
                rw [this, ← Nat.add_mul, ← Nat.add_mul]
                congr 1; omega
              have htake : ((ca.toList.take (len * n)).toArray ++ us ++ rest).toList.take (old.length + vs.length) = ca.toList.take (len * n) ++ us.toList := by
                rw [Array.toList_append, Array.toList_append]
                exact List.take_left' (by have := hV.length; simp at this; simp; omega)
              obtain ⟨hR', hX⟩ := hfin w' ⟨w.heap.size, newCap * n, n⟩ _ e rfl hsz2.symm (by rw [htake]; exact hVold.append hV) (by
                rw [hsz2, holl, hus, ← Nat.add_mul]; exact Nat.mul_le_mul_right _ hge) (.inl ⟨hp, rfl⟩)
              exact ⟨_, _, hK, _, w', _, hrun, .sliceG _ _ _ _ _ ⟨w.heap.size, newCap * n, n⟩ (by simp [Env.with]) hge (by simp), hR', hX⟩
    · cases h
  · cases h
/-- a block of which nothing may be known any more. -/
theorem Rel.bury (hR : Rel ρ E H w) {b : Nat} (hc : H.clsOf b = some b) (hm : H.mem.get b = some [b]) (hsq : E b = none → ∃ c z n f, H.tr.get b = some (.seq c z n f)) {K : AH → Bool} (h : H.put b .dead K = true) :
    ∃ H1, K H1 = true ∧ Rel ρ E H1 w ∧ Ext E H w E H1 w ∧ H1.next = H.next ∧ ∀ r, E b = some r → ∀ j rj, E j = some rj → rj.blk = r.blk → H1.tr.get j = some .dead := by
  obtain ⟨H1, h1, hn, hmm, hg⟩ := put_spec h
  have hcls : ∀ j d, H1.clsOf j = some d → j ≠ b ∧ H.clsOf j = some d := fun j d hj => by
    by_cases e : j = b
    · subst e; simp [AH.clsOf, hg, Blk.cls] at hj
    · refine ⟨e, ?_⟩
      simpa [AH.clsOf, hg, e] using hj
  refine ⟨H1, h1, ⟨fun j r hj => by rw [hn]; exact hR.dom j r hj, fun j rj hj => ?_, fun j j' rj rj' d d' hj hj' e hd hd' => hR.inj j j' rj rj' d d' hj hj' e (hcls _ _ hd).2 (hcls _ _ hd').2, fun j rj d hj hd => ?_, fun i o hi => ⟨(hR.dat i o hi).1, fun j rj d hj hd => (hR.dat i o hi).2 j rj d hj (hcls _ _ hd).2⟩⟩,
    ⟨.rfl', fun _ _ h => .inl h, rfl, rfl, rfl, Nat.le_refl _, fun _ _ _ => rfl, fun b r h h' => by rw [h'] at h; (cases h), by omega, fun j hj he hs => ?_⟩, hn, fun r hr j rj hj e => ?_⟩
  · obtain ⟨k1, k, k2, k3⟩ := hR.blk j rj hj
    refine ⟨k1, ?_⟩
    by_cases e : j = b
    · exact ⟨.dead, by rw [hg, if_pos e], trivial⟩
    · exact ⟨k, by rw [hg, if_neg e]; exact k2, k3⟩
  · rw [hmm]; exact hR.mem j rj d hj (hcls _ _ hd).2
  · have : j ≠ b := fun e => by
      subst e
      obtain ⟨c, z, n, f, h⟩ := hsq he
      exact hs c z n f h
    rw [hg, if_neg this, hmm]; exact ⟨rfl, rfl⟩
  · by_cases ej : j = b
    · rw [hg, if_pos ej]
    · rw [hg, if_neg ej]
      cases hcj : H.clsOf j with
      | some d =>
        exfalso
        have := hR.inj j b rj r d b hj hr e hcj hc
        subst this
        obtain ⟨_, l, hl, hjl, _⟩ := hR.mem j rj d hj hcj
        rw [hm] at hl; cases hl
        simp at hjl
        exact ej hjl
      | none =>
        obtain ⟨_, k, k2, _⟩ := hR.blk j rj hj
        rw [k2]
        simp only [AH.clsOf, k2, Option.bind_some] at hcj
        cases k <;> simp [Blk.cls] at hcj
        rfl
theorem newB_cls (n : NewB) (b : Nat) : (n.blk b).cls = some b := by cases n <;> rfl
/-- a new name for memory that no other name that may be looked at stands for. -/
theorem Rel.reborn (hR : Rel ρ E H w) {r : RB} {b0 : Nat} (hb0 : E b0 = some r) (hdead : ∀ j rj, E j = some rj → rj.blk = r.blk → H.tr.get j = some .dead) (hnf : ∀ i o, (E.all ρ).dat i = some o → r.blk ≠ i) {nb : NewB} {K : AH → Bool} (h : H.alloc nb K = true) {w' : World} {o : Obj} (ht : Turned w w' r.blk o)
    {r' : RB} (hr' : r'.blk = r.blk) (hB : ∀ E', E.le E' → E' H.next = some r' → BR ρ E' r' (nb.blk H.next) (some o)) : ∃ H', K H' = true ∧ Rel ρ (E.with H.next r') H' w' ∧ Ext E H w (E.with H.next r') H' w' := by
  obtain ⟨H', hK, hR', hX, hn, hg, hm, hold⟩ := hR.ghost h
  have hnone : E H.next = none := by
    cases he : E H.next with
    | none => rfl
    | some r => have := hR.dom _ _ he; omega
  have hle : E.le (E.with H.next r') := Env.with_le hnone
  have hself : E.with H.next r' H.next = some r' := by simp [Env.with]
  have hw : ∀ j rj, E.with H.next r' j = some rj → (j = H.next ∧ rj = r') ∨ (j ≠ H.next ∧ E j = some rj) := fun j rj hj => by
    rw [with_at] at hj
    split at hj
    · rename_i e; simp at hj; exact .inl ⟨e, hj.symm⟩
    · rename_i e; exact .inr ⟨e, hj⟩
  have hdead' : ∀ j rj, E j = some rj → rj.blk = r.blk → H'.tr.get j = some .dead := fun j rj hj e => by
    rw [(hold j (hR.dom _ _ hj)).1]; exact hdead j rj hj e
  have hcn : H'.clsOf H.next = some H.next := by simp only [AH.clsOf, hg, Option.bind_some]; exact newB_cls _ _
  have hnc : ∀ j rj, E j = some rj → rj.blk = r.blk → H'.clsOf j = none := fun j rj hj e => by simp [AH.clsOf, hdead' j rj hj e, Blk.cls]
  refine ⟨H', hK, ⟨fun j rj hj => ?_, fun j rj hj => ?_, fun j j' rj rj' d d' hj hj' e hd hd' => ?_, fun j rj d hj hd => ?_, fun i o' hi => ⟨?_, fun j rj d hj hd => ?_⟩⟩, ⟨hle, fun _ _ h => .inl h, ht.os, ht.tape, ht.output, by rw [ht.size]; omega, fun i hi hx => ht.old i fun e => hx b0 r hb0 e.symm, fun j rj hj he => ?_, by omega, hX.ghost⟩⟩
  · rcases hw j rj hj with ⟨rfl, _⟩ | ⟨_, hj⟩
    · omega
    · exact hR'.dom j rj hj
  · rcases hw j rj hj with ⟨rfl, rfl⟩ | ⟨_, hj⟩
    · exact ⟨by rw [hr', ht.size]; exact (hR.blk _ _ hb0).1, _, hg, by rw [hr', ht.at_]; exact hB _ hle hself⟩
    · obtain ⟨k1, k, k2, k3⟩ := hR'.blk j rj hj
      refine ⟨by rw [ht.size]; exact k1, ?_⟩
      by_cases e : rj.blk = r.blk
      · exact ⟨.dead, hdead' j rj hj e, trivial⟩
      · exact ⟨k, k2, by rw [ht.old _ e]; exact k3.mono hle⟩
  · rcases hw j rj hj with ⟨e1, e2⟩ | ⟨hjn, hj1⟩ <;> rcases hw j' rj' hj' with ⟨e3, e4⟩ | ⟨hjn', hj1'⟩
    · subst e1; subst e3; rw [hd] at hd'; cases hd'; rfl
    · subst e2
      rw [hnc j' rj' hj1' (by omega)] at hd'; cases hd'
    · subst e4
      rw [hnc j rj hj1 (by omega)] at hd; cases hd
    · exact hR'.inj j j' rj rj' d d' hj1 hj1' e hd hd'
  · rcases hw j rj hj with ⟨e1, e2⟩ | ⟨hjn, hj1⟩
    · subst e1
      rw [hcn] at hd; cases hd
      exact ⟨by rw [hself]; rfl, _, hm, by simp, fun x hx => by simp at hx; subst hx; rw [hself]; rfl⟩
    · obtain ⟨g1, l, g2, g3, g4⟩ := hR'.mem j rj d hj1 hd
      obtain ⟨rd, hrd⟩ := Option.isSome_iff_exists.1 g1
      exact ⟨by rw [hle _ _ hrd]; rfl, l, g2, g3, fun x hx => by obtain ⟨rx, hrx⟩ := Option.isSome_iff_exists.1 (g4 x hx); rw [hle _ _ hrx]; rfl⟩
  · rw [ht.old i fun e => hnf i o' hi e.symm]; exact (hR.dat i o' hi).1
  · rcases hw j rj hj with ⟨rfl, rfl⟩ | ⟨_, hj1⟩
    · rw [hr']; exact hnf i o' hi
    · exact (hR.dat i o' hi).2 j rj d hj1 (by simpa [AH.clsOf, (hold j (hR.dom _ _ hj1)).1] using hd)
  · rcases hw j rj hj with ⟨e1, e2⟩ | ⟨hjn, hj1⟩
    · subst e1; subst e2
      exact ⟨Nat.le_refl _, .inr ⟨b0, r, hb0, hr'.symm⟩⟩
    · rw [he] at hj1; cases hj1
theorem glue_rows {n k m : Nat} {f g : Nat → List AV} {A U R : List Value} (hA : A.length = k * n) (hU : U.length = m * n) (hf : ∀ i, i < k → VRs ρ E (f i) ((A.drop (i * n)).take n)) (hg : ∀ i, i < m → VRs ρ E (g i) ((U.drop (i * n)).take n)) :
    ∀ i, i < k + m → VRs ρ E (glue k f g i) (((A ++ U ++ R).drop (i * n)).take n) := fun i hi => by
  unfold glue
  by_cases h : i < k
  · rw [if_pos h]
    have h1 : (i + 1) * n ≤ k * n := Nat.mul_le_mul_right n h
    rw [Nat.succ_mul] at h1
    have := hf i h
    rw [List.append_assoc, List.drop_append_of_le_length (by omega), List.take_append_of_le_length (by rw [List.length_drop]; omega)]
    exact this
  · rw [if_neg h]
    have := hg (i - k) (by omega)
    have h1 : (i - k + 1) * n ≤ m * n := Nat.mul_le_mul_right n (by omega)
    rw [Nat.succ_mul] at h1
    have e : i * n = A.length + (i - k) * n := by rw [hA, ← Nat.add_mul]; congr 1; omega
    rw [List.append_assoc, e, ← List.drop_drop, List.drop_left, List.drop_append_of_le_length (by omega), List.take_append_of_le_length (by rw [List.length_drop]; omega)]
    exact this
theorem glue_len {n k m : Nat} {f g : Nat → List AV} (hf : ∀ i, i < k → (f i).length = n) (hg : ∀ i, i < m → (g i).length = n) : ∀ i, i < k + m → (glue k f g i).length = n := fun i hi => by
  unfold glue
  split
  · exact hf i ‹_›
  · exact hg _ (by omega)
theorem over_rows {z k m n : Nat} {f g : Nat → List AV} {L U : List Value} (hL : n * z ≤ L.length) (hU : U.length = m * z) (hkm : k + m ≤ n) (hf : ∀ j, j < n → (f j).length = z ∧ VRs ρ E (f j) ((L.drop (j * z)).take z))
    (hg : ∀ i, i < m → (g i).length = z ∧ VRs ρ E (g i) ((U.drop (i * z)).take z)) {L' : List Value} (hL' : L' = L.take (k * z) ++ U ++ L.drop (k * z + U.length)) :
    ∀ j, j < n → (over k m f g j).length = z ∧ VRs ρ E (over k m f g j) ((L'.drop (j * z)).take z) := fun j hj => by
  have hjz : (j + 1) * z ≤ n * z := Nat.mul_le_mul_right z hj
  have hkz : (k + m) * z ≤ n * z := Nat.mul_le_mul_right z hkm
  rw [Nat.succ_mul] at hjz
  rw [Nat.add_mul] at hkz
  have hA : (L.take (k * z)).length = k * z := by rw [List.length_take]; omega
  unfold over
  by_cases h1 : j < k
  · rw [if_pos h1]
    obtain ⟨a1, a2⟩ := hf j hj
    refine ⟨a1, ?_⟩
    have h2 : (j + 1) * z ≤ k * z := Nat.mul_le_mul_right z h1
    rw [Nat.succ_mul] at h2
    rw [hL', List.append_assoc, List.drop_append_of_le_length (by omega), List.take_append_of_le_length (by rw [List.length_drop]; omega), List.drop_take, List.take_take, Nat.min_eq_left (by omega)]
    exact a2
  · rw [if_neg h1]
    by_cases h2 : j < k + m
    · rw [if_pos h2]
      obtain ⟨a1, a2⟩ := hg (j - k) (by omega)
      refine ⟨a1, ?_⟩
      have h3 : (j - k + 1) * z ≤ m * z := Nat.mul_le_mul_right z (by omega)
      rw [Nat.succ_mul] at h3
      have e : j * z = (L.take (k * z)).length + (j - k) * z := by rw [hA, ← Nat.add_mul]; congr 1; omega
      rw [hL', List.append_assoc, e, ← List.drop_drop, List.drop_left, List.drop_append_of_le_length (by omega), List.take_append_of_le_length (by rw [List.length_drop]; omega)]
      exact a2
    · rw [if_neg h2]
      obtain ⟨a1, a2⟩ := hf j hj
      refine ⟨a1, ?_⟩
      have e : j * z = (L.take (k * z) ++ U).length + (j - (k + m)) * z := by rw [List.length_append, hA, hU, ← Nat.add_mul, ← Nat.add_mul]; congr 1; omega
      have e2 : k * z + U.length + (j - (k + m)) * z = j * z := by rw [hU, ← Nat.add_mul, ← Nat.add_mul]; congr 1; omega
      rw [hL', e, ← List.drop_drop, List.drop_left, List.drop_drop, e2]
      exact a2
theorem rows_one (hρ : ∀ i, (ρ i).oneCell' = true) {n m : Nat} {g : Nat → List AV} {U : List Value} (hn : 0 < n) (hU : U.length = m * n) (hk : RowsOK n m g) (hg : ∀ i, i < m → VRs ρ E (g i) ((U.drop (i * n)).take n)) : ∀ v ∈ U, v.oneCell' = true := fun v hv => by
  obtain ⟨j, hj, rfl⟩ := List.mem_iff_getElem.1 hv
  have hd := Nat.div_add_mod j n
  have hm := Nat.mod_lt j hn
  have hq : j / n < m := by
    rw [Nat.div_lt_iff_lt_mul hn]; omega
  refine leafy_one hρ (hk _ hq).2 (hg _ hq) _ ?_
  rw [List.mem_iff_getElem?]
  refine ⟨j % n, ?_⟩
  rw [List.getElem?_take, if_pos hm, List.getElem?_drop]
  have e : j / n * n + j % n = j := by rw [Nat.mul_comm]; exact hd
  rw [e]
  simp [hj]
theorem gAppend_sound (hρ : ∀ i, (ρ i).oneCell' = true) (hR : Rel ρ E H w) {ats : Array TypeId} {ty : TypeId} {t t' e n m : Nat} {d : TypeDesc} {s : AV} {v x : Value} {g : Nat → List AV} {us : Array Value} (h0 : ats[0]? = some t) (h1 : ats[1]? = some t')
    (hu : P.underlying t = some (.slice e)) (hu' : P.underlying t' = some d) (hn : size P e = some n) (hv : VR ρ E s v) (husz : us.size = m * n) (hV : ∀ i, i < m → VRs ρ E (g i) ((us.toList.drop (i * n)).take n))
    (hsrc : ∀ W : World, W.heap = w.heap → Src P W e n m d x us) {K : AV → AH → Bool} (h : gAppend P H e n m s g K = true) :
    ∃ q H', K q H' = true ∧ DoesV P ρ E H w (Builtin.append_ ats ty #[v, x]) q H' := by
  unfold gAppend at h
  split at h
  rotate_left
  · cases h
  rename_i z i hz hi
  obtain ⟨hc, h'⟩ := cond_true' h
  clear h
  simp only [Bool.and_eq_true] at hc
  obtain ⟨⟨⟨c1, c2⟩, c3⟩, c4⟩ := hc
  have c1 := blt' c1; have c2 := beq_iff'.1 c2; have c3 := blt' c3; have c4 := blt' c4
  obtain ⟨h, hf⟩ := lim_true h'
  clear h'
  obtain ⟨c5, hok⟩ : Small i.bytes m ∧ RowsOK n m g := by
    rcases hf with hf | ⟨hw, hf⟩
    · have := @of_decide_eq_true _ (Classical.propDecidable _) hf
      exact ⟨.inl this.1, this.2⟩
    · have := @of_decide_eq_true _ (Classical.propDecidable _) hf
      exact ⟨.inr ⟨blt' hw, this.1⟩, this.2⟩
  clear hf
  obtain ⟨zv, hzr, hzv⟩ := zero_any (ρ := ρ) (E := E) hz
  have hzs : zv.cells.size = n := by have := (cells_sound hρ hzv (zero_noTop hz)).length; simp at this; omega
  have hzw : ∀ W : World, ∀ z, (zeroValue e).run P w = .ok z w → (zeroValue e).run P W = .ok z W := fun W z hz => by
    rw [hzr] at hz; cases hz; exact hzr W
  have hul : us.toList.length = m * n := by simpa using husz
  -- into new memory, behind old rows
  have hnew : ∀ (H0 : AH) (base : Option Addr) (k cap : Nat) (old : Array Value) (f : Nat → List AV) (K2 : AH → Bool), Rel ρ E H0 w → Ext E H w E H0 w → (∀ W : World, W.heap = w.heap → (Builtin.firstCells n k (.slice base k cap)).run P W = .ok old W) → old.size = k * n → (∀ i, i < k → (f i).length = n) → (∀ i, i < k → VRs ρ E (f i) ((old.toList.drop (i * n)).take n)) → cap < k + m → Small i.bytes k →
      H0.alloc (.seq n (k + m) (glue k f g)) K2 = true → ∃ H', K2 H' = true ∧ DoesV P ρ E H w (Builtin.append_ ats ty #[.slice base k cap, x]) (.gsl H0.next (k + m)) H' := by
    intro H0 base k cap old f K2 hR0 hX0 hold hos hfl hfr hlt hk hK
    obtain ⟨newCap, w', rest, hge, hrun, hp, hrest⟩ := append_new (ty := ty) h0 h1 hu hu' hn hi c4 c3 ⟨zv, hzr w, hzs⟩ hzw hsrc hold hlt (room_le c4 hk c5)
    have hsz : (old ++ us ++ rest).size = newCap * n := by
      rw [Array.size_append, Array.size_append, hos, husz, hrest, ← Nat.add_mul, ← Nat.add_mul]
      congr 1; omega
    obtain ⟨H', E', g1, g2, g3, g4⟩ := hR0.make hK hp (sz := newCap * n) (z := n) fun E' hE hb =>
      ⟨old ++ us ++ rest, e, (0, 0), rfl, hsz, .inl rfl, by rw [hsz]; exact Nat.mul_le_mul_right n hge, rfl, c1, glue_len hfl fun i hi => (hok i hi).1, fun i hi => by
        rw [Array.toList_append, Array.toList_append]
        exact (glue_rows (by simpa using hos) hul hfr hV i hi).mono hE⟩
    exact ⟨H', g1, _, w', E', hrun, .gsl _ _ _ _ g4 hge rfl, g2, hX0.trans g3⟩
  -- nothing behind nothing
  have hzero : ∀ (H0 : AH) (a : Option Addr) (K2 : AH → Bool) (f : Nat → List AV), Rel ρ E H0 w → Ext E H w E H0 w → H0.alloc (.seq n m f) K2 = true → m = 0 → ∃ H', K2 H' = true ∧ DoesV P ρ E H w (Builtin.append_ ats ty #[.slice a 0 0, x]) (.gsl H0.next m) H' := by
    intro H0 a K2 f hR0 hX0 hK hm
    subst hm
    obtain ⟨H', g1, g2, g3, _⟩ := hR0.ghost hK
    have hu0 : us.toList = [] := List.eq_nil_of_length_eq_zero (by omega)
    refine ⟨H', g1, .slice a 0 0, w, E, ?_, .gsl0 _ _, g2, hX0.trans g3⟩
    rw [append_in h0 h1 hu hu' hn hi c4 (hsrc w rfl) (by omega)]
    cases a with
    | none => rfl
    | some a => simp [hu0, storeCells]
  have hempty : ∀ (H0 : AH) (a : Option Addr) (K2 : AH → Bool) (f : Nat → List AV), Rel ρ E H0 w → Ext E H w E H0 w → H0.alloc (.seq n m f) K2 = true → (∀ i, i < m → f i = g i) → ∃ H', K2 H' = true ∧ DoesV P ρ E H w (Builtin.append_ ats ty #[.slice a 0 0, x]) (.gsl H0.next m) H' := by
    intro H0 a K2 f hR0 hX0 hK hfg
    by_cases hm : m = 0
    · exact hzero H0 a K2 f hR0 hX0 hK hm
    · have hfo : ∀ W : World, W.heap = w.heap → (Builtin.firstCells n 0 (.slice a 0 0)).run P W = .ok #[] W := fun W _ => by cases a <;> simp [Builtin.firstCells, loadCells, loadCellsFrom]
      obtain ⟨newCap, w', rest, hge, hrun, hp, hrest⟩ := append_new (ty := ty) h0 h1 hu hu' hn hi c4 c3 ⟨zv, hzr w, hzs⟩ hzw hsrc hfo (by omega) (room_le c4 (.inl (by omega)) c5)
      rw [Nat.zero_add] at hge hrun hrest
      have hsz : (#[] ++ us ++ rest).size = newCap * n := by
        rw [Array.size_append, Array.size_append, husz, hrest]
        have : m * n + (newCap - m) * n = newCap * n := by rw [← Nat.add_mul]; congr 1; omega
        simp; omega
      obtain ⟨H', E', g1, g2, g3, g4⟩ := hR0.make hK hp (sz := newCap * n) (z := n) fun E' hE hb =>
        ⟨#[] ++ us ++ rest, e, (0, 0), rfl, hsz, .inl rfl, by rw [hsz]; exact Nat.mul_le_mul_right n hge, rfl, c1, fun i hi => by rw [hfg i hi]; exact (hok i hi).1, fun i hi => by
          have := glue_rows (ρ := ρ) (E := E) (n := n) (k := 0) (m := m) (f := g) (g := g) (A := []) (U := us.toList) (R := rest.toList) (by simp) hul (fun i hi => by omega) hV i (by omega)
          rw [Array.toList_append, Array.toList_append, hfg i hi]
          simp only [glue, Nat.not_lt_zero, if_false, Nat.sub_zero] at this
          exact this.mono hE⟩
      exact ⟨H', g1, _, w', E', hrun, .gsl _ _ _ _ g4 hge rfl, g2, hX0.trans g3⟩
  -- behind rows that a name stands for
  have hbehind : ∀ (b k cap' : Nat) (r : RB) (f : Nat → List AV) (c : Array Value) (elem : TypeId) (fr : Nat × Nat), E b = some r → H.clsOf b = some b → H.mem.get b = some [b] → w.heap[r.blk]? = some (.cells c elem fr) → c.size = r.size → (fr = (0, 0) ∨ fr = (c.size, c.size + 1)) → k * n ≤ c.size → r.esz = n → (∀ i, i < k → (f i).length = n) →
      (∀ i, i < k → VRs ρ E (f i) ((c.toList.drop (i * n)).take n)) → k ≤ cap' → cap' * r.esz = r.size → Small i.bytes k → (H.put b .dead fun H => H.alloc (.seq n (k + m) (glue k f g)) fun H1 => K (.gsl H.next (k + m)) H1) = true →
      ∃ q H', K q H' = true ∧ DoesV P ρ E H w (Builtin.append_ ats ty #[.slice (some ⟨r.blk, 0, none⟩) k cap', x]) q H' := by
    intro b k cap' r f c elem fr hb hcl hmem hw hsz hfr hkn hez hfl hfr' hkc hcap hk65 hK
    obtain ⟨H0, hK0, hR0, hX0, hn0, hdead⟩ := hR.bury hcl hmem (fun e => by rw [hb] at e; cases e) hK
    have hdead := hdead r hb
    have hcapn : cap' * n = c.size := by rw [hsz, ← hcap, hez]
    have hA : (c.toList.take (k * n)).length = k * n := by simp; omega
    have hfA : ∀ i, i < k → VRs ρ E (f i) (((c.toList.take (k * n)).drop (i * n)).take n) := fun i hi => by
      have h1 : (i + 1) * n ≤ k * n := Nat.mul_le_mul_right n hi
      rw [Nat.succ_mul] at h1
      rw [List.drop_take, List.take_take, Nat.min_eq_left (by omega)]
      exact hfr' i hi
    by_cases hin : k + m ≤ cap'
    · have hroom : k * n + us.toList.length ≤ c.size := by
        have : (k + m) * n ≤ cap' * n := Nat.mul_le_mul_right _ hin
        rw [Nat.add_mul] at this
        omega
      obtain ⟨c', ht, hc', hcs⟩ := turned_cells us.toList (k * n) c w hw hroom
      have hone := rows_one hρ c1 hul hok hV
      have hst : (storeCells ⟨r.blk, k * n, none⟩ us.toList).run P w = .ok () (w.setCells r.blk (k * n) us.toList) := by
        have := run_storeCells_cells (P := P) r.blk (k * n) us.toList 0 w (fun j hj => ?_) (fun j hj => ?_) hone
        · simpa using this
        · rw [Nat.add_zero, World.cell?, hw]
          have : k * n + j < c.size := by omega
          simp [this]
        · rw [World.frozen?, hw]
          have : k * n + j < c.size := by omega
          rcases hfr with rfl | rfl <;> simp <;> omega
      obtain ⟨H', g1, g2, g3⟩ := hR0.reborn hb hdead (fun i o hi => (hR.dat i o hi).2 _ r _ hb hcl) (r' := ⟨r.blk, r.size, n⟩) hK0 ht rfl fun E' hE hb' =>
        ⟨c', elem, fr, rfl, by rw [hcs]; exact hsz, by rw [hcs]; exact hfr, by
          rw [hcs, ← hcapn]; exact Nat.mul_le_mul_right n hin, rfl, c1, glue_len hfl fun i hi => (hok i hi).1, fun i hi => by
            rw [hc']
            exact (glue_rows hA hul hfA hV i hi).mono hE⟩
      refine ⟨_, H', g1, .slice (some ⟨r.blk, 0, none⟩) (k + m) cap', _, _, ?_, .gsl _ _ _ ⟨r.blk, r.size, n⟩ (by simp [Env.with]) hin (by rw [hez] at hcap; exact hcap), g2, hX0.trans g3⟩
      rw [append_in h0 h1 hu hu' hn hi c4 (hsrc w rfl) hin]
      simp only [add_none, Nat.zero_add, hst, Result.andThen_ok]
    · have hfo : ∀ W : World, W.heap = w.heap → (Builtin.firstCells n k (.slice (some ⟨r.blk, 0, none⟩) k cap')).run P W = .ok (c.toList.take (k * n)).toArray W := fun W hW => by
        simp [Builtin.firstCells, run_cells (w := W) (by rw [hW]; exact hw) (n := k * n) (off := 0) (by omega)]
      obtain ⟨H', g1, g2⟩ := hnew H0 _ k cap' _ f _ hR0 hX0 hfo (by simpa using hA) hfl (by simpa using hfA) (by omega) hk65 hK0
      exact ⟨_, H', g1, g2⟩
  split at h
  · cases hv
    obtain ⟨H', g1, g2⟩ := hempty H none _ g hR .refl h fun _ _ => rfl
    exact ⟨_, H', g1, g2⟩
  · cases hv with
    | sliceX _ _ _ _ r hb =>
      obtain ⟨H', g1, g2⟩ := hempty H _ _ g hR .refl h fun _ _ => rfl
      exact ⟨_, H', g1, g2⟩
  · rename_i b k
    split at h
    · rename_i z' nn f hs
      obtain ⟨hzz, h'⟩ := cond_true' h
      clear h
      obtain rfl := beq_iff'.1 hzz
      obtain ⟨h, hfk⟩ := lim_true h'
      clear h'
      obtain ⟨hkn, hk65⟩ : k ≤ nn ∧ Small i.bytes k := by
        rcases hfk with hfk | ⟨hw, hfk⟩
        · exact ⟨(of_decide_eq_true hfk).1, .inl (of_decide_eq_true hfk).2⟩
        · exact ⟨(of_decide_eq_true hfk).1, .inr ⟨blt' hw, (of_decide_eq_true hfk).2⟩⟩
      obtain ⟨hcl, hmem, hsq⟩ := seq_one hs
      cases hv with
      | gsl _ _ cap r hb hc hcs =>
        obtain ⟨c, elem, fr, hw, e1, e2, e3, e4, e5, e6, e8⟩ := seq_rel hR hs hb
        exact hbehind b k cap r f c elem fr hb hcl hmem hw e1 e2 (Nat.le_trans (Nat.mul_le_mul_right _ hkn) e3) e4 (fun i hi => e6 i (by omega)) (fun i hi => e8 i (by omega)) hc hcs hk65 h
      | gsl0 _ a =>
        obtain ⟨H0, hK0, hR0, hX0, hn0, _⟩ := hR.bury hcl hmem (fun _ => hsq) h
        have e0 : 0 + m = m := Nat.zero_add m
        rw [e0] at hK0
        obtain ⟨H', g1, g2⟩ := hempty H0 a _ _ hR0 hX0 hK0 fun i hi => by simp [glue]
        exact ⟨_, H', g1, g2⟩
    · cases h
  · rename_i b k cap
    split at h
    · rename_i c0 z' cs x hbk hml
      obtain ⟨hcc, h'⟩ := cond_true' h
      clear h
      have h := h'
      clear h'
      simp only [Bool.and_eq_true] at hcc
      obtain ⟨⟨⟨⟨d1, d2⟩, d3⟩, d4⟩, d5⟩ := hcc
      obtain rfl := beq_iff'.1 d1
      obtain rfl := beq_iff'.1 d2
      obtain rfl := beq_iff'.1 d3
      have d4 := ble' d4; have d5 := blt' d5
      cases hv with
      | sliceG _ _ _ _ cap' r hb hcc hs =>
        obtain ⟨ca, elem, fr, hca, hsz, hfr, hle, hVc, hez⟩ := cellsAt_rel hR (g := some n) (cs := cs) (by simp [cellsAt, hbk]) hb
        have hrl : ∀ i, i < k → (i + 1) * n ≤ k * n := fun i hi => Nat.mul_le_mul_right n hi
        -- of the cells only those that are rows are asked for
        refine hbehind _ k cap' r _ ca elem fr hb (by simp [AH.clsOf, hbk, Blk.cls]) hml hca hsz hfr (by omega) (hez n rfl) (fun i hi => ?_) (fun i hi => ?_) ?_ (by omega) (.inl d5) h
        · have := hrl i hi
          rw [Nat.succ_mul] at this
          simp; omega
        · have h2 := hrl i hi
          rw [Nat.succ_mul] at h2
          have := (hVc.drop (i * n)).take n
          rw [List.drop_take, List.take_take, Nat.min_eq_left (by omega)] at this
          exact this
        · have h2 : k * n ≤ cap' * n := by rw [hez n rfl] at hs; omega
          exact Nat.le_of_mul_le_mul_right h2 c1
    · cases h
  · cases h
theorem part_gsl {b n : Nat} {v : Value} (h : VR ρ E (.part b 0 n) v) : VR ρ E (.gsl b n) v := by
  cases h with
  | part _ _ _ cap a r hr hc hq ha =>
    rw [Nat.zero_add] at hq
    rcases ha with rfl | rfl
    · obtain rfl : n = 0 := by omega
      exact .gsl0 _ _
    · rw [Nat.zero_mul]
      exact .gsl _ _ _ r hr hc hq
theorem gOver_sound (hρ : ∀ i, (ρ i).oneCell' = true) (hR : Rel ρ E H w) {ats : Array TypeId} {ty : TypeId} {t t' e n m b k : Nat} {d : TypeDesc} {v x : Value} {g : Nat → List AV} {us : Array Value} (h0 : ats[0]? = some t) (h1 : ats[1]? = some t')
    (hu : P.underlying t = some (.slice e)) (hu' : P.underlying t' = some d) (hn : size P e = some n) (hv : VR ρ E (.part b 0 k) v) (husz : us.size = m * n) (hV : ∀ i, i < m → VRs ρ E (g i) ((us.toList.drop (i * n)).take n))
    (hsrc : ∀ W : World, W.heap = w.heap → Src P W e n m d x us) {K : AV → AH → Bool} (h : gOver P H e n m b k g K = true) :
    ∃ q H', K q H' = true ∧ DoesV P ρ E H w (Builtin.append_ ats ty #[v, x]) q H' := by
  unfold gOver at h
  split at h
  rotate_left
  · cases h
  rename_i i z' nn f hi hs
  obtain ⟨hc, h'⟩ := cond_true' h
  clear h
  rw [Bool.and_eq_true] at hc
  obtain rfl := beq_iff'.1 hc.1
  have c4 := blt' hc.2
  obtain ⟨hd, h⟩ := fork_true' h'
  clear h'
  obtain ⟨hkm, hok⟩ := @of_decide_eq_true _ (Classical.propDecidable _) hd
  have hul : us.toList.length = m * n := by simpa using husz
  obtain ⟨hcl, hmem, hsq⟩ := seq_one hs
  cases hv with
  | part _ _ _ cap a r hb hc hq ha =>
    rw [Nat.zero_add] at hq
    obtain ⟨c, elem, fr, hw, e1, e2, e3, e4, e5, e6, e8⟩ := seq_rel hR hs hb
    have hkmn : (k + m) * n ≤ nn * n := Nat.mul_le_mul_right n hkm
    have hin : k + m ≤ cap := by
      rw [e4] at hq
      exact Nat.le_of_mul_le_mul_right (by omega : (k + m) * n ≤ cap * n) e5
    rw [Nat.add_mul] at hkmn
    obtain ⟨H0, hK0, hR0, hX0, hn0, hdead⟩ := hR.bury hcl hmem (fun e => by rw [hb] at e; cases e) h
    have hdead := hdead r hb
    obtain ⟨c', ht, hc', hcs⟩ := turned_cells us.toList (k * n) c w hw (by omega)
    have hone := rows_one hρ e5 hul hok hV
    have hst : (storeCells ⟨r.blk, k * n, none⟩ us.toList).run P w = .ok () (w.setCells r.blk (k * n) us.toList) := by
      have := run_storeCells_cells (P := P) r.blk (k * n) us.toList 0 w (fun j hj => ?_) (fun j hj => ?_) hone
      · simpa using this
      · rw [Nat.add_zero, World.cell?, hw]
        have : k * n + j < c.size := by omega
        simp [this]
      · rw [World.frozen?, hw]
        have : k * n + j < c.size := by omega
        rcases e2 with rfl | rfl <;> simp <;> omega
    have hrows := over_rows (ρ := ρ) (E := E) (L := c.toList) (f := f) (by simpa using e3) hul hkm (fun j hj => ⟨e6 j hj, e8 j hj⟩) (fun i hi => ⟨(hok i hi).1, hV i hi⟩) hc'
    obtain ⟨H', g1, g2, g3⟩ := hR0.reborn hb hdead (fun i o hi => (hR.dat i o hi).2 _ r _ hb hcl) (r' := ⟨r.blk, r.size, n⟩) hK0 ht rfl fun E' hE hb' =>
      ⟨c', elem, fr, rfl, by rw [hcs]; exact e1, by rw [hcs]; exact e2, by rw [hcs]; exact e3, rfl, e5, fun i hi => (hrows i hi).1, fun i hi => (hrows i hi).2.mono hE⟩
    have hend : ∀ a', (cap = 0 ∨ a' = (⟨r.blk, 0 * n, none⟩ : Addr)) → (Builtin.append_ ats ty #[.slice (some a') k cap, x]).run P w = .ok (.slice (some a') (k + m) cap) (w.setCells r.blk (k * n) us.toList) := fun a' ha' => by
      rw [append_in h0 h1 hu hu' hn hi c4 (hsrc w rfl) hin]
      rcases ha' with h0' | rfl
      · have hm0 : m = 0 := by omega
        have hu0 : us.toList = [] := List.eq_nil_of_length_eq_zero (by rw [hul, hm0, Nat.zero_mul])
        rw [hu0] at hst ⊢
        have hst0 : ∀ a'' : Addr, (storeCells a'' []).run P w = .ok () w := fun _ => rfl
        rw [hst0] at hst
        injection hst with _ hst
        show ((storeCells (a'.add (k * n)) []).run P w).andThen (fun _ w' => Result.ok (Value.slice (some a') (k + m) cap) w') = _
        rw [hst0, Result.andThen_ok, ← hst]
      · simp only [add_none, Nat.zero_mul, Nat.zero_add, hst, Result.andThen_ok]
    refine ⟨_, H', g1, .slice (some a) (k + m) cap, _, _, hend a (by rw [e4] at ha; exact ha), .part _ 0 _ _ _ ⟨r.blk, r.size, n⟩ (by simp [Env.with]) hin (by rw [Nat.zero_add]; rw [e4] at hq; exact hq) (by rw [e4] at ha; exact ha), g2, hX0.trans g3⟩
theorem gPut_sound (hρ : ∀ i, (ρ i).oneCell' = true) (hR : Rel ρ E H w) {ats : Array TypeId} {ty : TypeId} {t t' e n m : Nat} {d : TypeDesc} {s xa : AV} {v x : Value} {g : Nat → List AV} {us : Array Value} (h0 : ats[0]? = some t) (h1 : ats[1]? = some t')
    (hu : P.underlying t = some (.slice e)) (hu' : P.underlying t' = some d) (hn : size P e = some n) (hv : VR ρ E s v) (husz : us.size = m * n) (hV : ∀ i, i < m → VRs ρ E (g i) ((us.toList.drop (i * n)).take n))
    (hsrc : ∀ W : World, W.heap = w.heap → Src P W e n m d x us) {K : AV → AH → Bool} (h : gPut P H e n m s xa g K = true) :
    ∃ q H', K q H' = true ∧ DoesV P ρ E H w (Builtin.append_ ats ty #[v, x]) q H' := by
  unfold gPut at h
  split at h
  · rcases cond_split (p := fun z => z = true) h with ⟨_, h⟩ | ⟨_, h⟩
    · exact gOver_sound hρ hR h0 h1 hu hu' hn hv husz hV hsrc h
    · exact gAppend_sound hρ hR h0 h1 hu hu' hn (part_gsl hv) husz hV hsrc h
  · exact gAppend_sound hρ hR h0 h1 hu hu' hn (part_gsl hv) husz hV hsrc h
  · exact gAppend_sound hρ hR h0 h1 hu hu' hn hv husz hV hsrc h
end Go.Proofs.Ytkdmlpmjfnjnmaa.Sv
