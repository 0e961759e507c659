import Derived.Test.YtandjcalokecjaaEvj
/-! operations that write: append. -/
namespace Go.Proofs.Ytandjcalokecjaa.Ev
open Go Go.RowKit
set_option linter.unusedVariables false
set_option linter.unusedSimpArgs false
variable {P : Program} {ρ : Nat → Value} {E : Env} {H : AH} {w : World}

theorem Rel.same {W : World} (h : Rel ρ E H w) (e : W.heap = w.heap) : Rel ρ E H W :=
  ⟨h.dom, fun b r hb => by rw [e]; exact h.blk b r hb, h.inj, h.mem⟩
/-- a program text that tells a value, and leaves memory as the abstract memory says. -/
def DoesV (P : Program) (ρ : Nat → Value) (E : Env) (H : AH) (w : World) (s : Sem Value) (x : AV) (H' : AH) : Prop :=
  ∃ v w' E', s.run P w = .ok v w' ∧ VR ρ E' x v ∧ Rel ρ E' H' w' ∧ Ext E H w E' H' w'

theorem zero_any {e : TypeId} {a : AV} (h : zero P e = some a) : ∃ v, (∀ W : World, (zeroValue e).run P W = .ok v W) ∧ VR ρ E a v := by
  unfold zero at h
  cases hi : P.info? e with
  | none => simp [hi] at h
  | some i =>
    simp only [hi] at h
    cases hz : i.zero with
    | none => simp [hz] at h
    | some v =>
      simp only [hz] at h
      exact ⟨v, fun W => by simp [zeroValue, run_info hi, hz], ofV_sound h⟩

theorem aAppend_sound (hρ : ∀ i, (ρ i).oneCell' = true) (hR : Rel ρ E H w) {ats : Array TypeId} {ty : TypeId} {t t' e n m : Nat} {d : TypeDesc} {s : AV} {v x : Value} {vs : List AV} {us : Array Value} (h0 : ats[0]? = some t) (h1 : ats[1]? = some t')
    (hu : P.underlying t = some (.slice e)) (hu' : P.underlying t' = some d) (hn : size P e = some n) (hv : VR ρ E s v) (hV : VRs ρ E vs us.toList) (hus : vs.length = m * n)
    (hsrc : ∀ W : World, W.heap = w.heap → Src P W e n m d x us) {K : AV → AH → Bool} (h : aAppend P H e n m s vs K = true) :
    ∃ q H', K q H' = true ∧ DoesV P ρ E H w (Builtin.append_ ats ty #[v, x]) q H' := by
  unfold aAppend at h
  split at h
  · rename_i z i hz hi
    obtain ⟨hc, h'⟩ := cond_true' h
    clear h
    have h := h'
    clear h'
    simp only [Bool.and_eq_true] at hc
    obtain ⟨⟨⟨⟨c1, c2⟩, c3⟩, c4⟩, c5⟩ := hc
    have c1 := blt' c1; have c2 := beq_iff'.1 c2; have c3 := blt' c3; have c4 := blt' c4; have c5 := blt' c5
    obtain ⟨zv, hzr, hzv⟩ := zero_any (ρ := ρ) (E := E) hz
    have hzs : zv.cells.size = n := by have := (cells_sound hρ hzv).length; simp at this; omega
    have hzw : ∀ W : World, ∀ z, (zeroValue e).run P w = .ok z w → (zeroValue e).run P W = .ok z W := fun W z hz => by
      rw [hzr] at hz; cases hz; exact hzr W
    have husz : us.size = m * n := by have := hV.length; simp at this; omega
    -- new memory
    have hnew : ∀ (base : Option Addr) (len cap : Nat) (old : Array Value) (ol : List AV) (K2 : AH → Bool), (∀ W : World, W.heap = w.heap → (Builtin.firstCells n len (.slice base len cap)).run P W = .ok old W) → VRs ρ E ol old.toList → ol.length = len * n → cap < len + m → len < 65536 →
        H.alloc (.cells (some n) (ol ++ vs)) K2 = true → ∃ H', K2 H' = true ∧ DoesV P ρ E H w (Builtin.append_ ats ty #[.slice base len cap, x]) (.slice H.next 0 (len + m) (len + m) false) H' := by
      intro base len cap old ol K2 hold hov hol hlt hlen hK
      obtain ⟨newCap, w', rest, hge, hrun, hp, hrest⟩ := append_new (ty := ty) h0 h1 hu hu' hn hi c4 c3 ⟨zv, hzr w, hzs⟩ hzw hsrc hold hlt (by omega)
      have hols : old.size = len * n := by have := hov.length; simp at this; omega
      have hsz : (old ++ us ++ rest).size = newCap * n := by
        rw [Array.size_append, Array.size_append, hols, husz, hrest, ← Nat.add_mul, ← Nat.add_mul]
        congr 1; omega
      obtain ⟨H', E', h1, h2, h3, h4⟩ := hR.make hK hp (sz := newCap * n) (z := n) fun E' hE hb =>
        ⟨old ++ us ++ rest, e, (0, 0), rfl, hsz, .inl rfl, by simp; omega, by
          have := (hov.append hV).mono hE
          have e1 : (old ++ us ++ rest).toList.take (ol ++ vs).length = old.toList ++ us.toList := by
            rw [Array.toList_append, Array.toList_append]
            exact List.take_left' (by have := (hov.append hV).length; omega)
          rw [e1]; exact this, fun z hz => by simpa using hz⟩
      exact ⟨H', h1, _, w', E', hrun, .sliceG _ _ _ _ _ _ h4 hge (by simp), h2, h3⟩
    split at h
    · cases hv
      rcases cond_split (p := fun z => z = true) h with ⟨hm, h⟩ | ⟨hm, h⟩
      · have hm := beq_iff'.1 hm
        subst hm
        refine ⟨_, _, h, .slice none 0 0, w, E, ?_, .nilSlice, hR, .refl⟩
        rw [append_in h0 h1 hu hu' hn hi c4 (hsrc w rfl) (by omega)]
      · have hm := beq_false'.1 hm
        have hf : ∀ W : World, W.heap = w.heap → (Builtin.firstCells n 0 (.slice none 0 0)).run P W = .ok #[] W := fun W _ => by simp [Builtin.firstCells]
        obtain ⟨H', h2, h3⟩ := hnew none 0 0 #[] [] _ hf .nil (by simp) (by omega) (by omega) h
        rw [Nat.zero_add] at h3
        exact ⟨_, _, h2, h3⟩
    · rename_i b off len cap ex
      obtain ⟨hc2, h⟩ := cond_true' h
      rw [Bool.and_eq_true] at hc2
      have d1 := blt' hc2.1; have d2 := blt' hc2.2
      rcases cond_split (p := fun z => z = true) h with ⟨hm, h⟩ | ⟨hm, h⟩
      · have hm := ble' hm
        have hr : ∃ r c', v = .slice (some ⟨r.blk, off, none⟩) len c' ∧ E b = some r ∧ cap ≤ c' ∧ VR ρ E (.slice b off (len + m) cap ex) (.slice (some ⟨r.blk, off, none⟩) (len + m) c') := by
          cases hv with
          | sliceX _ _ _ _ r hq => exact ⟨r, _, rfl, hq, Nat.le_refl _, .sliceX _ _ _ _ _ hq⟩
          | sliceG _ _ _ _ c' r hq hc hs => exact ⟨r, _, rfl, hq, hc, .sliceG _ _ _ _ _ _ hq hc hs⟩
        obtain ⟨r, c', rfl, hb, hcc, hvr⟩ := hr
        obtain ⟨H', w', h2, hrun, hR', hX⟩ := write_sound (P := P) hρ hR hb hV h
        rw [force_eq] at h2
        refine ⟨_, _, h2, _, w', E, ?_, hvr, hR', hX⟩
        rw [append_in h0 h1 hu hu' hn hi c4 (hsrc w rfl) (by omega)]
        simp only [add_none, hrun, Result.andThen_ok]
      · have hm : ¬ len + m ≤ cap := fun hh => by rw [Nat.ble_eq_true_of_le hh] at hm; cases hm
        split at h
        · cases hv with
          | sliceX _ _ _ _ r hb =>
            split at h
            · cases h
            · rename_i old hold
              obtain ⟨ov, ho1, ho2, ho3⟩ := elems_sound (P := P) hR hold (.sliceX _ _ _ _ r hb)
              have hol : old.length = len * n := by
                unfold elems at hold
                rcases cond_split (p := fun z => z = some old) hold with ⟨_, hold⟩ | ⟨_, hold⟩
                · split at hold
                  · obtain ⟨rfl, hx⟩ := span_spec hold
                    simp; omega
                  · cases hold
                · cases hold
              obtain ⟨H', h2, h3⟩ := hnew _ len cap ov old _ ho1 ho2 hol (by omega) (by omega) h
              rw [fNat_eq] at h2
              exact ⟨_, _, h2, h3⟩
        · obtain ⟨hoff, h⟩ := cond_true' h
          have hoff := beq_iff'.1 hoff
          subst hoff
          cases hv with
          | sliceG _ _ _ _ cap' r hb hcc hs =>
            obtain ⟨H', old, hK, ⟨c, cs, hbk, hold⟩, hesz, hleaf, hfin⟩ := grown_sound hR hb hV h
            obtain ⟨ca, elem, fr, hca, hsz, hfr, hle, hVc, _⟩ := cellsAt_rel hR (b := b) (g := some n) (cs := cs) (by simp [cellsAt, hbk]) hb
            obtain ⟨hol, hol2⟩ := firsts_spec hold
            have holl : old.length = len * n := by rw [hol]; simp; omega
            have hcap : cap' * n = ca.size := by rw [hsz, ← hs, hesz]; omega
            have hlc : len * n ≤ ca.size := by omega
            have hVold : VRs ρ E old (ca.toList.take (len * n)) := by
              have := hVc.take (len * n)
              rw [List.take_take, Nat.min_eq_left hol2, ← hol] at this
              exact this
            by_cases hin : len + m ≤ cap'
            · -- in place
              have hroom : len * n + us.toList.length ≤ ca.size := by
                have : (len + m) * n ≤ cap' * n := Nat.mul_le_mul_right _ hin
                rw [Nat.add_mul] at this
                simp; omega
              obtain ⟨c', ht, hc', hcs⟩ := turned_cells us.toList (len * n) ca w hca hroom
              have hone := leafy_one hρ hleaf hV
              have hst : (storeCells ⟨r.blk, len * n, none⟩ us.toList).run P w = .ok () (w.setCells r.blk (len * n) us.toList) := by
                have := run_storeCells_cells (P := P) r.blk (len * n) us.toList 0 w (fun j hj => ?_) (fun j hj => ?_) hone
                · simpa using this
                · rw [Nat.add_zero, World.cell?, hca]
                  have : len * n + j < ca.size := by omega
                  simp [this]
                · rw [World.frozen?, hca]
                  have : len * n + j < ca.size := by omega
                  rcases hfr with rfl | rfl <;> simp <;> omega
              have hll : (ca.toList.take (len * n)).length = len * n := by simp; omega
              have htake : c'.toList.take (old.length + vs.length) = ca.toList.take (len * n) ++ us.toList := by
                rw [hc', List.append_assoc, ← List.append_assoc]
                exact List.take_left' (by have := hV.length; simp at this; simp; omega)
              obtain ⟨hR', hX⟩ := hfin _ ⟨r.blk, r.size, n⟩ c' elem rfl (by simp; omega) (by rw [htake]; exact hVold.append hV) (by have := hV.length; simp at this hroom; omega)
                (.inr ⟨rfl, rfl, ca, fr, hca, ht, hcs, fun k hk => by
                  have : c'.toList[k]? = ca.toList[k]? := by
                    rw [hc', List.append_assoc, List.getElem?_append_left (by omega), List.getElem?_take, if_pos hk]
                  simpa using this⟩)
              refine ⟨_, _, hK, .slice (some ⟨r.blk, 0, none⟩) (len + m) cap', _, _, ?_, .sliceG _ _ _ _ _ ⟨r.blk, r.size, n⟩ (by simp [Env.with]) hin (by rw [hesz] at hs; exact hs), hR', hX⟩
              rw [append_in h0 h1 hu hu' hn hi c4 (hsrc w rfl) hin]
              simp only [add_none, Nat.zero_add, hst, Result.andThen_ok]
            · have hfo : ∀ W : World, W.heap = w.heap → (Builtin.firstCells n len (.slice (some ⟨r.blk, 0, none⟩) len cap')).run P W = .ok (ca.toList.take (len * n)).toArray W := fun W hW => by
                simp [Builtin.firstCells, run_cells (w := W) (by rw [hW]; exact hca) (n := len * n) (off := 0) (by omega)]
              obtain ⟨newCap, w', rest, hge, hrun, hp, hrest⟩ := append_new (ty := ty) h0 h1 hu hu' hn hi c4 c3 ⟨zv, hzr w, hzs⟩ hzw hsrc hfo (by omega) (by omega)
              have hsz2 : ((ca.toList.take (len * n)).toArray ++ us ++ rest).size = newCap * n := by
                rw [Array.size_append, Array.size_append, husz, hrest]
                have : (ca.toList.take (len * n)).toArray.size = len * n := by simp; omega
                rw [this, ← Nat.add_mul, ← Nat.add_mul]
                congr 1; omega
              have htake : ((ca.toList.take (len * n)).toArray ++ us ++ rest).toList.take (old.length + vs.length) = ca.toList.take (len * n) ++ us.toList := by
                rw [Array.toList_append, Array.toList_append]
                exact List.take_left' (by have := hV.length; simp at this; simp; omega)
              obtain ⟨hR', hX⟩ := hfin w' ⟨w.heap.size, newCap * n, n⟩ _ e rfl hsz2.symm (by rw [htake]; exact hVold.append hV) (by
                rw [hsz2, holl, hus, ← Nat.add_mul]; exact Nat.mul_le_mul_right _ hge) (.inl ⟨hp, rfl⟩)
              exact ⟨_, _, hK, _, w', _, hrun, .sliceG _ _ _ _ _ ⟨w.heap.size, newCap * n, n⟩ (by simp [Env.with]) hge (by simp), hR', hX⟩
    · cases h
  · cases h
end Go.Proofs.Ytandjcalokecjaa.Ev
